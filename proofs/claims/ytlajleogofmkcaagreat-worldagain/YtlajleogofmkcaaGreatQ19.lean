import Derived.Test.YtlajleogofmkcaaGreatQ16
import Derived.Test.YtlajleogofmkcaaGreatQ18
import Derived.Test.YtlajleogofmkcaaGreatRows
import Derived.WalkKit
import Derived.WalkSpells
import Derived.WalkLawsBesides
import Derived.Laws.Tables
import Derived.Laws.Rows
import Derived.Laws.CopyOwn
import Derived.Laws.BitsAllLaws
import Derived.Deep.MidRow
import Derived.BigRegion
import Derived.BigQuiet
import Derived.StillTailTactics
set_option maxHeartbeats 8000000
set_option maxRecDepth 100000
namespace Go.Proofs.YtlajleogofmkcaaGreat.LL
structure Lk where
 t:Bool
 l:Int
 n:Int
namespace LM
def ah(l s:Int):Int:=(s-l)%65536
def nw(x:Lk)(s:Int):Bool:= !x.t||(decide (1≤ah x.l s)&&decide (ah x.l s≤32767))
def err(x:Lk)(s:Int):Int:=if s<0∨65535<s then 1 else if nw x s=true then 0 else 7
def tk(x:Lk)(s:Int):Lk:=if err x s=0 then⟨true,s,0⟩else x
def ti(x:Lk):Lk:=if x.t=true then⟨true,x.l,x.n+1⟩else x
def si(x:Lk):Int:=if x.t=true then x.n else -1
def li(x:Lk)(k:Int):Bool:=x.t&&decide (x.n<k)
def z:Lk:=⟨false,0,0⟩
structure Ok(x:Lk)(N:Int):Prop where
 l0:0≤x.l
 l1:x.l≤65535
 n0:0≤x.n
 n1:x.n≤N
theorem ok_z:Ok z 0:=⟨by simp[z],by simp[z],by simp[z],by simp[z]⟩
theorem Ok.mono{x:Lk}{N M:Int}(h:Ok x N)(hm:N≤M):Ok x M:=⟨h.l0,h.l1,h.n0,by have:=h.n1;omega⟩
theorem err_arg{x:Lk}{s:Int}(h:s<0∨65535<s):err x s=1:=by unfold err;rw[if_pos h]
theorem err_new{x:Lk}{s:Int}(h0:0≤s)(h1:s≤65535)(h:nw x s=true):err x s=0:=by
 unfold err;rw[if_neg (by omega),if_pos h]
theorem err_old{x:Lk}{s:Int}(h0:0≤s)(h1:s≤65535)(h:nw x s=false):err x s=7:=by
 unfold err;rw[if_neg (by omega),if_neg (by rw[h];simp)]
theorem tk_new{x:Lk}{s:Int}(h:err x s=0):tk x s=⟨true,s,0⟩:=by unfold tk;rw[if_pos h]
theorem tk_same{x:Lk}{s:Int}(h:err x s≠0):tk x s=x:=by unfold tk;rw[if_neg h]
theorem err_range{x:Lk}{s:Int}(h:err x s=0):0≤s∧s≤65535:=by
 unfold err at h;split at h
 ·omega
 ·omega
theorem Ok.tk{x:Lk}{N:Int}(h:Ok x N)(s:Int)(hN:0≤N):Ok (tk x s) N:=by
 by_cases he:err x s=0
 ·rw[tk_new he];have:=err_range he;exact⟨this.1,this.2,Int.le_refl _,hN⟩
 ·rw[tk_same he];exact h
theorem Ok.ti{x:Lk}{N:Int}(h:Ok x N):Ok (ti x) (N+1):=by
 have:=h.n0;have:=h.n1;unfold LM.ti;split
 ·exact⟨h.l0,h.l1,by show 0≤x.n+1;omega,by show x.n+1≤N+1;omega⟩
 ·exact h.mono (by omega)
theorem nw_first{x:Lk}(s:Int)(h:x.t=false):nw x s=true:=by simp[nw,h]
theorem nw_ahead{x:Lk}{s:Int}(h1:1≤ah x.l s)(h2:ah x.l s≤32767):nw x s=true:=by simp[nw,h1,h2]
theorem nw_not{x:Lk}{s:Int}(ht:x.t=true)(h:ah x.l s<1∨32767<ah x.l s):nw x s=false:=by
 unfold nw;rw[ht];rcases h with h|h
 ·have:decide (1≤ah x.l s)=false:=by simp;omega
  simp[this]
 ·have:decide (ah x.l s≤32767)=false:=by simp;omega
  simp[this]
end LM
open Go.RowKit
theorem Hd{p:Prop}(h:p):Hid p:=h
theorem ret_int{k:IntKind}{a b:Int}(h:a=b):Ending.returned (.int k a)=.returned (.int k b):=by rw[h]
theorem ret_boo{a b:Bool}(h:a=b):Ending.returned (.bool a)=.returned (.bool b):=by rw[h]
theorem below_class{W0 w w':World}(h:Below W0.heap.size W0 w)(h':Below w.heap.size w w'):Below W0.heap.size W0 w':=h.trans (h'.mono h.size)
structure Kb(b:Nat)(w w':World):Prop where
 os:w'.os=w.os
 tape:w'.tape=w.tape
 output:w'.output=w.output
 size:w.heap.size≤w'.heap.size
 block:∀k,k<w.heap.size→k≠b→w'.heap[k]?=w.heap[k]?
section
variable {b B:Nat} {a w w':World}
theorem Kb.refl(b:Nat)(w:World):Kb b w w:=⟨rfl,rfl,rfl,Nat.le_refl _,fun _ _ _=>rfl⟩
theorem Kb.row(b:Nat)(w:World)(cs:Array Value):Kb b w (w.setRow b cs):=by
 have h:Below 0 w (w.setRow b cs):=below_setRow (Below.refl 0 w) (Nat.zero_le _) cs;exact⟨h.os,h.tape,h.output,h.size,fun k _ hk=>setRow_other w b k cs hk⟩
theorem Kb.set(h:Kb b a w)(i:Nat)(u:Value):Kb b a (w.setCell ⟨b,i,none⟩ u):=
 ⟨h.os,h.tape,h.output,by have:=h.size;simpa[World.setCell]using this,fun k hk hne=>(Below.heap_setCell _ _ _ _ hne).trans (h.block k hk hne)⟩
theorem Kb.below(h:Kb b w w')(hb:Below B a w)(hB:B≤w.heap.size)(hlt:B≤b):Below B a w':=
 hb.trans ⟨h.os,h.tape,h.output,h.size,fun i hi=>h.block i (by omega) (by omega)⟩
end
def LB(W:World)(b:Nat)(x:Lk):Prop:=W.heap[b]?=some (.cells #[.bool x.t,.int .u16 x.l,.int .i64 x.n] 115 (0,0))
section
variable {W W':World} {b:Nat} {x:Lk}
theorem LB.lt(H:LB W b x):b<W.heap.size:=(Array.getElem?_eq_some_iff.1 H).1
theorem LB.c0(H:LB W b x):W.cell? ⟨b,0,none⟩=some (.bool x.t):=by simp[World.cell?,show W.heap[b]?=_ from H]
theorem LB.c1(H:LB W b x):W.cell? ⟨b,1,none⟩=some (.int .u16 x.l):=by simp[World.cell?,show W.heap[b]?=_ from H]
theorem LB.c2(H:LB W b x):W.cell? ⟨b,2,none⟩=some (.int .i64 x.n):=by simp[World.cell?,show W.heap[b]?=_ from H]
theorem LB.fr(H:LB W b x)(i:Nat):W.frozen? ⟨b,i,none⟩=false:=by simp[World.frozen?,show W.heap[b]?=_ from H]
theorem LB.below'(H:LB W b x)(hb:Below W.heap.size W W'):LB W' b x:=(hb.block b H.lt).trans H
theorem LB.kb{c:Nat}(H:LB W b x)(k:Kb c W W')(hne:b≠c):LB W' b x:=(k.block b H.lt hne).trans H
theorem LB.new(W:World)(x:Lk):LB (W.alloc (.cells #[.bool x.t,.int .u16 x.l,.int .i64 x.n] 115)) W.heap.size x:=heap_alloc_new W _
theorem LB.setN(H:LB W b x)(n:Int):LB (W.setCell ⟨b,2,none⟩ (.int .i64 n)) b ⟨x.t,x.l,n⟩:=
 (heap_setCell_same W b 2 _ _ (.int .i64 n) H).trans (by simp)
end
theorem infoL:(Tryz.prog.info? 115).map (·.size)=some 3:=by kernel_rfl
theorem wpList_storeL{ops:Array Oper}{rest:List Oper}{op:Oper}{a:Act}{w:World}{Q:Exit→Act→World→Prop}(hgd:op.guard=none)(x y:Operand)(ho:op.op=.store 115 x y)
  (b:Nat) {s:Lk} {t':Bool} {l' n':Int} (hx:a.eval x=.pointer (some ⟨b,0,none⟩)) (hy:a.eval y=.agg #[.bool t',.int .u16 l',.int .i64 n']) (hL:LB w b s)
  (hn:∀W',Kb b w W'→LB W' b ⟨t',l',n'⟩→wpList Tryz.prog ops Q rest (a.put op.dst undef) W'):wpList Tryz.prog ops Q (op::rest) a w:=
 wpList_store_row hgd 115 x y ho b _ hx hy _ _ hL infoL rfl (by simp[Value.oneCell']) (hn _ (Kb.row b w _) (setRow_heap w b _ _ _ _ hL))
theorem within_any(a:Int)(w:World):
  Calls Tryz.prog 130 #[.int .i64 a] w fun e w'=>e=.returned (.int .i64 (NumM.cl a))∧w'=w:=by
 go_enter Tryz.func130,Tryz.ntmps130
 go_wp2
 all_goals
  go_ret;exact⟨ret_int (by unfold NumM.cl;(repeat' split);all_goals omega),rfl⟩
theorem add_any(a b:Int)(w:World):
  Calls Tryz.prog 94 #[.int .i64 a,.int .i64 b] w fun e w'=>e=.returned (.int .i64 (NumM.cl (NumM.cl a+NumM.cl b)))∧w'=w:=by
 obtain⟨a1,a2⟩:=NumM.cl_bd a;obtain⟨b1,b2⟩:=NumM.cl_bd b
 go_enter Tryz.func94,Tryz.ntmps94
 go_wp2_with (go_at_call 130;refine (within_any _ _).mono ?_;rintro e w' ⟨rfl,rfl⟩)
 go_ret;exact⟨rfl,rfl⟩
theorem new_any(w:World):
  Calls Tryz.prog 36 #[] w fun e w'=>e=.returned (.pointer (some ⟨w.heap.size,0,none⟩))∧w'=w.alloc (.cells #[.bool false,.int .u16 0,.int .i64 0] 115):=by
 go_enter Tryz.func36,Tryz.ntmps36
 go_wp2;go_ret;exact⟨rfl,rfl⟩
theorem newer_any(x:Lk)(s:Int)(b:Nat)(w:World)(H:LB w b x):
  Calls Tryz.prog 166 #[.pointer (some ⟨b,0,none⟩),.int .u16 s] w fun e w'=>e=.returned (.bool (LM.nw x s))∧w'=w:=by
 have c0:=H.c0;have c1:=H.c1;clear H;have hw:IntKind.u16.wrap (s-x.l)=LM.ah x.l s:=IntKind.wrap_u16 _;unfold LM.nw;generalize LM.ah x.l s=d at hw
 go_enter Tryz.func166,Tryz.ntmps166
 go_wp2
 all_goals
  go_ret;refine⟨ret_boo ?_,rfl⟩;simp_all
 all_goals omega
theorem take_any(x:Lk)(s:Int)(b:Nat)(w:World)(H:LB w b x):
  Calls Tryz.prog 133 #[.pointer (some ⟨b,0,none⟩),.int .i64 s] w fun e w'=>e=.returned (.int .i64 (LM.err x s))∧LB w' b (LM.tk x s)∧Kb b w w':=by
 go_enter Tryz.func133,Tryz.ntmps133
 by_cases h0:s<0∨65535<s
 ·have e1:=LM.err_arg (x:=x) h0;have HS:=Hd (LM.tk_same (x:=x) (s:=s) (by rw[e1];decide));have HE:=Hd e1;clear e1;rcases h0 with h0|h0
  all_goals
   go_wp2;go_ret;exact⟨ret_int HE.out.symm,by rw[HS.out];exact H,Kb.refl _ _⟩
 ·have s0:0≤s:=by omega
  have s1:s≤65535:=by omega
  have hc:IntKind.u16.wrap s=s:=by rw[IntKind.wrap_u16];omega
  clear h0;rcases Bool.eq_false_or_eq_true (LM.nw x s)with hn|hn
  ·have e1:=LM.err_new s0 s1 hn;have HS:=Hd (LM.tk_new e1);have HE:=Hd e1;clear e1
   go_wp2_with fail
   refine (newer_any x s b _ H).mono ?_;rintro e w' ⟨rfl,rfl⟩
   go_wp2_with (refine wpList_storeL rfl _ _ rfl b (s:=x) (t':=true) (l':=s) (n':=0) rfl rfl H ?_)
   intro W2 hk2 hl2;go_wp2;go_ret;exact⟨ret_int HE.out.symm,by rw[HS.out];exact hl2,hk2⟩
  ·have e1:=LM.err_old s0 s1 hn;have HS:=Hd (LM.tk_same (x:=x) (s:=s) (by rw[e1];decide));have HE:=Hd e1;clear e1
   go_wp2_with (go_at_call 166;refine (newer_any x s b _ H).mono ?_;rintro e w' ⟨rfl,rfl⟩)
   go_ret;exact⟨ret_int HE.out.symm,by rw[HS.out];exact H,Kb.refl _ _⟩
theorem tick_any(x:Lk)(N:Int)(b:Nat)(w:World)(H:LB w b x)(O:LM.Ok x N)(hN:N≤1000000):
  Calls Tryz.prog 75 #[.pointer (some ⟨b,0,none⟩)] w fun e w'=>e=.returned (.tuple #[])∧LB w' b (LM.ti x)∧Kb b w w':=by
 have c0:=H.c0;have c2:=H.c2;have f2:=H.fr 2;have n0:=O.n0;have n1:=O.n1
 have hcl:NumM.cl (NumM.cl x.n+NumM.cl 1)=x.n+1:=by
  rw[NumM.cl_in (a:=x.n) (by omega) (by omega),NumM.cl_in (a:=1) (by omega) (by omega),NumM.cl_in (by omega) (by omega)]
 go_enter Tryz.func75,Tryz.ntmps75
 rcases Bool.eq_false_or_eq_true x.t with ht|ht
 ·have HS:Hid (LM.ti x=⟨x.t,x.l,x.n+1⟩):=by show LM.ti x=_;unfold LM.ti;rw[if_pos ht,ht]
  have HK:=Hd H;clear H
  go_wp2_with (go_at_call 94;refine (add_any _ _ _).mono ?_;rintro e w' ⟨rfl,rfl⟩)
  go_end0
  refine⟨rfl,?_,(Kb.refl _ _).set _ _⟩;rw[HS.out,←hcl];exact HK.out.setN _
 ·have HS:Hid (LM.ti x=x):=by show LM.ti x=_;unfold LM.ti;rw[if_neg (by rw[ht];simp)]
  have HK:=Hd H;clear H;go_wp2
  go_end0
  refine⟨rfl,?_,Kb.refl _ _⟩;rw[HS.out];exact HK.out
theorem silent_any(x:Lk)(b:Nat)(w:World)(H:LB w b x):
  Calls Tryz.prog 100 #[.pointer (some ⟨b,0,none⟩)] w fun e w'=>e=.returned (.int .i64 (LM.si x))∧w'=w:=by
 have c0:=H.c0;have c2:=H.c2;clear H
 go_enter Tryz.func100,Tryz.ntmps100
 go_wp2
 all_goals
  go_ret;refine⟨ret_int ?_,rfl⟩;unfold LM.si;simp_all
theorem live_any(x:Lk)(k:Int)(b:Nat)(w:World)(H:LB w b x):
  Calls Tryz.prog 76 #[.pointer (some ⟨b,0,none⟩),.int .i64 k] w fun e w'=>e=.returned (.bool (LM.li x k))∧w'=w:=by
 have c0:=H.c0;have c2:=H.c2;clear H
 go_enter Tryz.func76,Tryz.ntmps76
 go_wp2
 all_goals
  go_ret;refine⟨ret_boo ?_,rfl⟩;unfold LM.li;simp_all
end Go.Proofs.YtlajleogofmkcaaGreat.LL
namespace Go.Proofs.YtlajleogofmkcaaGreat
structure Mb where
 lv:Bool
 ou:Bool
 mo:Bool
 fa:Bool
 ov:Bool
 fl:Int
 tg:Int
 ph:Int
 lk:LL.Lk
 su:Bool
 sd:Bool
 ls:List CC.Cl
structure Gs where
 st:St
 sc:List Nat
 L:List CC.Cl
 s:Nat
 M:List Mb
 rc:Bool
 pi:Int
 N:List (Int×Int)
 nd:Int
namespace GM
def z:Mb:=⟨false,false,false,false,false,0,0,0,LL.LM.z,false,false,[]⟩
def wk(m:Mb):Bool:=m.lv&&(!m.ou&& !m.fa)
def idl(m:Mb):Bool:= !m.mo&&decide (m.ph=0)
def opn(m:Mb):Bool:=m.lv&&(decide (LL.LM.si m.lk=1)&&(!m.mo&&decide (m.ph=2)))
def mym(m:Mb)(c:Int)(x:CC.Cl):Bool:=wk m&&(decide (x.ca=c)||(decide (x.ca= -1)&& !m.ov))
def may(M:List Mb)(c:Int)(x:CC.Cl):Bool:=if 0≤c then(match M[c.toNat]? with|some m=>mym m c x|none=>false)else false
def rpm(m:Mb)(f:FF.Fr):Mb:=if LL.LM.err m.lk f.sq=0 then {m with lk:=LL.LM.tk m.lk f.sq,fl:=f.a,tg:=f.b,ph:=f.c%4,mo:=decide (f.c/4%2=1),fa:=decide (f.c/8%2=1),ov:=decide (f.c/16%2=1)}else m
def rep(G:Gs)(f:FF.Fr):Int×Gs:=match G.M[f.ca.toNat]? with
 |none=>(2,G)
 |some m=>if G.st.fl≤f.a∨G.st.fl≤f.b then(2,G)else(LL.LM.err m.lk f.sq,{G with M:=G.M.set f.ca.toNat (rpm m f)})
def prc(f:FF.Fr):CC.Cl:=if f.ca=255 then⟨f.a,-1,0,decide (f.b=1)⟩else⟨f.a,f.ca,0,false⟩
def prs(G:Gs)(f:FF.Fr):Int×Gs:=(CC.KM.err G.st.fl G.st.ca (CC.FM.hasN G.s f.a) G.L (prc f),{G with L:=CC.KM.put G.st.fl G.st.ca (CC.FM.hasN G.s f.a) G.L (prc f)})
def trn(G:Gs)(f:FF.Fr):Int×Gs:=
 if f.a=1 then(0,{G with rc:=decide (f.b=1)})
 else if f.a=2 then(match G.M[f.ca.toNat]? with
  |none=>(2,G)
  |some m=>(0,{G with M:=G.M.set f.ca.toNat {m with ou:=decide (f.b=1)}}))
 else if f.a=3 then(CC.barE G.st.fl f.c,{G with s:=CC.barN G.st.fl f.c (decide (f.b=1)) G.s})
 else(1,G)
def tke(G:Gs)(f:FF.Fr):Int×Gs:=if f.ki=1 then rep G f else if f.ki=2 then prs G f else if f.ki=3 then trn G f else(3,G)
def nte(G:Gs)(k n:Int):Gs:={G with N:=G.N++[(k,n)]}
def fra(G:Gs)(f:FF.Fr):Gs:=let r:=tke G f
 if r.1=0 then r.2 else if r.1=7 then nte r.2 2 f.ca else if r.1=4 then nte r.2 4 f.a else nte r.2 3 f.ki
def frs(G:Gs)(F:List FF.Fr):Gs:=F.foldl fra G
def rdb(G:Gs)(b:List Nat):Gs:=
 let d:=FF.FC.fd (G.sc++b)
 frs (if 0<d.2.1 then nte {G with sc:=d.2.2} 1 d.2.1 else {G with sc:=d.2.2}) d.1
def psm(k:Int)(m:Mb):Mb:={m with lk:=LL.LM.ti m.lk,lv:=LL.LM.li (LL.LM.ti m.lk) k}
def pss(G:Gs):Gs:={G with M:=G.M.map (psm G.st.sil),L:=G.L.map CC.KM.older}
def srv1(G:Gs)(n:Nat):Gs:=match G.M[n]? with
 |none=>G
 |some m=>if opn m=true then {G with L:=G.L.filter (fun c=> !CC.KM.srv n m.fl m.su m.sd c),N:=G.N++(G.L.filter (CC.KM.srv n m.fl m.su m.sd)).map (fun c=>(8,c.fl))}else G
def srvs(G:Gs):Nat→Gs
 |0=>G
 |n+1=>srv1 (srvs G n) n
def srv(G:Gs):Gs:=if G.rc=true then G else srvs G G.M.length
def rdy(st:St)(m:Mb):Int×Int:=if m.mo=true then(m.tg,SM.trav st m.fl m.tg)else if m.ph=0 then(m.fl,0)else(m.fl,st.opn+st.wai+st.clo)
def msn(M:List Mb)(x:CC.Cl):Nat→Nat
 |0=>0
 |n+1=>if may M n x=true then msn M x n+2^n else msn M x n
def ms(M:List Mb)(x:CC.Cl):Int:=(msn M x M.length:Nat)
def wnt(M:List Mb)(L:List CC.Cl):List CC.Cl:=L.filter fun x=>decide (ms M x≠0)
def snp(G:Gs):Sn:=⟨G.st,G.M.map (rdy G.st),(wnt G.M G.L).map fun x=>(x.fl,ms G.M x)⟩
def agl(x:CC.Cl):CC.Cl:=⟨x.fl,x.ca,0,x.up⟩
def lst(W:List CC.Cl)(l:List Int):List CC.Cl:=l.map fun i=>match W[i.toNat]? with|some x=>agl x|none=>⟨0,0,0,false⟩
def adn(W:List CC.Cl)(M:List Mb)(P:List (List Int)):Nat→List Mb
 |0=>M
 |n+1=>match M[n]?,P[n]? with
  |some m,some l=>(adn W M P n).set n {m with ls:=lst W l}
  |_,_=>adn W M P n
def adp(W:List CC.Cl)(M:List Mb)(P:List (List Int)):List Mb:=adn W M P P.length
def pln(G:Gs):Gs:=
 let x:=fnd (snp G) G.st.bud.toNat
 let W:=wnt G.M G.L
 let H:=nte {G with M:=adp W G.M x.plan,nd:=(x.marks.length:Nat)} (if x.ended=true then 6 else 5) x.cost
 if W.length<G.L.length then nte H 9 ((G.L.length:Int)-W.length)else H
def ka(x:CC.Cl):Ca:=⟨x.fl,x.ca,x.ag,x.up⟩
def kc(x:Ca):CC.Cl:=⟨x.fl,x.ca,x.ag,x.up⟩
def wts(L:List CC.Cl)(x:CC.Cl):Bool:=L.any fun y=>CC.KM.same (agl y) x
def gol(G:Gs)(n:Nat)(m:Mb):Option CC.Cl:=match oldk (fun y=>decide (G.st.age≤y.ag)&&may G.M n (kc y)) (G.L.map ka) G.L.length with
 |some x=>some (kc x.2)
 |none=>m.ls.find? fun x=>may G.M n x&&wts G.L x
def snd(m:Mb)(f:Int)(u d:Bool):(Bool×Int)×Mb:=if m.fl≠f then((false,f),m)else((true,-1),{m with su:=u,sd:=d})
def cmd(G:Gs)(n:Nat)(m:Mb):(Bool×Int)×Mb:=
 if wk m=true∧idl m=true then
  (if G.rc=true then snd m 0 false false else match gol G n m with
   |none=>((false,-1),m)
   |some x=>if x.ca= -1 then snd m x.fl x.up (!x.up)else snd m x.fl false false)
 else((false,-1),m)
def tll(G:Gs):Nat→List (Bool×Int)×Gs
 |0=>([],G)
 |n+1=>match G.M[n]? with
  |none=>tll G n
  |some m=>((tll G n).1++[(cmd G n m).1],{(tll G n).2 with M:=(tll G n).2.M.set n (cmd G n m).2})
def tk3(G:Gs)(b:List Nat):Gs:=srv (pss (rdb {G with N:=[],nd:=0} b))
def tk4(G:Gs):Gs:=if G.pi=0 then {pln G with pi:=G.st.per}else G
def tk5(G:Gs)(b:List Nat):Gs:=let H:=tk4 (tk3 G b);{H with pi:=H.pi-1}
def tck(G:Gs)(b:List Nat):List (Bool×Int)×Gs:=tll (tk5 G b) (tk5 G b).M.length
end GM
open Go.RowKit
theorem kp_ff{F:Nat→Prop}{w w':World}(h:FF.Kp F w w'):Kp F w w':=⟨h.os,h.tape,h.output,h.size,h.block⟩
theorem kp_ll{b:Nat}{w w':World}(h:LL.Kb b w w'):Kp (fun k=>k=b) w w':=⟨h.os,h.tape,h.output,h.size,h.block⟩
theorem kp_cc{F:Nat→Prop}{w w':World}(h:CC.Kp F w w'):Kp F w w':=⟨h.os,h.tape,h.output,h.size,h.block⟩
structure Gc where
 gb:Nat
 cb:Nat
 bb:Nat
 lb:Nat→Nat
structure Gv where
 vs:Value
 vb:Value
 vn:Value
 vl:Nat→Value
def gcv(C:Gc)(V:Gv)(G:Gs):List Value:=sv G.st++[V.vs,.pointer (some ⟨C.bb,0,none⟩),.slice (some ⟨C.cb,0,none⟩) G.M.length G.M.length,.bool G.rc,.int .i64 G.pi,V.vn,.int .i64 G.nd]
def mc(l:Nat)(v:Value)(m:Mb):List Value:=[.bool m.lv,.bool m.ou,.bool m.mo,.bool m.fa,.bool m.ov,.int .i64 m.fl,.int .i64 m.tg,.int .i64 m.ph,.pointer (some ⟨l,0,none⟩),.bool m.su,.bool m.sd,v]
def mrow(lb:Nat→Nat)(vl:Nat→Value):Nat→List Mb→List Value
 |_,[]=>[]
 |k,m::M=>mc (lb k) (vl k) m++mrow lb vl (k+1) M
section
variable {lb:Nat→Nat} {vl vl':Nat→Value} {M:List Mb} {m m':Mb}
theorem mrow_length:∀(M:List Mb) (k:Nat),(mrow lb vl k M).length=M.length*12
 |[],_=>by simp[mrow]
 |m::M,k=>by rw[mrow,List.length_append,mrow_length M];simp[mc];omega
theorem mrow_get:∀{M:List Mb} {k i j:Nat},M[i]?=some m→j<12→(mrow lb vl k M)[i*12+j]?=(mc (lb (k+i)) (vl (k+i)) m)[j]?
 |[],_,_,_,h,_=>by simp at h
 |x::M,k,0,j,h,hj=>by
  simp at h;subst h;rw[mrow,Nat.zero_mul,Nat.zero_add,List.getElem?_append_left (by simpa[mc]using hj)];rfl
 |x::M,k,i+1,j,h,hj=>by
  rw[mrow,List.getElem?_append_right (by simp[mc];omega),show(i+1)*12+j-(mc (lb k) (vl k) x).length=i*12+j by simp[mc];omega,show k+(i+1)=k+1+i by omega];exact mrow_get (by simpa using h) hj
theorem mrow_vl:∀{M:List Mb} {k:Nat},(∀x,k≤x→vl' x=vl x)→mrow lb vl' k M=mrow lb vl k M
 |[],_,_=>rfl
 |x::M,k,h=>by rw[mrow,mrow,h k (Nat.le_refl _),mrow_vl fun y hy=>h y (by omega)]
theorem mrow_set{u:Value}:∀{M:List Mb} {k i j:Nat},M[i]?=some m→j<12→(mc (lb (k+i)) (vl (k+i)) m).set j u=mc (lb (k+i)) (vl' (k+i)) m'→(∀x,x≠k+i→vl' x=vl x)→(mrow lb vl k M).set (i*12+j) u=mrow lb vl' k (M.set i m')
 |[],_,_,_,h,_,_,_=>by simp at h
 |x::M,k,0,j,h,hj,e,hv=>by
  simp at h;subst h;rw[mrow,Nat.zero_mul,Nat.zero_add,List.set_append,if_pos (by simpa[mc]using hj)];show _=mc (lb k) (vl' k) m'++_;rw[mrow_vl (vl':=vl') (vl:=vl) fun y hy=>hv y (by omega)];exact congrArg (· ++_) e
 |x::M,k,i+1,j,h,hj,e,hv=>by
  rw[mrow,List.set_append,if_neg (by simp[mc];omega),show(i+1)*12+j-(mc (lb k) (vl k) x).length=i*12+j by simp[mc];omega,List.set_cons_succ,mrow,hv k (by omega)];rw[show k+(i+1)=k+1+i by omega]at e hv;rw[mrow_set (by simpa using h) hj e hv]
theorem mrow_same:∀{M:List Mb} {k i:Nat},M[i]?=some m→mc (lb (k+i)) (vl (k+i)) m'=mc (lb (k+i)) (vl (k+i)) m→mrow lb vl k (M.set i m')=mrow lb vl k M
 |[],_,_,h,_=>by simp at h
 |x::M,k,0,h,e=>by simp at h;subst h;exact congrArg (· ++_) e
 |x::M,k,i+1,h,e=>by
  rw[show k+(i+1)=k+1+i by omega]at e;rw[List.set_cons_succ,mrow,mrow,mrow_same (by simpa using h) e]
end
def part(W:World)(ow:Nat→Nat)(B:Nat)(C:Gc)(V:Gv)(G:Gs):Nat→Prop
 |0=>W.heap[C.gb]?=some (.cells (gcv C V G).toArray 85 (0,0))
 |1=>W.heap[C.cb]?=some (.cells (mrow C.lb V.vl 0 G.M).toArray 91 (0,0))
 |2=>CC.BK W B C.bb G.st.fl G.st.ca V.vb G.s G.L∧∀g,V.vb.ownBlock=some g→ow g=2
 |3=>True
 |4=>FF.OW W B V.vs G.sc∧∀g,V.vs.ownBlock=some g→ow g=4
 |5=>O2 56 W B V.vn G.N∧∀g,V.vn.ownBlock=some g→ow g=5
 |t+6=>∀i m,G.M[i]?=some m→(t=4+2*i→LL.LB W (C.lb i) m.lk)∧(t=5+2*i→CC.RW W B (V.vl i) m.ls∧∀g,(V.vl i).ownBlock=some g→ow g=11+2*i)
structure GX(T:Nat→Prop)(W:World)(ow:Nat→Nat)(B:Nat)(C:Gc)(V:Gv)(G:Gs):Prop where
 pt:∀t,T t→part W ow B C V G t
 t0:ow C.gb=0
 t1:ow C.cb=1
 t2:ow C.bb=2
 tl:∀i,i<G.M.length→ow (C.lb i)=10+2*i
 lo:∀k,ow k<1000→B≤k
 ml:G.M.length≤8
 sz:C.gb<W.heap.size∧C.cb<W.heap.size∧C.bb<W.heap.size∧∀i,i<G.M.length→C.lb i<W.heap.size
def al(_:Nat):Prop:=True
def nx(t k:Nat):Prop:=k≠t
section
variable {T T':Nat→Prop} {W W':World} {ow ow':Nat→Nat} {B:Nat} {C:Gc} {V V':Gv} {G G':Gs} {m m':Mb} {i j:Nat} {u:Value}
theorem GX.mono(h:GX T W ow B C V G)(k:∀t,T' t→T t):GX T' W ow B C V G:={h with pt:=fun t x=>h.pt t (k t x)}
theorem GX.fill(h:GX T W ow B C V G)(t0:Nat)(p:part W ow B C V G t0)(k:∀t,T' t→T t∨t=t0):GX T' W ow B C V G:=
 {h with pt:=fun t x=>(k t x).elim (h.pt t) (fun e=>e▸p)}
theorem GX.fills(h:GX (nx i) W ow B C V G)(p:part W ow B C V G i):GX al W ow B C V G:=h.fill i p fun t _=>by unfold nx;omega
theorem part_keep(h0:GX T W ow B C V G){t:Nat}(h:part W ow B C V G t)(k:∀b,b<W.heap.size→ow b=t→W'.heap[b]?=W.heap[b]?):part W' ow B C V G t:=by
 match t,h with
 |0,h=>exact(k _ h0.sz.1 h0.t0).trans h
 |1,h=>exact(k _ h0.sz.2.1 h0.t1).trans h
 |2,h=>exact⟨⟨h.1.pb.keep (k _ h.1.pb.lt h0.t2),h.1.rw.keep fun g hg=>k g (h.1.rw.lt g hg).2 (h.2 g hg),h.1.ne,h.1.bb,h.1.sl⟩,h.2⟩
 |3,_=>exact trivial
 |4,h=>exact⟨h.1.keep fun g hg=>k g (h.1.lt g hg).2 (h.2 g hg),h.2⟩
 |5,h=>exact⟨h.1.keep fun g hg=>k g (h.1.lt g hg).2 (h.2 g hg),h.2⟩
 |t+6,h=>
  intro i m hm;have hi:=(List.getElem?_eq_some_iff.1 hm).1;refine⟨fun e=> ?_,fun e=> ?_⟩
  ·exact(k _ ((h i m hm).1 e).lt (by rw[h0.tl i hi,e];omega)).trans ((h i m hm).1 e)
  ·obtain⟨h1,h2⟩:=(h i m hm).2 e;exact⟨h1.keep fun g hg=>k g (h1.lt g hg).2 (by rw[h2 g hg,e];omega),h2⟩
theorem GX.keep(h:GX T W ow B C V G)(hs:W.heap.size≤W'.heap.size)(k:∀b,b<W.heap.size→T (ow b)→W'.heap[b]?=W.heap[b]?):GX T W' ow B C V G:=
 {h with
  pt:=fun t x=>part_keep h (h.pt t x) fun b hb e=>k b hb (e▸x)
  sz:=⟨Nat.lt_of_lt_of_le h.sz.1 hs,Nat.lt_of_lt_of_le h.sz.2.1 hs,Nat.lt_of_lt_of_le h.sz.2.2.1 hs,fun i hi=>Nat.lt_of_lt_of_le (h.sz.2.2.2 i hi) hs⟩}
theorem GX.below'(h:GX T W ow B C V G)(hb:Below W.heap.size W W'):GX T W' ow B C V G:=h.keep hb.size fun b hl _=>hb.block b hl
theorem GX.kp{F:Nat→Prop}(h:GX al W ow B C V G)(k:Kp F W W')(hF:∀b,b<W.heap.size→F b→ow b=i):GX (nx i) W' ow B C V G:=
 (h.mono (T':=nx i) fun _ _=>trivial).keep k.size fun b hb hn=>k.block b hb fun f=>hn (hF b hb f)
theorem GX.set(h:GX al W ow B C V G)(b:Nat)(hb:ow b=i)(o:Nat)(u:Value):GX (nx i) (W.setCell ⟨b,o,none⟩ u) ow B C V G:=
 h.kp ((Kp.refl (fun k=>k=b) W).set b o u fun _=>rfl) (fun k _ e=>by rw[e];exact hb)
theorem GX.chg(h:GX T W ow B C V G)(hl:G'.M.length=G.M.length)(k:∀t,T t→part W ow B C V G t→part W ow B C V' G' t):GX T W ow B C V' G':=
 {h with
  pt:=fun t x=>k t x (h.pt t x)
  tl:=by rw[hl];exact h.tl
  ml:=by rw[hl];exact h.ml
  sz:=by rw[hl];exact h.sz}
theorem GX.tag(h:GX T W ow B C V G)(k:∀b,b<W.heap.size→ow' b=ow b)(hB:B≤W.heap.size):GX T W ow' B C V G where
 pt t x:=by
  have h1:=h.pt t x
  match t,h1 with
  |0,h1=>exact h1
  |1,h1=>exact h1
  |2,h1=>exact⟨h1.1,fun g hg=>(k g (h1.1.rw.lt g hg).2).trans (h1.2 g hg)⟩
  |3,h1=>exact h1
  |4,h1=>exact⟨h1.1,fun g hg=>(k g (h1.1.lt g hg).2).trans (h1.2 g hg)⟩
  |5,h1=>exact⟨h1.1,fun g hg=>(k g (h1.1.lt g hg).2).trans (h1.2 g hg)⟩
  |t+6,h1=>exact fun i m hm=>⟨(h1 i m hm).1,fun e=>⟨((h1 i m hm).2 e).1,fun g hg=>(k g (((h1 i m hm).2 e).1.lt g hg).2).trans (((h1 i m hm).2 e).2 g hg)⟩⟩
 t0:=(k _ h.sz.1).trans h.t0
 t1:=(k _ h.sz.2.1).trans h.t1
 t2:=(k _ h.sz.2.2.1).trans h.t2
 tl i hi:=(k _ (h.sz.2.2.2 i hi)).trans (h.tl i hi)
 lo b hb:=by
  by_cases hl:b<W.heap.size
  ·exact h.lo b (k b hl▸hb)
  ·omega
 ml:=h.ml
 sz:=h.sz
theorem GX.cell(h:GX al W ow B C V G)(j:Nat):W.cell? ⟨C.gb,j,none⟩=(gcv C V G)[j]?:=by
 have h1:W.heap[C.gb]?=some (.cells (gcv C V G).toArray 85 (0,0)):=h.pt 0 trivial;simp[World.cell?,h1]
theorem GX.fr(h:GX al W ow B C V G)(j:Nat):W.frozen? ⟨C.gb,j,none⟩=false:=by
 have h1:W.heap[C.gb]?=some (.cells (gcv C V G).toArray 85 (0,0)):=h.pt 0 trivial;simp[World.frozen?,h1]
theorem GX.mcell(h:GX al W ow B C V G)(hm:G.M[i]?=some m)(j:Nat)(hj:j<12):W.cell? ⟨C.cb,i*12+j,none⟩=(mc (C.lb i) (V.vl i) m)[j]?:=by
 have h1:W.heap[C.cb]?=some (.cells (mrow C.lb V.vl 0 G.M).toArray 91 (0,0)):=h.pt 1 trivial;have h2:=mrow_get (lb:=C.lb) (vl:=V.vl) (k:=0) hm hj;rw[Nat.zero_add]at h2;simp[World.cell?,h1,h2]
theorem GX.mfr(h:GX al W ow B C V G)(j:Nat):W.frozen? ⟨C.cb,j,none⟩=false:=by
 have h1:W.heap[C.cb]?=some (.cells (mrow C.lb V.vl 0 G.M).toArray 91 (0,0)):=h.pt 1 trivial;simp[World.frozen?,h1]
theorem GX.put(h:GX al W ow B C V G)(j:Nat)(u:Value)(x:Bool)(y z:Int)(e:(gcv C V G).set j u=gcv C V {G with rc:=x,pi:=y,nd:=z}):GX al (W.setCell ⟨C.gb,j,none⟩ u) ow B C V {G with rc:=x,pi:=y,nd:=z}:=by
 have h1:W.heap[C.gb]?=some (.cells (gcv C V G).toArray 85 (0,0)):=h.pt 0 trivial;refine ((h.set C.gb h.t0 j u).chg (G':={G with rc:=x,pi:=y,nd:=z}) (V':=V) rfl fun t ht hp=> ?_).fills ?_
 ·match t,hp with
  |0,_=>exact absurd rfl ht
  |1,hp=>exact hp
  |2,hp=>exact hp
  |3,hp=>exact hp
  |4,hp=>exact hp
  |5,hp=>exact hp
  |t+6,hp=>exact hp
 ·exact(heap_setCell_same W C.gb j _ _ u h1).trans (by rw[←e];simp)
theorem part_setM(hm:G.M[i]?=some m){t:Nat}(ht:t≠1)(h1:t=10+2*i→LL.LB W (C.lb i) m.lk→LL.LB W (C.lb i) m'.lk)(h2:t=11+2*i→m'.ls=m.ls)(hp:part W ow B C V G t):part W ow B C V {G with M:=G.M.set i m'} t:=by
 match t,hp with
 |0,hp=>exact(show W.heap[C.gb]?=some (.cells (gcv C V G).toArray 85 (0,0))from hp).trans (by unfold gcv;simp)
 |1,_=>exact absurd rfl ht
 |2,hp=>exact hp
 |3,hp=>exact hp
 |4,hp=>exact hp
 |5,hp=>exact hp
 |t+6,hp=>
  intro k x hx;have hx':(G.M.set i m')[k]?=some x:=hx;rw[List.getElem?_set]at hx';split at hx'
  ·rename_i e;subst e;split at hx'
   ·cases hx';exact⟨fun e=>h1 (by omega) ((hp i m hm).1 e),fun e=>by rw[h2 (by omega)];exact(hp i m hm).2 e⟩
   ·cases hx'
  ·exact hp k x hx'
theorem GX.setM(h:GX al W ow B C V G)(hm:G.M[i]?=some m)(j:Nat)(hj:j<12)(u:Value)(m':Mb)(e:(mc (C.lb i) (V.vl i) m).set j u=mc (C.lb i) (V.vl i) m')(h1:m'.lk=m.lk)(h2:m'.ls=m.ls):GX al (W.setCell ⟨C.cb,i*12+j,none⟩ u) ow B C V {G with M:=G.M.set i m'}:=by
 have hc:W.heap[C.cb]?=some (.cells (mrow C.lb V.vl 0 G.M).toArray 91 (0,0)):=h.pt 1 trivial;refine ((h.set C.cb h.t1 (i*12+j) u).chg (G':={G with M:=G.M.set i m'}) (V':=V) (by simp) fun t ht hp=>part_setM hm ht (fun _ hl=>by rw[h1];exact hl) (fun _=>h2) hp).fills ?_;refine (heap_setCell_same W C.cb _ _ _ u hc).trans ?_;rw[←mrow_set (lb:=C.lb) (vl:=V.vl) (u:=u) hm hj (by rw[Nat.zero_add];exact e) (fun _ _=>rfl)];simp
theorem GX.setL(h:GX al W ow B C V G)(hm:G.M[i]?=some m)(k:Kp (fun k=>k=C.lb i) W W')(x:LL.Lk)(hx:LL.LB W' (C.lb i) x):GX al W' ow B C V {G with M:=G.M.set i {m with lk:=x}}:=by
 have hi:=(List.getElem?_eq_some_iff.1 hm).1;have h1:=(h.kp (i:=10+2*i) k fun b _ e=>by rw[e];exact h.tl i hi).mono (T':=fun t=>nx 1 t∧nx (10+2*i) t) fun t x=>x.2;have hp:part W' ow B C V G 1:=part_keep h (h.pt 1 trivial) fun b hb e=>k.block b hb fun e2=>by rw[e2,h.tl i hi]at e;omega
 refine ((h1.chg (G':={G with M:=G.M.set i {m with lk:=x}}) (V':=V) (by simp) (fun t ht hp=>part_setM hm ht.1 (fun e=>absurd e ht.2) (fun _=>rfl) hp)).fill (T':=nx 1) (10+2*i) ?_ (fun t ht=>by unfold nx at*;omega)).fills ?_
 ·rw[show 10+2*i=4+2*i+6 by omega];intro k y hy;refine⟨fun e=> ?_,fun e=>by omega⟩;have e2:i=k:=by omega
  subst e2;have hy':(G.M.set i {m with lk:=x})[i]?=some y:=hy;rw[List.getElem?_set,if_pos rfl,if_pos hi]at hy';cases hy';exact hx
 ·exact(show W'.heap[C.cb]?=_ from hp).trans (by rw[show mrow C.lb V.vl 0 (G.M.set i {m with lk:=x})=_ from mrow_same hm rfl])
end
section
variable {W:World} {ow:Nat→Nat} {B:Nat} {C:Gc} {V:Gv} {G:Gs} {m:Mb} {i:Nat}
theorem GX.c15(h:GX al W ow B C V G):W.cell? ⟨C.gb,15,none⟩=some (.slice (some ⟨C.cb,0,none⟩) G.M.length G.M.length):=h.cell 15
theorem ixM{ab n k:Nat}(W:World)(h:k<n):(Instr.indexAt 83 (.slice (some ⟨ab,0,none⟩) n n) (.int .i64 (k:Int))).run Tryz.prog W=.ok (.pointer (some ⟨ab,k*12,none⟩)) W:=by
 rw[run_indexAt_slice W 83 _ n n .i64 k (by kernel_rfl),if_pos ⟨by omega,by omega⟩,show Tryz.prog.elem 83=91 by kernel_rfl,Tryz.sizeOf91];simp only[Result.andThen_ok,Int.toNat_natCast,Addr.add_mid,Nat.zero_add]
theorem hasCar_any(h:GX al W ow B C V G)(c:Int):
  Calls Tryz.prog 31 #[.pointer (some ⟨C.gb,0,none⟩),.int .i64 c] W fun e w'=>e=.returned (.bool (decide (0≤c)&&decide (c<G.M.length)))∧w'=W:=by
 have c15:=h.c15;have hml:=h.ml;clear h
 go_enter Tryz.func31,Tryz.ntmps31
 by_cases q:0≤c
 ·go_wp2;go_ret;exact⟨by simp[q],rfl⟩
 ·go_wp2;go_ret;exact⟨by simp;omega,rfl⟩
theorem works_any(h:GX al W ow B C V G)(hm:G.M[i]?=some m):
  Calls Tryz.prog 113 #[.pointer (some ⟨C.cb,i*12,none⟩)] W fun e w'=>e=.returned (.bool (GM.wk m))∧w'=W:=by
 have m0:W.cell? ⟨C.cb,i*12,none⟩=some (.bool m.lv):=h.mcell hm 0 (by decide);have m1:W.cell? ⟨C.cb,i*12+1,none⟩=some (.bool m.ou):=h.mcell hm 1 (by decide);have m3:W.cell? ⟨C.cb,i*12+3,none⟩=some (.bool m.fa):=h.mcell hm 3 (by decide);unfold GM.wk;clear h hm;generalize m.lv=lv at m0⊢;generalize m.ou=ou at m1⊢;generalize m.fa=fa at m3⊢
 go_enter Tryz.func113,Tryz.ntmps113
 cases lv<;>cases ou<;>cases fa
 all_goals
  go_wp2;go_ret;exact⟨rfl,rfl⟩
theorem idle_any(h:GX al W ow B C V G)(hm:G.M[i]?=some m):
  Calls Tryz.prog 114 #[.pointer (some ⟨C.cb,i*12,none⟩)] W fun e w'=>e=.returned (.bool (GM.idl m))∧w'=W:=by
 have m2:W.cell? ⟨C.cb,i*12+2,none⟩=some (.bool m.mo):=h.mcell hm 2 (by decide);have m7:W.cell? ⟨C.cb,i*12+7,none⟩=some (.int .i64 m.ph):=h.mcell hm 7 (by decide);unfold GM.idl;clear h hm;generalize m.mo=mo at m2⊢
 go_enter Tryz.func114,Tryz.ntmps114
 cases mo
 all_goals
  go_wp2;go_ret;exact⟨rfl,rfl⟩
theorem opened_any(h:GX al W ow B C V G)(hm:G.M[i]?=some m):
  Calls Tryz.prog 78 #[.pointer (some ⟨C.cb,i*12,none⟩)] W fun e w'=>e=.returned (.bool (GM.opn m))∧w'=W:=by
 have m0:W.cell? ⟨C.cb,i*12,none⟩=some (.bool m.lv):=h.mcell hm 0 (by decide);have m2:W.cell? ⟨C.cb,i*12+2,none⟩=some (.bool m.mo):=h.mcell hm 2 (by decide);have m7:W.cell? ⟨C.cb,i*12+7,none⟩=some (.int .i64 m.ph):=h.mcell hm 7 (by decide);have m8:W.cell? ⟨C.cb,i*12+8,none⟩=some (.pointer (some ⟨C.lb i,0,none⟩)):=h.mcell hm 8 (by decide)
 have hl:LL.LB W (C.lb i) m.lk:=by
  have:=h.pt (4+2*i+6) trivial;exact(this i m hm).1 rfl
 have HS:=Hd (LL.silent_any m.lk (C.lb i) W hl);unfold GM.opn;clear h hm hl;generalize m.lv=lv at m0⊢;generalize m.mo=mo at m2⊢;generalize LL.LM.si m.lk=n at HS⊢
 go_enter Tryz.func78,Tryz.ntmps78
 go_wp2_with fail
 refine HS.out.mono ?_;rintro e w' ⟨rfl,rfl⟩;clear HS;cases lv<;>cases mo<;>by_cases q:n=1
 all_goals
  go_wp2;go_ret;exact⟨by first|rfl|(simp[q];done)|(simp[q];rfl),rfl⟩
theorem may_no{M:List Mb}{c:Int}{x:CC.Cl}(q:¬(0≤c∧c<M.length)):GM.may M c x=false:=by
 unfold GM.may;split
 ·rw[List.getElem?_eq_none (by omega)]
 ·rfl
theorem may_at{M:List Mb}{n:Nat}{x:CC.Cl}(hm:M[n]?=some m):GM.may M n x=GM.mym m n x:=by
 unfold GM.may;rw[if_pos (by omega),Int.toNat_natCast,hm]
theorem gmay_any(h:GX al W ow B C V G)(c:Int)(x:CC.Cl):
  Calls Tryz.prog 138 #[.pointer (some ⟨C.gb,0,none⟩),.int .i64 c,.agg #[.int .i64 x.fl,.int .i64 x.ca,.int .i64 x.ag,.bool x.up]] W fun e w'=>e=.returned (.bool (GM.may G.M c x))∧Below W.heap.size W w':=by
 have hb:=(Below.refl W.heap.size W).alloc (Nat.le_refl _) (.cells #[.int .i64 x.fl,.int .i64 x.ca,.int .i64 x.ag,.bool x.up] 33);have HB:=Hd hb;have hx:=CC.CB.new W x;have x1:=hx.c1;have h1:=h.below' hb;have c15:=h1.c15;have HH:=Hd (hasCar_any h1 c);have hml:=h.ml;clear hx hb;by_cases q:0≤c∧c<G.M.length
 ·obtain⟨n,rfl⟩:∃n:Nat,c=n:=⟨c.toNat,by omega⟩;have hn:n<G.M.length:=by omega
  obtain⟨m,hm⟩:∃m,G.M[n]?=some m:=⟨_,List.getElem?_eq_getElem hn⟩;rw[may_at hm];have HW:=Hd (works_any h1 hm);have m4:(W.alloc (.cells #[.int .i64 x.fl,.int .i64 x.ca,.int .i64 x.ag,.bool x.up] 33)).cell? ⟨C.cb,n*12+4,none⟩=some (.bool m.ov):=h1.mcell hm 4 (by decide);have hix:∀W:World,_:=fun W=>ixM (ab:=C.cb) W hn;rw[show(decide (0≤(n:Int))&&decide ((n:Int)<(G.M.length:Int)))=true by simp;omega]at HH;unfold GM.mym;clear h h1 hm;generalize m.ov=ov at m4⊢;generalize GM.wk m=wk at HW⊢;obtain⟨r,HR⟩:∃r,Hid ((wk&&(decide (x.ca=(n:Int))||decide (x.ca= -1)&& !ov))=r):=⟨_,Hd rfl⟩;rw[HR.out]
  go_enter Tryz.func138,Tryz.ntmps138
  go_wp2_with fail
  refine HH.out.mono ?_;rintro e w' ⟨rfl,rfl⟩
  go_wp2_with fail
  refine HW.out.mono ?_;rintro e w' ⟨rfl,rfl⟩;clear HH HW;cases wk
  ·go_wp2;go_ret;exact⟨by rw[←HR.out];rfl,HB.out⟩
  ·by_cases q1:x.ca=(n:Int)
   ·have HE:Hid (true=r):=by show _=_;rw[←HR.out];simp[q1]
    have d1:(x.ca==(n:Int))=true:=by simpa using q1
    clear q1;go_wp2;go_ret;exact⟨LL.ret_boo HE.out,HB.out⟩
   ·have d1:(x.ca==(n:Int))=false:=by simpa using q1
    by_cases q2:x.ca= -1
    ·have HE:Hid ((!ov)=r):=by show _=_;rw[←HR.out];simp[q2]
     have d2:(x.ca== -1)=true:=by simpa using q2
     clear q1 q2;go_wp2;go_ret;exact⟨LL.ret_boo HE.out,HB.out⟩
    ·have HE:Hid (false=r):=by show _=_;rw[←HR.out];simp[q1,q2]
     have d2:(x.ca== -1)=false:=by simpa using q2
     clear q1 q2;go_wp2;go_ret;exact⟨LL.ret_boo HE.out,HB.out⟩
 ·rw[may_no q];rw[show(decide (0≤c)&&decide (c<(G.M.length:Int)))=false by simp;omega]at HH;clear h h1
  go_enter Tryz.func138,Tryz.ntmps138
  go_wp2_with fail
  refine HH.out.mono ?_;rintro e w' ⟨rfl,rfl⟩;go_wp2;go_ret;exact⟨rfl,HB.out⟩
theorem grecall_any(h:GX al W ow B C V G):
  Calls Tryz.prog 45 #[.pointer (some ⟨C.gb,0,none⟩)] W fun e w'=>e=.returned (.bool G.rc)∧w'=W:=by
 have c:W.cell? ⟨C.gb,16,none⟩=some (.bool G.rc):=h.cell 16
 go_enter Tryz.func45,Tryz.ntmps45
 go_wp2;go_ret;exact⟨rfl,rfl⟩
theorem gcalls_any(h:GX al W ow B C V G)(hl:G.L.length≤128):
  Calls Tryz.prog 12 #[.pointer (some ⟨C.gb,0,none⟩)] W fun e w'=>∃v',e=.returned v'∧CC.RW w' W.heap.size v' G.L∧Below W.heap.size W w':=by
 have c:W.cell? ⟨C.gb,14,none⟩=some (.pointer (some ⟨C.bb,0,none⟩)):=h.cell 14;have HA:=Hd (CC.all_any B C.bb G.st.fl G.st.ca V.vb G.s G.L W (h.pt 2 trivial).1 hl)
 go_enter Tryz.func12,Tryz.ntmps12
 go_wp2_with fail
 refine HA.out.mono ?_;rintro e w' ⟨v',rfl,h1,h2⟩;go_wp2;go_ret;exact⟨_,rfl,h1,h2⟩
end
def Ga(W:World)(ow:Nat→Nat)(B:Nat)(C:Gc)(G':Gs)(W':World):Prop:=∃ow' V',GX al W' ow' B C V' G'∧(∀b,b<W.heap.size→ow' b=ow b)∧Kp (fun b=>ow b<1000) W W'
section
variable {W W' W2:World} {ow ow':Nat→Nat} {B:Nat} {C:Gc} {V V':Gv} {G G' G2:Gs} {m m':Mb} {i:Nat}
theorem Ga.of(h:GX al W' ow B C V G')(k:Kp (fun b=>ow b<1000) W W'):Ga W ow B C G' W':=⟨ow,V,h,fun _ _=>rfl,k⟩
theorem Ga.below(h:GX al W ow B C V G)(hb:Below W.heap.size W W'):Ga W ow B C G W':=Ga.of (h.below' hb) (Kp.ofBelow _ hb)
theorem Ga.trans(h:Ga W ow B C G W')(k:∀ow' V',GX al W' ow' B C V' G→Ga W' ow' B C G2 W2):Ga W ow B C G2 W2:=by
 obtain⟨o1,V1,h1,h2,h3⟩:=h;obtain⟨o2,V2,k1,k2,k3⟩:=k o1 V1 h1;exact⟨o2,V2,k1,fun b hb=>(k2 b (Nat.lt_of_lt_of_le hb h3.size)).trans (h2 b hb),h3.trans k3 fun b hb h=>by rw[h2 b hb]at h;exact h⟩
theorem Ga.thenBelow(h:Ga W ow B C G W')(hb:Below W'.heap.size W' W2):Ga W ow B C G W2:=h.trans fun _ _ h1=>Ga.below h1 hb
theorem Ga.set(h:Ga W ow B C G W')(b o:Nat)(u:Value)(hb:∀ow' V',GX al W' ow' B C V' G→ow' b<1000∧GX al (W'.setCell ⟨b,o,none⟩ u) ow' B C V' G2):Ga W ow B C G2 (W'.setCell ⟨b,o,none⟩ u):=
 h.trans fun o1 V1 h1=>Ga.of (hb o1 V1 h1).2 ((Kp.refl _ W').set b o u fun _=>(hb o1 V1 h1).1)
theorem infoNote:(Tryz.prog.info? 56).map (fun i=>(i.zero,i.size,i.bytes))=some (some (.agg #[.int .i64 0,.int .i64 0]),2,16):=by kernel_rfl
theorem wpList_appendN{ops:Array Oper}{rest:List Oper}{o:Oper}{a:Act}{w:World}{Q:Exit→Act→World→Prop}(hgd:o.guard=none)(s x:Operand)
  (ho:o.op=.call {callee:=.builtin .append,args:= #[s,x],argTypes:= #[53,53]})
  (B:Nat) (v:Value) (l:List (Int×Int)) (hs:a.eval s=v) (hown:O2 56 w B v l) (b c:Nat) (y:Int×Int) (hx:a.eval x=.slice (some ⟨b,0,none⟩) 1 c) (H:w.heap[b]?=some (.cells #[.int .i64 y.1,.int .i64 y.2] 56 (0,0)))
  (h63:l.length+1≤1000000) (hB:B≤w.heap.size)
  (h:∀g cap w',O2 56 w' B (.slice (some ⟨g,0,none⟩) (l.length+1) cap) (l++[y])→w.grownBy w' v.ownBlock→(v.ownBlock=some g∨w.heap.size≤g)→wpList Tryz.prog ops Q rest (a.put o.dst (.slice (some ⟨g,0,none⟩) (l.length+1) cap)) w'):wpList Tryz.prog ops Q (o::rest) a w:=by
 obtain⟨i0,hi,hz⟩:=Option.map_eq_some_iff.1 infoNote;simp only[Prod.mk.injEq]at hz;refine wpList_append_lies w hgd s x 53 ho B 56 i0 _ 2 16 Tryz.underlying53 hi hz.1 hz.2.1 hz.2.2 rfl (by decide) v l.length (pc l) hs hown ⟨b,0,none⟩ 1 c (pc [y]) hx (by rw[pc_length];rfl) (fun j u hu=> ?_) (pc_one [y]) (by omega) (by unfold maxLen;omega) (by omega) hB w.heap.size rfl ?_
 ·rw[Addr.add_mid,Nat.zero_add];have hj:j<2:=by have:=(List.getElem?_eq_some_iff.1 hu).1;rwa[pc_length]at this
  simp only[World.cell?,H];rw[←hu];simp[pc]
 ·intro g cap w' h1 h2 h3 _;refine h g cap w' ?_ h2 (h3.imp id fun e=>by omega);unfold O2;rw[List.length_append,pc_append];exact h1
theorem grown_kp{o:Option Nat}(h:W.grownBy W' o):Kp (fun b=>o=some b) W W':=(Kp.refl (fun b=>o=some b) W).grown h fun _ _ e=>e
def nw(ow:Nat→Nat)(A:World)(t b:Nat):Nat:=if b<A.heap.size then ow b else t
theorem nw_old{A:World}{t b:Nat}(hb:b<A.heap.size):nw ow A t b=ow b:=if_pos hb
theorem nw_new{A:World}{t b:Nat}(hb:A.heap.size≤b):nw ow A t b=t:=if_neg (by omega)
theorem GX.hB(h:GX al W ow B C V G):B≤W.heap.size:=by have:=h.lo C.gb (by rw[h.t0];omega);have:=h.sz.1;omega
theorem GX.retag(h:GX al W ow B C V G)(t:Nat):GX al W (nw ow W t) B C V G:=h.tag (fun _ hb=>nw_old hb) h.hB
theorem GX.noted{k n:Int}{A:World}{l:Nat}{cap:Nat}{g:Nat}(h:GX al A ow B C V G)(hb:Below A.heap.size A W)(ho:O2 56 W2 B (.slice (some ⟨g,0,none⟩) l cap) (G.N++[(k,n)]))(hg:W.grownBy W2 V.vn.ownBlock)(hl:V.vn.ownBlock=some g∨A.heap.size≤g):
  Ga A ow B C (GM.nte G k n) (W2.setCell ⟨C.gb,18,none⟩ (.slice (some ⟨g,0,none⟩) l cap))∧W2.heap[C.gb]?=some (.cells (gcv C V G).toArray 85 (0,0)):=by
 have ht:∀b,V.vn.ownBlock=some b→ow b=5:=(h.pt 5 trivial).2;have hlt:∀b,V.vn.ownBlock=some b→b<A.heap.size:=fun b hb=>((h.pt 5 trivial).1.lt b hb).2;have h1:=((h.retag 5).below' hb).kp (i:=5) (grown_kp hg) fun b _ e=>by rw[nw_old (hlt b e)];exact ht b e
 have hc:W2.heap[C.gb]?=some (.cells (gcv C V G).toArray 85 (0,0)):=h1.pt 0 (by unfold nx;omega);refine⟨⟨nw ow A 5,{V with vn:=.slice (some ⟨g,0,none⟩) l cap},?_,fun b hb=>nw_old hb,?_⟩,hc⟩
 ·have hn:=ho.keep (W':=W2.setCell ⟨C.gb,18,none⟩ (.slice (some ⟨g,0,none⟩) l cap)) fun b hb=>Below.heap_setCell _ _ _ _ fun e=>by
   cases hb;have e:g=C.gb:=e;rcases hl with e1|e1
   ·have:=ht _ e1;rw[e,h.t0]at this;omega
   ·have:=h.sz.1;omega
  have h2:=(h1.mono (T':=fun t=>nx 0 t∧nx 5 t) fun _ x=>x.2).keep (W':=W2.setCell ⟨C.gb,18,none⟩ (.slice (some ⟨g,0,none⟩) l cap)) (by simp[World.setCell]) fun b hb x=>Below.heap_setCell _ _ _ _ fun e=>by rw[e]at x;exact x.1 (by rw[nw_old h.sz.1];exact h.t0)
  refine (((h2.chg (G':=GM.nte G k n) (V':={V with vn:=.slice (some ⟨g,0,none⟩) l cap}) rfl fun t x hp=> ?_).fill (T':=nx 0) 5 ⟨hn,?_⟩ fun t x=> ?_).fills ?_)
  ·match t,x,hp with
   |0,x,_=>exact absurd rfl x.1
   |1,_,hp=>exact hp
   |2,_,hp=>exact hp
   |3,_,hp=>exact hp
   |4,_,hp=>exact hp
   |5,x,_=>exact absurd rfl x.2
   |t+6,_,hp=>exact hp
  ·intro b hb;cases hb;rcases hl with e1|e1
   ·rw[nw_old (hlt _ e1)];exact ht _ e1
   ·exact nw_new e1
  ·unfold nx at*;omega
  ·exact(heap_setCell_same W2 C.gb 18 _ _ _ hc).trans (by unfold gcv;simp[sv,GM.nte])
 ·refine ((Kp.ofBelow _ hb).grown hg fun b _ e=> ?_).set _ _ _ fun _=>by rw[h.t0];omega
  show ow b<1000;rw[ht b e];omega
theorem note_any(h:GX al W ow B C V G)(k n:Int)(hN:G.N.length≤10000):
  Calls Tryz.prog 73 #[.pointer (some ⟨C.gb,0,none⟩),.int .i64 k,.int .i64 n] W fun e w'=>e=.returned (.tuple #[])∧Ga W ow B C (GM.nte G k n) w':=by
 have c:W.cell? ⟨C.gb,18,none⟩=some V.vn:=h.cell 18;have hb:=(Below.refl W.heap.size W).alloc (Nat.le_refl _) (.cells #[.int .i64 k,.int .i64 n] 56);have h1:=h.below' hb;have HN:=Hd (h1.pt 5 trivial).1;have HG:=Hd (World.alloc_heap_new W (.cells #[.int .i64 k,.int .i64 n] 56))
 have HBB:Hid (B≤(W.alloc (.cells #[.int .i64 k,.int .i64 n] 56)).heap.size):=by
  have:=h.lo C.gb (by rw[h.t0];omega);have:=h.sz.1;show _≤_;simp;omega
 have H0:=Hd h;have HB:=Hd hb;clear h h1 hb
 go_enter Tryz.func73,Tryz.ntmps73
 go_wp2_with (at_builtin;refine wpList_appendN rfl _ _ rfl B V.vn G.N rfl HN.out W.heap.size 1 (k,n) rfl HG.out (by omega) HBB.out ?_)
 intro g cap W2 ho hg hl;have H2:=Hd (GX.noted H0.out HB.out ho hg (hl.imp id fun e=>by omega));have c18:W2.cell? ⟨C.gb,18,none⟩=some V.vn:=by simp[World.cell?,H2.out.2];rfl
 have f18:W2.frozen? ⟨C.gb,18,none⟩=false:=by simp[World.frozen?,H2.out.2]
 clear ho hg hl HN HG HBB H0 HB;go_wp2
 go_end0
 exact⟨rfl,H2.out.1⟩
end
section
variable {W W' W2:World} {ow ow':Nat→Nat} {B:Nat} {C:Gc} {V V':Gv} {G G' G2:Gs} {m m':Mb} {i:Nat}
theorem GX.booked{s:Nat}{L:List CC.Cl}{v:Value}{A:World}(h:GX al A ow B C V G)(hb:Below A.heap.size A W)(hk:CC.Kp (CC.Fp C.bb V.vb) W W')(hbk:CC.BK W' B C.bb G.st.fl G.st.ca v s L)(hn:CC.Nx W V.vb v):Ga A ow B C {G with s:=s,L:=L} W':=by
 have h2:=h.pt 2 trivial;have hf:∀b,CC.Fp C.bb V.vb b→ow b=2:=fun b hb=>hb.elim (fun e=>by rw[e];exact h.t2) (h2.2 b);have hl:∀b,CC.Fp C.bb V.vb b→b<A.heap.size:=fun b hb=>(h2.1.lo b hb).2;refine⟨nw ow A 2,{V with vb:=v},?_,fun b hb=>nw_old hb,(Kp.ofBelow _ hb).trans (kp_cc hk) fun b _ e=>by show ow b<1000;rw[hf b e];omega⟩;have h1:=((h.retag 2).below' hb).kp (i:=2) (kp_cc hk) fun b _ e=>by rw[nw_old (hl b e)];exact hf b e
 refine (h1.chg (G':={G with s:=s,L:=L}) (V':={V with vb:=v}) rfl fun t x hp=> ?_).fills ⟨hbk,fun g hg=> ?_⟩
 ·match t,x,hp with
  |0,_,hp=>exact hp
  |1,_,hp=>exact hp
  |2,x,_=>exact absurd rfl x
  |3,_,hp=>exact hp
  |4,_,hp=>exact hp
  |5,_,hp=>exact hp
  |t+6,_,hp=>exact hp
 ·rcases hn g hg with e|e
  ·rw[nw_old (hl g (.inr e))];exact h2.2 g e
  ·exact nw_new (Nat.le_trans hb.size e)
theorem still_build{ops:Array Oper}{w:World}{Q:Act→Prop}{rest:List Oper}{o:Oper}{a:Act}(t:TypeId)(parts:Array (Nat×Operand))(ho:o.op=.build t parts)(hw:Region.wanted o (yielded ops a.tmps)=true)(ps:List (Nat×Value))(hp:(parts.map fun (i,x)=>(i,a.eval x)).toList=ps)(cells:Array Value)(hb:Tryz.prog.built t ps=some cells)
  (h:∀K:Act→Prop,(∀a,wpStill Tryz.prog ops w Q rest a→K a)→K (a.put o.dst (.agg cells))):wpStill Tryz.prog ops w Q (o::rest) a:=by
 unfold wpStill;rw[if_pos hw];unfold Oper.still
 have hr:(execOp a.eval o).run Tryz.prog w=.ok (.value (.agg cells)) w:=by
  subst hp;unfold execOp;simp only[ho,Sem.run_bind,Sem.run_pure,run_build w t _ cells hb,Result.andThen_ok]
 rw[hr];exact⟨rfl,h _ fun _ h=>h⟩
theorem built_c3(a b:Int)(u:Bool):Tryz.prog.built 33 [(0,.int .i64 a),(1,.int .i64 b),(3,.bool u)]=some #[.int .i64 a,.int .i64 b,.int .i64 0,.bool u]:=by kernel_rfl
theorem built_c2(a b:Int):Tryz.prog.built 33 [(0,.int .i64 a),(1,.int .i64 b)]=some #[.int .i64 a,.int .i64 b,.int .i64 0,.bool false]:=by kernel_rfl
theorem FB.new'(W:World)(f:FF.Fr):FF.FB (W.alloc (.cells #[.int .i64 f.ki,.int .i64 f.ca,.int .i64 f.sq,.int .i64 f.a,.int .i64 f.b,.int .i64 f.c] 73)) W.heap.size f:=World.alloc_heap_new W _
theorem press_book{A:World}(h:GX al A ow B C V G)(hb:Below A.heap.size A W)(hr:SM.Rt G.st)(hL:G.L.length≤128)(c:CC.Cl):
  Calls Tryz.prog 134 #[.pointer (some ⟨C.bb,0,none⟩),.agg #[.int .i64 c.fl,.int .i64 c.ca,.int .i64 c.ag,.bool c.up]] W fun e w'=>e=.returned (.int .i64 (CC.KM.err G.st.fl G.st.ca (CC.FM.hasN G.s c.fl) G.L c))∧Ga A ow B C {G with L:=CC.KM.put G.st.fl G.st.ca (CC.FM.hasN G.s c.fl) G.L c} w':=
 (CC.press_any B C.bb G.st.fl G.st.ca V.vb G.s G.L c W ((h.below' hb).pt 2 trivial).1 hL hr.fl1 hr.fl2).mono fun _ _ ⟨he,_,h1,h2,h3⟩=>⟨he,h.booked hb h3 h1 h2⟩
theorem press_any(h:GX al W ow B C V G)(f:FF.Fr)(hr:SM.Rt G.st)(hL:G.L.length≤128):
  Calls Tryz.prog 98 #[.pointer (some ⟨C.gb,0,none⟩),.agg #[.int .i64 f.ki,.int .i64 f.ca,.int .i64 f.sq,.int .i64 f.a,.int .i64 f.b,.int .i64 f.c]] W fun e w'=>e=.returned (.int .i64 (GM.prs G f).1)∧Ga W ow B C (GM.prs G f).2 w':=by
 have hb:=(Below.refl W.heap.size W).alloc (Nat.le_refl _) (.cells #[.int .i64 f.ki,.int .i64 f.ca,.int .i64 f.sq,.int .i64 f.a,.int .i64 f.b,.int .i64 f.c] 73);have c14:(W.alloc (.cells #[.int .i64 f.ki,.int .i64 f.ca,.int .i64 f.sq,.int .i64 f.a,.int .i64 f.b,.int .i64 f.c] 73)).cell? ⟨C.gb,14,none⟩=some (.pointer (some ⟨C.bb,0,none⟩)):=(h.below' hb).cell 14;have hf:=FB.new' W f;have HF:=Hd hf;have HH:=Hd h;have HB:=Hd hb;have f1:(W.alloc (.cells #[.int .i64 f.ki,.int .i64 f.ca,.int .i64 f.sq,.int .i64 f.a,.int .i64 f.b,.int .i64 f.c] 73)).cell? ⟨W.heap.size,1,none⟩=some (.int .i64 f.ca):=hf.range 1 _ rfl;have f3:(W.alloc (.cells #[.int .i64 f.ki,.int .i64 f.ca,.int .i64 f.sq,.int .i64 f.a,.int .i64 f.b,.int .i64 f.c] 73)).cell? ⟨W.heap.size,3,none⟩=some (.int .i64 f.a):=hf.range 3 _ rfl;have f4:(W.alloc (.cells #[.int .i64 f.ki,.int .i64 f.ca,.int .i64 f.sq,.int .i64 f.a,.int .i64 f.b,.int .i64 f.c] 73)).cell? ⟨W.heap.size,4,none⟩=some (.int .i64 f.b):=hf.range 4 _ rfl;clear h hb hf;obtain⟨r,HR⟩:∃r,Hid (GM.prs G f=r):=⟨_,Hd rfl⟩;rw[HR.out]
 have key:∀c:CC.Cl,GM.prc f=c→∀W2,Below W.heap.size W W2→Calls Tryz.prog 134 #[.pointer (some ⟨C.bb,0,none⟩),.agg #[.int .i64 f.a,.int .i64 c.ca,.int .i64 0,.bool c.up]] W2 fun e w'=>e=.returned (.int .i64 r.1)∧Ga W ow B C r.2 w':=by
  intro c hc W2 hb;have hc1:c.fl=f.a∧c.ag=0:=by rw[←hc];unfold GM.prc;split<;>exact⟨rfl,rfl⟩
  have:=press_book HH.out hb hr hL c;rw[hc1.1,hc1.2]at this;rw[←HR.out];unfold GM.prs;rw[hc];exact this
 have HK:=Hd key;clear key HR
 go_enter Tryz.func98,Tryz.ntmps98
 by_cases q:f.ca=255
 ·have d:(f.ca==255)=true:=by simpa using q
  have HP:Hid (GM.prc f=⟨f.a,-1,0,f.b==1⟩):=by show _=_;unfold GM.prc;rw[if_pos q];rfl
  clear q
  go_wp2_with fail
  generalize W.alloc (.cells #[.int .i64 f.ki,.int .i64 f.ca,.int .i64 f.sq,.int .i64 f.a,.int .i64 f.b,.int .i64 f.c] 73)=W1 at*;refine wp_region_still_tail 10 (by kernel_rfl) (by kernel_rfl) ?_;simp only[List.take_succ_cons,List.take_zero,List.drop_succ_cons,List.drop_zero]
  iterate 9 (unfold wpStill;generalize hK:wpStill _ _ _ _ _=K;go_simp;subst hK)
  refine still_build _ _ rfl rfl [(0,.int .i64 f.a),(1,.int .i64 (-1)),(3,.bool (f.b==1))] (by simp[Act.eval]) _ (built_c3 _ _ _) (fun K hK=> ?_);go_simp
  with_reducible apply hK
  clear hK K;refine wpStill_nil ?_;change wpList Tryz.prog _ _ _ _ W1.drew;have HX:=Hd (HK.out _ HP.out W1.drew HB.out.drew);clear HF HB c14 f1 f3 f4 HK HP
  go_wp2_with fail
  refine HX.out.mono ?_;rintro e W2 ⟨rfl,hg⟩;have HG:=Hd hg;clear HX hg;go_wp2;go_ret;exact⟨rfl,HG.out⟩
 ·have d:(f.ca==255)=false:=by simpa using q
  have HP:Hid (GM.prc f=⟨f.a,f.ca,0,false⟩):=by show _=_;unfold GM.prc;rw[if_neg q]
  clear q
  go_wp2_with fail
  generalize W.alloc (.cells #[.int .i64 f.ki,.int .i64 f.ca,.int .i64 f.sq,.int .i64 f.a,.int .i64 f.b,.int .i64 f.c] 73)=W1 at*;refine wp_region_still_tail 9 (by kernel_rfl) (by kernel_rfl) ?_;simp only[List.take_succ_cons,List.take_zero,List.drop_succ_cons,List.drop_zero]
  iterate 8 (unfold wpStill;generalize hK:wpStill _ _ _ _ _=K;go_simp;subst hK)
  refine still_build _ _ rfl rfl [(0,.int .i64 f.a),(1,.int .i64 f.ca)] (by simp[Act.eval]) _ (built_c2 _ _) (fun K hK=> ?_);go_simp
  with_reducible apply hK
  clear hK K;refine wpStill_nil ?_;change wpList Tryz.prog _ _ _ _ W1.drew;have HX:=Hd (HK.out _ HP.out W1.drew HB.out.drew);clear HF HB c14 f1 f3 f4 HK HP
  go_wp2_with fail
  refine HX.out.mono ?_;rintro e W2 ⟨rfl,hg⟩;have HG:=Hd hg;clear HX hg;go_wp2;go_ret;exact⟨rfl,HG.out⟩
theorem Ga.put{A:World}(h:GX al A ow B C V G)(hb:Below A.heap.size A W)(j:Nat)(u:Value)(x:Bool)(y z:Int)(e:(gcv C V G).set j u=gcv C V {G with rc:=x,pi:=y,nd:=z}):Ga A ow B C {G with rc:=x,pi:=y,nd:=z} (W.setCell ⟨C.gb,j,none⟩ u):=
 Ga.of ((h.below' hb).put j u x y z e) ((Kp.ofBelow _ hb).set _ _ _ fun _=>by rw[h.t0];omega)
theorem Ga.setM{A:World}(h:GX al A ow B C V G)(hb:Below A.heap.size A W)(hm:G.M[i]?=some m)(j:Nat)(hj:j<12)(u:Value)(m':Mb)(e:(mc (C.lb i) (V.vl i) m).set j u=mc (C.lb i) (V.vl i) m')(h1:m'.lk=m.lk)(h2:m'.ls=m.ls):Ga A ow B C {G with M:=G.M.set i m'} (W.setCell ⟨C.cb,i*12+j,none⟩ u):=
 Ga.of ((h.below' hb).setM hm j hj u m' e h1 h2) ((Kp.ofBelow _ hb).set _ _ _ fun _=>by rw[h.t1];omega)
theorem hasCar_b(h:GX al W ow B C V G)(hb:Below W.heap.size W W')(c:Int){r:Bool}(hr:(decide (0≤c)&&decide (c<G.M.length))=r):
  Calls Tryz.prog 31 #[.pointer (some ⟨C.gb,0,none⟩),.int .i64 c] W' fun e w'=>e=.returned (.bool r)∧w'=W':=hr▸hasCar_any (h.below' hb) c
theorem turn_any(h:GX al W ow B C V G)(f:FF.Fr)(hf0:0≤f.ca):
  Calls Tryz.prog 99 #[.pointer (some ⟨C.gb,0,none⟩),.agg #[.int .i64 f.ki,.int .i64 f.ca,.int .i64 f.sq,.int .i64 f.a,.int .i64 f.b,.int .i64 f.c]] W fun e w'=>e=.returned (.int .i64 (GM.trn G f).1)∧Ga W ow B C (GM.trn G f).2 w':=by
 have hb:=(Below.refl W.heap.size W).alloc (Nat.le_refl _) (.cells #[.int .i64 f.ki,.int .i64 f.ca,.int .i64 f.sq,.int .i64 f.a,.int .i64 f.b,.int .i64 f.c] 73);have h1:=h.below' hb;have c14:(W.alloc (.cells #[.int .i64 f.ki,.int .i64 f.ca,.int .i64 f.sq,.int .i64 f.a,.int .i64 f.b,.int .i64 f.c] 73)).cell? ⟨C.gb,14,none⟩=some (.pointer (some ⟨C.bb,0,none⟩)):=h1.cell 14;have c15:=h1.c15;have c16:(W.alloc (.cells #[.int .i64 f.ki,.int .i64 f.ca,.int .i64 f.sq,.int .i64 f.a,.int .i64 f.b,.int .i64 f.c] 73)).cell? ⟨C.gb,16,none⟩=some (.bool G.rc):=h1.cell 16;have r16:=h1.fr 16;have hf:=FB.new' W f;have HH:=Hd h;have HB:=Hd hb;have f1:(W.alloc (.cells #[.int .i64 f.ki,.int .i64 f.ca,.int .i64 f.sq,.int .i64 f.a,.int .i64 f.b,.int .i64 f.c] 73)).cell? ⟨W.heap.size,1,none⟩=some (.int .i64 f.ca):=hf.range 1 _ rfl;have f3:(W.alloc (.cells #[.int .i64 f.ki,.int .i64 f.ca,.int .i64 f.sq,.int .i64 f.a,.int .i64 f.b,.int .i64 f.c] 73)).cell? ⟨W.heap.size,3,none⟩=some (.int .i64 f.a):=hf.range 3 _ rfl;have f4:(W.alloc (.cells #[.int .i64 f.ki,.int .i64 f.ca,.int .i64 f.sq,.int .i64 f.a,.int .i64 f.b,.int .i64 f.c] 73)).cell? ⟨W.heap.size,4,none⟩=some (.int .i64 f.b):=hf.range 4 _ rfl;have f5:(W.alloc (.cells #[.int .i64 f.ki,.int .i64 f.ca,.int .i64 f.sq,.int .i64 f.a,.int .i64 f.b,.int .i64 f.c] 73)).cell? ⟨W.heap.size,5,none⟩=some (.int .i64 f.c):=hf.range 5 _ rfl;have HC:=Hd (fun r e=>hasCar_b h hb f.ca (r:=r) e);have hml:=h.ml;have HF0:=Hd hf0;clear h h1 hb hf hf0;obtain⟨r,HR⟩:∃r,Hid (GM.trn G f=r):=⟨_,Hd rfl⟩;rw[HR.out]
 go_enter Tryz.func99,Tryz.ntmps99
 by_cases q1:f.a=1
 ·have HE:Hid (r=(0,{G with rc:=f.b==1})):=by show _=_;rw[←HR.out];unfold GM.trn;rw[if_pos q1];rfl
  have d1:(f.a==1)=true:=by simpa using q1
  clear q1 HC c14 c15 HR f5;go_wp2;go_ret;rw[HE.out];exact⟨rfl,Ga.put HH.out HB.out 16 _ (f.b==1) G.pi G.nd rfl⟩
 ·have d1:(f.a==1)=false:=by simpa using q1
  by_cases q2:f.a=2
  ·have d2:(f.a==2)=true:=by simpa using q2
   by_cases q3:f.ca<(G.M.length:Int)
   ·obtain⟨n,hn⟩:∃n:Nat,f.ca=n:=⟨f.ca.toNat,by have:=HF0.out;omega⟩;have hn2:n<G.M.length:=by omega
    obtain⟨m,hm⟩:∃m,G.M[n]?=some m:=⟨_,List.getElem?_eq_getElem hn2⟩
    have HE:Hid (r=(0,{G with M:=G.M.set n {m with ou:=f.b==1}})):=by
     show _=_;rw[←HR.out];unfold GM.trn;rw[if_neg q1,if_pos q2,hn,Int.toNat_natCast,hm];rfl
    have HX:=Hd (HC.out true (by have:=HF0.out;simp;omega));have hix:∀W:World,(Instr.indexAt 83 (.slice (some ⟨C.cb,0,none⟩) G.M.length G.M.length) (.int .i64 f.ca)).run Tryz.prog W=.ok (.pointer (some ⟨C.cb,n*12,none⟩)) W:=fun W=>by rw[hn];exact ixM W hn2
    have h1:=HH.out.below' HB.out;have m1:(W.alloc (.cells #[.int .i64 f.ki,.int .i64 f.ca,.int .i64 f.sq,.int .i64 f.a,.int .i64 f.b,.int .i64 f.c] 73)).cell? ⟨C.cb,n*12+1,none⟩=some (.bool m.ou):=h1.mcell hm 1 (by decide);have mf:=h1.mfr (n*12+1);have HM:=Hd hm;clear q1 q2 q3 hn hn2 hm h1 HC c14 HR c16 r16 f5
    go_wp2_with fail
    refine HX.out.mono ?_;rintro e W1 ⟨rfl,e1⟩;subst e1;clear HX
    go_wp2_with fail
    generalize W.alloc (.cells #[.int .i64 f.ki,.int .i64 f.ca,.int .i64 f.sq,.int .i64 f.a,.int .i64 f.b,.int .i64 f.c] 73)=W1 at*;refine wp_region_still_tail 12 (by kernel_rfl) (by kernel_rfl) ?_;simp only[List.take_succ_cons,List.take_zero,List.drop_succ_cons,List.drop_zero]
    iterate 12 (unfold wpStill;generalize hK:wpStill _ _ _ _ _=K;go_simp;subst hK)
    refine wpStill_nil ?_;change wpList Tryz.prog _ _ _ _ W1.drew;go_wp2;go_ret;rw[HE.out];exact⟨rfl,Ga.setM HH.out HB.out.drew HM.out 1 (by decide) _ _ rfl rfl rfl⟩
   ·have HE:Hid (r=(2,G)):=by
     show _=_;rw[←HR.out];unfold GM.trn;rw[if_neg q1,if_pos q2,List.getElem?_eq_none (by omega)]
    have HX:=Hd (HC.out false (by simp;omega));clear q1 q2 q3 HC c14 HR c16 r16 f5 c15
    go_wp2_with fail
    refine HX.out.mono ?_;rintro e W1 ⟨rfl,e1⟩;subst e1;go_wp2;go_ret;rw[HE.out];exact⟨rfl,Ga.below HH.out HB.out⟩
  ·have d2:(f.a==2)=false:=by simpa using q2
   by_cases q3:f.a=3
   ·have d3:(f.a==3)=true:=by simpa using q3
    have HE:Hid (r=(CC.barE G.st.fl f.c,{G with s:=CC.barN G.st.fl f.c (f.b==1) G.s})):=by
     show _=_;rw[←HR.out];unfold GM.trn;rw[if_neg q1,if_neg q2,if_pos q3];rfl
    clear q1 q2 q3 HC HR c15 c16 r16 f1
    go_wp2_with fail
    generalize W.alloc (.cells #[.int .i64 f.ki,.int .i64 f.ca,.int .i64 f.sq,.int .i64 f.a,.int .i64 f.b,.int .i64 f.c] 73)=W1 at*;refine wp_region_still_tail 9 (by kernel_rfl) (by kernel_rfl) ?_;simp only[List.take_succ_cons,List.take_zero,List.drop_succ_cons,List.drop_zero]
    iterate 9 (unfold wpStill;generalize hK:wpStill _ _ _ _ _=K;go_simp;subst hK)
    refine wpStill_nil ?_;change wpList Tryz.prog _ _ _ _ W1.drew;have HX:=Hd (CC.bar_any B C.bb G.st.fl G.st.ca V.vb G.s G.L f.c (f.b==1) W1.drew ((HH.out.below' HB.out.drew).pt 2 trivial).1);have HB2:=Hd HB.out.drew;clear HB c14 f3 f4 f5
    go_wp2_with fail
    refine HX.out.mono ?_;rintro e W2 ⟨rfl,hbk,hkp⟩;have HG:=Hd (HH.out.booked HB2.out hkp hbk fun k hk=>.inl hk);clear HX hbk hkp;go_wp2;go_ret;rw[HE.out];exact⟨rfl,HG.out⟩
   ·have d3:(f.a==3)=false:=by simpa using q3
    have HE:Hid (r=(1,G)):=by
     show _=_;rw[←HR.out];unfold GM.trn;rw[if_neg q1,if_neg q2,if_neg q3]
    clear q1 q2 q3 HC HR c15 c16 r16 f1 f5 c14;go_wp2;go_ret;rw[HE.out];exact⟨rfl,Ga.below HH.out HB.out⟩
end
theorem bdrw{B:Nat}{a w:World}(h:Below B a w)(n:Nat):Below B a (w.drewN n):=⟨h.os,h.tape,h.output,h.size,h.block⟩
section
variable {W W' W2:World} {ow ow':Nat→Nat} {B:Nat} {C:Gc} {V V':Gv} {G G' G2:Gs} {m m':Mb} {i:Nat}
theorem bits_byte:∀c<256,bits .and .i64 (c:Nat) 3=((c%4:Nat):Int)∧(bits .and .i64 (c:Nat) 4 !=0)=decide (c/4%2=1)∧(bits .and .i64 (c:Nat) 8 !=0)=decide (c/8%2=1)∧(bits .and .i64 (c:Nat) 16 !=0)=decide (c/16%2=1):=by decide+kernel
theorem GX.setN(h:GX al W ow B C V {G with M:=G.M.set i m})(hi:i<G.M.length)(j:Nat)(hj:j<12)(u:Value)(m':Mb)(e:(mc (C.lb i) (V.vl i) m).set j u=mc (C.lb i) (V.vl i) m')(h1:m'.lk=m.lk)(h2:m'.ls=m.ls):GX al (W.setCell ⟨C.cb,i*12+j,none⟩ u) ow B C V {G with M:=G.M.set i m'}:=by
 have:=h.setM (i:=i) (m:=m) (by simp[hi]) j hj u m' e h1 h2;simpa using this
theorem FB_drewN{b:Nat}{f:FF.Fr}(h:FF.FB W b f)(n:Nat):FF.FB (W.drewN n) b f:=h
theorem GX.link(h:GX al W ow B C V G)(hm:G.M[i]?=some m):LL.LB W (C.lb i) m.lk:=(h.pt (4+2*i+6) trivial i m hm).1 rfl
theorem Ga.link{A:World}(h:GX al A ow B C V G)(hb:Below A.heap.size A W)(hm:G.M[i]?=some m)(s:Int):
  Calls Tryz.prog 133 #[.pointer (some ⟨C.lb i,0,none⟩),.int .i64 s] W fun e w'=>e=.returned (.int .i64 (LL.LM.err m.lk s))∧GX al w' ow B C V {G with M:=G.M.set i {m with lk:=LL.LM.tk m.lk s}}∧Kp (fun b=>ow b<1000) A w'∧Kp (fun k=>k=C.lb i) W w':=by
 have h1:=h.below' hb;have hi:=(List.getElem?_eq_some_iff.1 hm).1;exact(LL.take_any m.lk s (C.lb i) W (h1.link hm)).mono fun _ _ ⟨he,hl,hk⟩=>⟨he,h1.setL hm (kp_ll hk) _ hl,(Kp.ofBelow _ hb).trans (kp_ll hk) fun b _ e=>by show ow b<1000;rw[e,h.tl i hi];have:=h.ml;omega,kp_ll hk⟩
theorem GX.s5(h:GX al W ow B C V {G with M:=G.M.set i m})(hi:i<G.M.length)(x:Int):GX al (W.setCell ⟨C.cb,i*12+5,none⟩ (.int .i64 x)) ow B C V {G with M:=G.M.set i {m with fl:=x}}:=h.setN hi 5 (by decide) _ _ rfl rfl rfl
theorem GX.s6(h:GX al W ow B C V {G with M:=G.M.set i m})(hi:i<G.M.length)(x:Int):GX al (W.setCell ⟨C.cb,i*12+6,none⟩ (.int .i64 x)) ow B C V {G with M:=G.M.set i {m with tg:=x}}:=h.setN hi 6 (by decide) _ _ rfl rfl rfl
theorem GX.s7(h:GX al W ow B C V {G with M:=G.M.set i m})(hi:i<G.M.length)(x:Int):GX al (W.setCell ⟨C.cb,i*12+7,none⟩ (.int .i64 x)) ow B C V {G with M:=G.M.set i {m with ph:=x}}:=h.setN hi 7 (by decide) _ _ rfl rfl rfl
theorem GX.s2(h:GX al W ow B C V {G with M:=G.M.set i m})(hi:i<G.M.length)(x:Bool):GX al (W.setCell ⟨C.cb,i*12+2,none⟩ (.bool x)) ow B C V {G with M:=G.M.set i {m with mo:=x}}:=h.setN hi 2 (by decide) _ _ rfl rfl rfl
theorem GX.s3(h:GX al W ow B C V {G with M:=G.M.set i m})(hi:i<G.M.length)(x:Bool):GX al (W.setCell ⟨C.cb,i*12+3,none⟩ (.bool x)) ow B C V {G with M:=G.M.set i {m with fa:=x}}:=h.setN hi 3 (by decide) _ _ rfl rfl rfl
theorem GX.s4(h:GX al W ow B C V {G with M:=G.M.set i m})(hi:i<G.M.length)(x:Bool):GX al (W.setCell ⟨C.cb,i*12+4,none⟩ (.bool x)) ow B C V {G with M:=G.M.set i {m with ov:=x}}:=h.setN hi 4 (by decide) _ _ rfl rfl rfl
theorem report_any(h:GX al W ow B C V G)(f:FF.Fr)(hf0:FF.FC.May f):
  Calls Tryz.prog 97 #[.pointer (some ⟨C.gb,0,none⟩),.agg #[.int .i64 f.ki,.int .i64 f.ca,.int .i64 f.sq,.int .i64 f.a,.int .i64 f.b,.int .i64 f.c]] W fun e w'=>e=.returned (.int .i64 (GM.rep G f).1)∧Ga W ow B C (GM.rep G f).2 w':=by
 have hb:=(Below.refl W.heap.size W).alloc (Nat.le_refl _) (.cells #[.int .i64 f.ki,.int .i64 f.ca,.int .i64 f.sq,.int .i64 f.a,.int .i64 f.b,.int .i64 f.c] 73);have h1:=h.below' hb;have c15:=h1.c15;have c0:(W.alloc (.cells #[.int .i64 f.ki,.int .i64 f.ca,.int .i64 f.sq,.int .i64 f.a,.int .i64 f.b,.int .i64 f.c] 73)).cell? ⟨C.gb,0,none⟩=some (.int .i64 G.st.fl):=h1.cell 0;have hf:=FB.new' W f;have HH:=Hd h;have HB:=Hd hb;have f1:(W.alloc (.cells #[.int .i64 f.ki,.int .i64 f.ca,.int .i64 f.sq,.int .i64 f.a,.int .i64 f.b,.int .i64 f.c] 73)).cell? ⟨W.heap.size,1,none⟩=some (.int .i64 f.ca):=hf.range 1 _ rfl;have f2:(W.alloc (.cells #[.int .i64 f.ki,.int .i64 f.ca,.int .i64 f.sq,.int .i64 f.a,.int .i64 f.b,.int .i64 f.c] 73)).cell? ⟨W.heap.size,2,none⟩=some (.int .i64 f.sq):=hf.range 2 _ rfl;have f3:(W.alloc (.cells #[.int .i64 f.ki,.int .i64 f.ca,.int .i64 f.sq,.int .i64 f.a,.int .i64 f.b,.int .i64 f.c] 73)).cell? ⟨W.heap.size,3,none⟩=some (.int .i64 f.a):=hf.range 3 _ rfl;have f4:(W.alloc (.cells #[.int .i64 f.ki,.int .i64 f.ca,.int .i64 f.sq,.int .i64 f.a,.int .i64 f.b,.int .i64 f.c] 73)).cell? ⟨W.heap.size,4,none⟩=some (.int .i64 f.b):=hf.range 4 _ rfl;have HFB:=Hd hf;have HC:=Hd (fun r e n=>hasCar_b h (bdrw hb n) f.ca (r:=r) e);have hml:=h.ml;have HF0:=Hd hf0;clear h h1 hb hf hf0;obtain⟨r,HR⟩:∃r,Hid (GM.rep G f=r):=⟨_,Hd rfl⟩;rw[HR.out]
 go_enter Tryz.func97,Tryz.ntmps97
 by_cases q1:f.ca<(G.M.length:Int)
 ·obtain⟨n,hn⟩:∃n:Nat,f.ca=n:=⟨f.ca.toNat,by have:=HF0.out.ca1;omega⟩;have hn2:n<G.M.length:=by omega
  obtain⟨m,hm⟩:∃m,G.M[n]?=some m:=⟨_,List.getElem?_eq_getElem hn2⟩;have HX:=Hd (HC.out true (by have:=HF0.out.ca1;simp;omega));have hix:∀W:World,(Instr.indexAt 83 (.slice (some ⟨C.cb,0,none⟩) G.M.length G.M.length) (.int .i64 f.ca)).run Tryz.prog W=.ok (.pointer (some ⟨C.cb,n*12,none⟩)) W:=fun W=>by rw[hn];exact ixM W hn2
  have HM:=Hd hm;have HN:=Hd hn;clear HC;by_cases q2:G.st.fl≤f.a∨G.st.fl≤f.b
  ·have HE:Hid (r=(2,G)):=by
    show _=_;rw[←HR.out];unfold GM.rep;rw[hn,Int.toNat_natCast,hm];simp only[if_pos q2]
   clear q1 hn hn2 hm HR;by_cases q3:G.st.fl≤f.a
   ·clear q2
    go_wp2_with fail
    go_quiet ((go_at_call 31;exact Calls.quiet_of_same (HX.out _)))
    go_wp2;go_ret;rw[HE.out];exact⟨rfl,Ga.below HH.out (bdrw HB.out _)⟩
   ·have q4:G.st.fl≤f.b:=by omega
    clear q2
    go_wp2_with fail
    go_quiet ((go_at_call 31;exact Calls.quiet_of_same (HX.out _)))
    go_wp2;go_ret;rw[HE.out];exact⟨rfl,Ga.below HH.out (bdrw HB.out _)⟩
  ·have HE:Hid (r=(LL.LM.err m.lk f.sq,{G with M:=G.M.set n (GM.rpm m f)})):=by
    show _=_;rw[←HR.out];unfold GM.rep;rw[hn,Int.toNat_natCast,hm];simp only[if_neg q2]
   have q3:¬G.st.fl≤f.a:=by omega
   have q4:¬G.st.fl≤f.b:=by omega
   have HQ:Hid (n<G.M.length):=hn2;clear q1 q2 hn hn2 hm HR
   go_wp2_with fail
   go_quiet ((go_at_call 31;exact Calls.quiet_of_same (HX.out _)))
   have HB1:=Hd (bdrw HB.out nq);have HFB1:=Hd (FB_drewN HFB.out nq);clear HX
   go_wp2_with fail
   go_quiet (fail)
   go_wp2_with fail
   have HB2:=Hd (bdrw HB1.out nq);have HFB2:=Hd (FB_drewN HFB1.out nq);clear HB HFB HB1 HFB1 c0 c15 f1 f2 f3 f4 hix
   revert HB2 HFB2
   generalize World.drewN _ nq=W2;intro HB2 HFB2;have h2:=HH.out.below' HB2.out;have f2:W2.cell? ⟨W.heap.size,2,none⟩=some (.int .i64 f.sq):=HFB2.out.range 2 _ rfl;have m8:W2.cell? ⟨C.cb,n*12+8,none⟩=some (.pointer (some ⟨C.lb n,0,none⟩)):=h2.mcell HM.out 8 (by decide);clear h2;refine wp_region_still_tail 6 (by kernel_rfl) (by kernel_rfl) ?_;simp only[List.take_succ_cons,List.take_zero,List.drop_succ_cons,List.drop_zero]
   iterate 6 (unfold wpStill;generalize hK:wpStill _ _ _ _ _=K;go_simp;subst hK)
   refine wpStill_nil ?_;change wpList Tryz.prog _ _ _ _ W2.drew;have HL:=Hd (Ga.link HH.out HB2.out.drew HM.out f.sq);have HFB3:=Hd (FB_drewN HFB2.out 1);have hlt:=HFB2.out.lt;clear f2 m8 HB2 HFB2
   go_wp2_with fail
   refine HL.out.mono ?_;rintro e W3 ⟨rfl,hga,hh3,hk3⟩;by_cases q5:LL.LM.err m.lk f.sq=0
   ·rw[q5]at HE;rw[q5];obtain⟨k,hk⟩:∃k:Nat,f.c=k:=⟨f.c.toNat,by have:=HF0.out.c1;omega⟩;obtain⟨b3,b4,b8,b16⟩:=bits_byte k (by have:=HF0.out.c2;omega);rw[←hk]at b3 b4 b8 b16
    have HRP:Hid (GM.rpm m f={m with lk:=LL.LM.tk m.lk f.sq,fl:=f.a,tg:=f.b,ph:=bits .and .i64 f.c 3,mo:=bits .and .i64 f.c 4 !=0,fa:=bits .and .i64 f.c 8 !=0,ov:=bits .and .i64 f.c 16 !=0}):=by
     show _=_;unfold GM.rpm;rw[if_pos q5,b3,b4,b8,b16,hk]
     congr 1<;>simp<;>omega
    have hm3:(G.M.set n {m with lk:=LL.LM.tk m.lk f.sq})[n]?=some {m with lk:=LL.LM.tk m.lk f.sq}:=by simp[HQ.out]
    have hfb:FF.FB W3 W.heap.size f:=(hk3.block _ hlt (fun e=>by have:=HH.out.sz.2.2.2 n HQ.out;omega)).trans HFB3.out;have f3:W3.cell? ⟨W.heap.size,3,none⟩=some (.int .i64 f.a):=hfb.range 3 _ rfl;have f4:W3.cell? ⟨W.heap.size,4,none⟩=some (.int .i64 f.b):=hfb.range 4 _ rfl;have f5:W3.cell? ⟨W.heap.size,5,none⟩=some (.int .i64 f.c):=hfb.range 5 _ rfl;have m5:W3.cell? ⟨C.cb,n*12+5,none⟩=some (.int .i64 m.fl):=hga.mcell hm3 5 (by decide);have m6:W3.cell? ⟨C.cb,n*12+6,none⟩=some (.int .i64 m.tg):=hga.mcell hm3 6 (by decide);have m7:W3.cell? ⟨C.cb,n*12+7,none⟩=some (.int .i64 m.ph):=hga.mcell hm3 7 (by decide);have m2:W3.cell? ⟨C.cb,n*12+2,none⟩=some (.bool m.mo):=hga.mcell hm3 2 (by decide);have m3:W3.cell? ⟨C.cb,n*12+3,none⟩=some (.bool m.fa):=hga.mcell hm3 3 (by decide);have m4:W3.cell? ⟨C.cb,n*12+4,none⟩=some (.bool m.ov):=hga.mcell hm3 4 (by decide);have r2:=hga.mfr (n*12+2);have r3:=hga.mfr (n*12+3);have r4:=hga.mfr (n*12+4);have r5:=hga.mfr (n*12+5);have r6:=hga.mfr (n*12+6);have r7:=hga.mfr (n*12+7);obtain⟨x3,hx3⟩:∃x,bits .and .i64 f.c 3=x:=⟨_,rfl⟩;rw[hx3]at HRP;have hne:W.heap.size≠C.cb:=by have:=HH.out.sz.2.1;omega
    have hne':C.cb≠W.heap.size:=by omega
    have HG:=Hd hga;have HK:=Hd hh3;have HFB4:=Hd hfb;clear hm3 hfb hga hh3 hk3 HL HFB3 hlt q5 b4 b8 b16 b3 hk k
    go_wp2_with fail
    go_big_region
    go_wp2;go_ret;rw[HE.out,HRP.out];refine⟨rfl,Ga.of (V:=V) ?_ ?_⟩
    ·exact(((((((HG.out.s5 HQ.out _).s6 HQ.out _).s7 HQ.out _).s2 HQ.out _).s3 HQ.out _).s4 HQ.out _).below' (Below.refl _ _).drew)
    ·have ht:ow C.cb<1000:=by rw[HH.out.t1];omega
     exact((((((HK.out.set _ _ _ fun _=>ht).set _ _ _ fun _=>ht).set _ _ _ fun _=>ht).set _ _ _ fun _=>ht).set _ _ _ fun _=>ht).set _ _ _ fun _=>ht).drew
   ·have HE2:Hid (GM.rpm m f=m):=by show _=_;unfold GM.rpm;rw[if_neg q5]
    rw[LL.LM.tk_same q5]at hga;have HG:=Hd hga;have HK:=Hd hh3;rw[HE2.out]at HE;have d5:(LL.LM.err m.lk f.sq !=0)=true:=by simpa using q5
    clear q5 hga hh3 hk3 HL HFB3;generalize LL.LM.err m.lk f.sq=er at*;go_wp2;go_ret;rw[HE.out];exact⟨rfl,Ga.of HG.out HK.out⟩
 ·have HE:Hid (r=(2,G)):=by
   show _=_;rw[←HR.out];unfold GM.rep;rw[List.getElem?_eq_none (by omega)]
  have HX:=Hd (HC.out false (by simp;omega));clear q1 HC HR
  go_wp2_with fail
  go_quiet ((go_at_call 31;exact Calls.quiet_of_same (HX.out _)))
  go_wp2;go_ret;rw[HE.out];exact⟨rfl,Ga.below HH.out (bdrw HB.out _)⟩
end
end Go.Proofs.YtlajleogofmkcaaGreat
