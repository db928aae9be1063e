import Derived.Test.YtlajleogofmkcaaGreatRows
import Derived.WalkKit
import Derived.WalkSpells
import Derived.WalkLawsBesides
import Derived.RangeFuncBox
import Derived.Deep.MidRow
import Derived.Deep.Quiet
import Derived.Deep.QuietTactic
import Derived.Laws.OwnMore
import Derived.Laws.AppendOwnNone
import Derived.Deep.AppendLies
import Derived.OwnWalk
import Derived.StillTail
import Derived.RangeFuncNested
import Derived.RangeFuncBound
import Derived.RangeFuncCalls
import Derived.RangeFuncLeaves
import Derived.Shelf.Abstract
import Derived.Shelf.RegionOpen
import Derived.OwnWalkIn
import Derived.TacticsInMore
import Derived.LoopNIn
import Derived.LoopIn
set_option maxHeartbeats 8000000
set_option maxRecDepth 100000
namespace Go.Proofs.YtlajleogofmkcaaGreat
theorem ret_int{k:IntKind}{a b:Int}(h:a=b):Ending.returned (.int k a)=.returned (.int k b):=by rw[h]
structure St where
 fl:Int
 ca:Int
 sta:Int
 ste:Int
 sto:Int
 opn:Int
 wai:Int
 clo:Int
 nud:Int
 age:Int
 sil:Int
 bud:Int
 per:Int
namespace SM
structure Rt(s:St):Prop where
 fl1:2≤s.fl
 fl2:s.fl≤64
 ca1:1≤s.ca
 ca2:s.ca≤8
 sta1:0≤s.sta
 sta2:s.sta≤1000
 ste1:1≤s.ste
 ste2:s.ste≤1000
 sto1:0≤s.sto
 sto2:s.sto≤1000
 opn1:1≤s.opn
 opn2:s.opn≤1000
 wai1:1≤s.wai
 wai2:s.wai≤1000
 clo1:1≤s.clo
 clo2:s.clo≤1000
 nud1:0≤s.nud
 nud2:s.nud≤10
 age1:1≤s.age
 age2:s.age≤1000000
 sil1:1≤s.sil
 sil2:s.sil≤1000000
 bud1:1≤s.bud
 bud2:s.bud≤1000000
 per1:1≤s.per
 per2:s.per≤1000
end SM
open Go.RowKit
theorem Hd{p:Prop}(h:p):Hid p:=h
def sv(s:St):List Value:=[.int .i64 s.fl,.int .i64 s.ca,.int .i64 s.sta,.int .i64 s.ste,.int .i64 s.sto,.int .i64 s.opn,.int .i64 s.wai,.int .i64 s.clo,.int .i64 s.nud,.int .i64 s.age,.int .i64 s.sil,.int .i64 s.bud,.int .i64 s.per]
theorem sv_length(s:St):(sv s).length=13:=rfl
theorem info23:(Tryz.prog.info? 23).map (·.size)=some 13:=by kernel_rfl
def SB(W:World)(b:Nat)(s:St):Prop:=W.heap[b]?=some (.cells (sv s).toArray 23 (0,0))
theorem SB.lt{W:World}{b:Nat}{s:St}(h:SB W b s):b<W.heap.size:=(Array.getElem?_eq_some_iff.1 h).1
theorem SB.cell{W:World}{b:Nat}{s:St}(h:SB W b s)(i:Nat):W.cell? ⟨b,i,none⟩=(sv s)[i]?:=by
 simp[World.cell?,show W.heap[b]?=_ from h]
theorem SB.range{W:World}{b:Nat}{s:St}(h:SB W b s):W.rangeAt b 0 (sv s):=fun j v hv=>by
 rw[Nat.zero_add,h.cell,hv]
theorem SB.below{W W':World}{B b:Nat}{s:St}(h:SB W b s)(hb:Below B W W')(hlt:b<B):SB W' b s:=(hb.block b hlt).trans h
theorem SB.below'{W W':World}{b:Nat}{s:St}(h:SB W b s)(hb:Below W.heap.size W W'):SB W' b s:=h.below hb h.lt
theorem SB.alloc{W:World}{b:Nat}{s:St}(h:SB W b s)(o:Obj):SB (W.alloc o) b s:=(Below.heap_alloc W o b h.lt).trans h
theorem SB.drew{W:World}{b:Nat}{s:St}(h:SB W b s):SB W.drew b s:=h
theorem SB.other{W:World}{b b':Nat}{s:St}(h:SB W b s)(hne:b≠b')(i:Nat)(v:Value):SB (W.setCell ⟨b',i,none⟩ v) b s:=
 (Below.heap_setCell W ⟨b',i,none⟩ v b hne).trans h
theorem SB.new(W:World)(s:St):SB (W.alloc (.cells (sv s).toArray 23)) W.heap.size s:=World.alloc_heap_new W _
theorem load23(w:World)(b:Nat)(s:St)(h:w.rangeAt b 0 (sv s)):
  (Instr.loadAt 23 (.pointer (some ⟨b,0,none⟩))).run Tryz.prog w=.ok (.agg (sv s).toArray) w:=
 run_loadAt_mid (P:=Tryz.prog) w b 0 23 (sv s) _ h Tryz.underlying23 rfl (by rw[sv_length];exact info23)
theorem wpList_load23{ops:Array Oper}{rest:List Oper}{op:Oper}{a:Act}{w:World}{Q:Exit→Act→World→Prop}(hgd:op.guard=none)(x:Operand)(ho:op.op=.load 23 x)
  (b:Nat) (s:St) (hx:a.eval x=.pointer (some ⟨b,0,none⟩)) (hr:SB w b s)
  (h:wpList Tryz.prog ops Q rest (a.put op.dst (.agg (sv s).toArray)) w):wpList Tryz.prog ops Q (op::rest) a w:=
 wpList_plain hgd fun _ hK=>by
  unfold Oper.wp execOp;simp only[ho,Sem.run_bind,Sem.run_pure,Result.andThen_ok,hx,load23 w b s hr.range];exact hK _ _ h
theorem wpList_load23g{ops:Array Oper}{rest:List Oper}{op:Oper}{a:Act}{w:World}{Q:Exit→Act→World→Prop}(hgd:Region.wanted op (yielded ops a.tmps)=true)(x:Operand)(ho:op.op=.load 23 x)
  (b:Nat) (s:St) (hx:a.eval x=.pointer (some ⟨b,0,none⟩)) (hr:SB w b s)
  (h:wpList Tryz.prog ops Q rest (a.put op.dst (.agg (sv s).toArray)) w):wpList Tryz.prog ops Q (op::rest) a w:=
 wpList_step fun _ hK=>by
  rw[if_pos hgd];unfold Oper.wp execOp;simp only[ho,Sem.run_bind,Sem.run_pure,Result.andThen_ok,hx,load23 w b s hr.range];exact hK _ _ h
theorem load3(w:World)(b o:Nat)(v:Value)(h:w.cell? ⟨b,o,none⟩=some v):(Instr.loadAt 3 (.pointer (some ⟨b,o,none⟩))).run Tryz.prog w=.ok v w:=by simp[go_sem,h]
theorem below_class{W0 w w':World}(h:Below W0.heap.size W0 w)(h':Below w.heap.size w w'):Below W0.heap.size W0 w':=h.trans (h'.mono h.size)
namespace PM
def bt(m c:Nat):Bool:=m/2^c%2==1
def sm:Nat→(Nat→Nat)→Nat
 |0,_=>0
 |n+1,f=>sm n f+f n
def inc(t:Nat→Nat)(c:Nat):Nat→Nat:=fun i=>if i=c then t i+1 else t i
def kp(n:Nat):(Nat→Nat)→List Nat→List Bool→Nat
 |t,m::ms,b::st=>if b then kp n t ms st else sm n (fun c=>if bt m c then t c*kp n (inc t c) ms st else 0)
 |_,_,_=>1
def up:Nat→Nat→Nat
 |_,0=>1
 |T,k+1=>T*up (T+1) k
end PM
namespace PM
def okx(ms:List Nat)(c:Nat)(x:Int):Bool:=decide (0≤x)&&decide (x<ms.length)&&bt (ms[x.toNat]?.getD 0) c
theorem okx_iff{ms:List Nat}{c:Nat}{x:Int}:okx ms c x=true↔0≤x∧x<ms.length∧bt (ms[x.toNat]?.getD 0) c=true:=by
 unfold okx;simp[and_assoc]
def nb(st:List Bool)(w:Nat):Nat:=if st[w]?=some true then 1 else 0
theorem nb_set{st:List Bool}{w v:Nat}(hv:v<st.length)(h:st[v]?=some false):nb (st.set v true) w=nb st w+if w=v then 1 else 0:=by
 unfold nb;by_cases e:w=v
 ·subst e;rw[List.getElem?_set_self hv,h];simp
 ·rw[List.getElem?_set_ne (Ne.symm e)];simp[e]
theorem nb_true{st:List Bool}{w:Nat}(h:st[w]?=some true):nb st w=1:=by unfold nb;rw[if_pos h]
theorem nb_false{st:List Bool}{w:Nat}(h:st[w]?=some false):nb st w=0:=by unfold nb;rw[h];simp
theorem nb_rep(n w:Nat):nb (List.replicate n false) w=0:=by
 unfold nb;rw[List.getElem?_replicate];split<;>simp
def run1(ms:List Nat)(c:Nat):List Bool→List Int→Option (List Bool)
 |st,[]=>some st
 |st,x::l=>if okx ms c x=true∧st[x.toNat]?=some false then run1 ms c (st.set x.toNat true) l else none
def runs(ms:List Nat):Nat→List Bool→List (List Int)→Option (List Bool)
 |_,st,[]=>some st
 |c,st,l::p=>(run1 ms c st l).bind fun st'=>runs ms (c+1) st' p
def feas(ms:List Nat)(p:List (List Int)):Bool:=((runs ms 0 (List.replicate ms.length false) p).map (fun st=>st.all id)).getD false
def cnt1(ms:List Nat)(c:Nat):List Nat→List Int→Option (List Nat)
 |ct,[]=>some ct
 |ct,x::l=>if okx ms c x=true then cnt1 ms c (ct.set x.toNat (ct[x.toNat]?.getD 0+1)) l else none
def cnts(ms:List Nat):Nat→List Nat→List (List Int)→Option (List Nat)
 |_,ct,[]=>some ct
 |c,ct,l::p=>(cnt1 ms c ct l).bind fun ct'=>cnts ms (c+1) ct' p
structure Fz(ms:List Nat)(p:List (List Int)):Prop where
 ok:∀(c:Nat) l,p[c]?=some l→∀x∈l,okx ms c x=true
 once:∀w,w<ms.length→p.flatten.count (w:Int)=1
theorem cast_nat{x:Int}{w:Nat}(hx:0≤x):(x=(w:Int))↔w=x.toNat:=by omega
theorem run1_some{ms:List Nat}{c:Nat}:∀{l:List Int} {st st':List Bool},st.length=ms.length→run1 ms c st l=some st'→
  (∀x∈l,okx ms c x=true)∧st'.length=ms.length∧∀w,w<ms.length→nb st' w=nb st w+l.count (w:Int)
 |[],st,st',hl,h=>by
  simp only[run1,Option.some.injEq]at h;subst h;exact⟨by simp,hl,by simp⟩
 |x::l,st,st',hl,h=>by
  rw[run1]at h;split at h
  ·rename_i hq;obtain⟨h1,h2,h3⟩:=run1_some (by rw[List.length_set];exact hl) h;obtain⟨k1,k2,_⟩:=okx_iff.1 hq.1;refine⟨fun y hy=> ?_,h2,fun w hw=> ?_⟩
   ·rcases List.mem_cons.1 hy with rfl|hy
    ·exact hq.1
    ·exact h1 y hy
   ·rw[h3 w hw,nb_set (by omega) hq.2,List.count_cons]
    have:(x==(w:Int))=decide (w=x.toNat):=by
     rw[Bool.eq_iff_iff];simp[cast_nat k1]
    rw[this];simp only[decide_eq_true_eq];omega
  ·cases h
theorem run1_ok{ms:List Nat}{c:Nat}:∀{l:List Int} {st:List Bool},st.length=ms.length→(∀x∈l,okx ms c x=true)→(∀w,w<ms.length→nb st w+l.count (w:Int)≤1)→∃st',run1 ms c st l=some st'
 |[],st,_,_,_=>⟨st,rfl⟩
 |x::l,st,hl,hk,hc=>by
  obtain⟨k1,k2,_⟩:=okx_iff.1 (hk x (by simp));have hcx:=hc x.toNat (by omega);rw[Int.toNat_of_nonneg k1,List.count_cons_self]at hcx
  have hst:st[x.toNat]?=some false:=by
   have hlt:x.toNat<st.length:=by omega
   rw[List.getElem?_eq_getElem hlt];cases e:st[x.toNat]
   ·rfl
   ·exfalso;have:nb st x.toNat=1:=nb_true (by rw[List.getElem?_eq_getElem hlt,e]);omega
  rw[run1,if_pos ⟨hk x (by simp),hst⟩];refine run1_ok (by rw[List.length_set];exact hl) (fun y hy=>hk y (by simp[hy])) fun w hw=> ?_;rw[nb_set (by omega) hst];have:=hc w hw;rw[List.count_cons]at this
  have e:(x==(w:Int))=decide (w=x.toNat):=by
   rw[Bool.eq_iff_iff];simp[cast_nat k1]
  rw[e]at this;simp only[decide_eq_true_eq]at this;omega
theorem runs_some{ms:List Nat}:∀{p:List (List Int)} {c:Nat} {st st':List Bool},st.length=ms.length→runs ms c st p=some st'→
  (∀(d:Nat) l,p[d]?=some l→∀x∈l,okx ms (c+d) x=true)∧st'.length=ms.length∧∀w,w<ms.length→nb st' w=nb st w+p.flatten.count (w:Int)
 |[],c,st,st',hl,h=>by
  simp only[runs,Option.some.injEq]at h;subst h;exact⟨by simp,hl,by simp⟩
 |l::p,c,st,st',hl,h=>by
  rw[runs,Option.bind_eq_some_iff]at h;obtain⟨s1,h1,h2⟩:=h;obtain⟨a1,a2,a3⟩:=run1_some hl h1;obtain⟨b1,b2,b3⟩:=runs_some a2 h2;refine⟨fun d l' hd x hx=> ?_,b2,fun w hw=> ?_⟩
  ·cases d with
   |zero=>simp only[List.getElem?_cons_zero,Option.some.injEq]at hd;subst hd;exact a1 x hx
   |succ d=>
    rw[List.getElem?_cons_succ]at hd;have:=b1 d l' hd x hx;rwa[show c+1+d=c+(d+1) by omega]at this
  ·rw[b3 w hw,a3 w hw,List.flatten_cons,List.count_append];omega
theorem runs_ok{ms:List Nat}:∀{p:List (List Int)} {c:Nat} {st:List Bool},st.length=ms.length→(∀(d:Nat) l,p[d]?=some l→∀x∈l,okx ms (c+d) x=true)→(∀w,w<ms.length→nb st w+p.flatten.count (w:Int)≤1)→∃st',runs ms c st p=some st'
 |[],_,st,_,_,_=>⟨st,rfl⟩
 |l::p,c,st,hl,hk,hc=>by
  obtain⟨s1,h1⟩:=run1_ok (c:=c) hl (hk 0 l rfl) (fun w hw=>by have:=hc w hw;rw[List.flatten_cons,List.count_append]at this;omega);obtain⟨_,a2,a3⟩:=run1_some hl h1;rw[runs,h1];refine runs_ok a2 (fun d l' hd x hx=> ?_) (fun w hw=> ?_)
  ·have:=hk (d+1) l' hd x hx;rwa[show c+(d+1)=c+1+d by omega]at this
  ·have:=hc w hw;rw[List.flatten_cons,List.count_append]at this;rw[a3 w hw];omega
theorem feas_iff{ms:List Nat}{p:List (List Int)}:feas ms p=true↔Fz ms p:=by
 unfold feas;constructor
 ·intro h;cases e:runs ms 0 (List.replicate ms.length false) p with
  |none=>rw[e]at h;simp at h
  |some st=>
   rw[e]at h;simp only[Option.map_some,Option.getD_some]at h;obtain⟨h1,h2,h3⟩:=runs_some (by simp) e;refine⟨fun c l hl x hx=>by have:=h1 c l hl x hx;rwa[Nat.zero_add]at this,fun w hw=> ?_⟩;have h4:=h3 w hw;rw[nb_rep,Nat.zero_add]at h4;rw[←h4];refine nb_true ?_;rw[List.getElem?_eq_getElem (by omega)];have:=List.all_eq_true.1 h (st[w]'(by omega)) (List.getElem_mem _);rw[id_eq]at this;rw[this]
 ·intro h;obtain⟨st,e⟩:=runs_ok (ms:=ms) (c:=0) (st:=List.replicate ms.length false) (by simp) (fun d l hd x hx=>by rw[Nat.zero_add];exact h.ok d l hd x hx) (fun w hw=>by rw[nb_rep,h.once w hw];omega);obtain⟨_,h2,h3⟩:=runs_some (ms:=ms) (by simp) e;rw[e];simp only[Option.map_some,Option.getD_some];refine List.all_eq_true.2 fun b hb=> ?_;obtain⟨i,hi,rfl⟩:=List.getElem_of_mem hb;have:=h3 i (by omega);rw[nb_rep,h.once i (by omega)]at this;unfold nb at this;split at this
  ·rename_i hq;rw[List.getElem?_eq_getElem hi]at hq;simpa using hq
  ·omega
def meTo(ms:List Nat)(st:List Bool)(c k:Nat):Bool:=(List.range k).all fun w=> !(st[w]?==some false&&(ms[w]?.getD 0)/2^(c+1)==0)
theorem meTo_iff{ms:List Nat}{st:List Bool}{c k:Nat}:meTo ms st c k=true↔∀w,w<k→st[w]?=some false→(ms[w]?.getD 0)/2^(c+1)≠0:=by
 unfold meTo;rw[List.all_eq_true];constructor
 ·intro h w hw hs e;have:=h w (List.mem_range.2 hw);simp[hs]at this;simp at e;omega
 ·intro h w hw;have:=h w (List.mem_range.1 hw);by_cases hs:st[w]?=some false
  ·have:=this hs;simp[hs];simp at this;omega
  ·simp[hs]
def add(ls:List (List Int))(c:Nat)(x:Int):List (List Int):=ls.set c (ls[c]?.getD []++[x])
def lf(st:List Bool):Nat:=st.count false
theorem lf_set:∀{st:List Bool} {w:Nat},st[w]?=some false→lf (st.set w true)+1=lf st
 |[],_,h=>by simp at h
 |b::st,0,h=>by simp at h;subst h;simp[lf]
 |b::st,w+1,h=>by
  have:=lf_set (st:=st) (w:=w) (by simpa using h);unfold lf at this⊢;rw[List.set_cons_succ,List.count_cons,List.count_cons];omega
structure Iv(n:Nat)(ms:List Nat)(c:Nat)(st:List Bool)(ls:List (List Int)):Prop where
 ll:ls.length=n
 sl:st.length=ms.length
 cl:c≤n
 ok:∀(d:Nat) l,ls[d]?=some l→∀x∈l,okx ms d x=true
 cn:∀w,w<ms.length→ls.flatten.count (w:Int)=nb st w
 em:∀d,c<d→ls[d]?.getD []=[]
 en:c=n→∀b∈st,b=true
theorem count_add:∀{ls:List (List Int)} {c:Nat} {x y:Int},c<ls.length→(add ls c x).flatten.count y=ls.flatten.count y+if x=y then 1 else 0
 |[],_,_,_,h=>by simp at h
 |l::ls,0,x,y,_=>by
  simp only[add,List.getElem?_cons_zero,Option.getD_some,List.set_cons_zero,List.flatten_cons,List.count_append,List.count_singleton];by_cases e:x=y
  ·subst e;simp;omega
  ·simp[e,beq_eq_false_iff_ne.2 e]
 |l::ls,c+1,x,y,h=>by
  have:=count_add (ls:=ls) (c:=c) (x:=x) (y:=y) (by simpa using h);simp only[add,List.getElem?_cons_succ,List.set_cons_succ,List.flatten_cons,List.count_append]at this⊢;omega
section
variable {n:Nat} {ms:List Nat} {c:Nat} {st:List Bool} {ls:List (List Int)}
theorem Iv.take(h:Iv n ms c st ls)(hc:c≠n){w:Nat}(hs:st[w]?=some false)(hb:bt (ms[w]?.getD 0) c=true):Iv n ms c (st.set w true) (add ls c w):=by
 have hw:w<st.length:=(List.getElem?_eq_some_iff.1 hs).1;have hcl:c<ls.length:=by have:=h.cl;have:=h.ll;omega
 refine⟨by unfold add;rw[List.length_set];exact h.ll,by rw[List.length_set];exact h.sl,h.cl,fun d l hd x hx=> ?_,fun v hv=> ?_,fun d hd=> ?_,fun e=>absurd e hc⟩
 ·unfold add at hd;by_cases e:c=d
  ·subst e;rw[List.getElem?_set_self hcl]at hd;simp only[Option.some.injEq]at hd;subst hd;rcases List.mem_append.1 hx with hx|hx
   ·rw[List.getElem?_eq_getElem hcl]at hx;exact h.ok c _ (List.getElem?_eq_getElem hcl) x hx
   ·simp at hx;subst hx;rw[okx_iff];have:=h.sl;exact⟨by omega,by omega,by simpa using hb⟩
  ·rw[List.getElem?_set_ne e]at hd;exact h.ok d l hd x hx
 ·rw[count_add hcl,h.cn v hv,nb_set hw hs]
  congr 1
  by_cases e:v=w
  ·subst e;simp
  ·rw[if_neg e,if_neg (by omega)]
 ·unfold add;rw[List.getElem?_set_ne (by omega)];exact h.em d hd
theorem Iv.done(h:Iv n ms c st ls)(hc:c≠n)(hm:∀m∈ms,m<2^n)(he:meTo ms st c ms.length=true):Iv n ms (c+1) st ls:=by
 refine⟨h.ll,h.sl,by have:=h.cl;omega,h.ok,h.cn,fun d hd=>h.em d (by omega),fun e b hb=> ?_⟩;obtain⟨i,hi,rfl⟩:=List.getElem_of_mem hb;cases hq:st[i]
 ·exfalso;have hsl:=h.sl;have:=meTo_iff.1 he i (by omega) (by rw[List.getElem?_eq_getElem hi,hq]);rw[e,List.getElem?_eq_getElem (by omega),Option.getD_some]at this;exact this (Nat.div_eq_of_lt (hm _ (List.getElem_mem _)))
 ·rfl
theorem Iv.zero(n:Nat)(hn:0<n)(ms:List Nat):Iv n ms 0 (List.replicate ms.length false) (List.replicate n []):=by
 refine⟨by simp,by simp,by omega,fun d l hd x hx=> ?_,fun w hw=> ?_,fun d _=> ?_,fun e=>by omega⟩
 ·rw[List.getElem?_replicate]at hd;split at hd
  ·simp at hd;subst hd;simp at hx
  ·cases hd
 ·rw[nb_rep];simp
 ·rw[List.getElem?_replicate];split<;>rfl
end
def tt(c:Nat):Nat→Nat:=fun i=>if c≤i then 1 else 0
def wr(m:Nat)(p:List (List Int)):List Int:=p.flatMap fun l=>l++[(m:Int)]
def pf(m c:Nat)(ls:List (List Int)):List Int:=wr m (ls.take c)++ls[c]?.getD []
end PM
structure Kp(F:Nat→Prop)(w w':World):Prop where
 os:w'.os=w.os
 tape:w'.tape=w.tape
 output:w'.output=w.output
 size:w.heap.size≤w'.heap.size
 block:∀k,k<w.heap.size→¬F k→w'.heap[k]?=w.heap[k]?
section
variable {F G:Nat→Prop} {w w' w'':World}
theorem Kp.refl(F:Nat→Prop)(w:World):Kp F w w:=⟨rfl,rfl,rfl,Nat.le_refl _,fun _ _ _=>rfl⟩
theorem Kp.trans(h:Kp F w w')(k:Kp G w' w'')(hg:∀i,i<w.heap.size→G i→F i):Kp F w w'':=
 ⟨k.os.trans h.os,k.tape.trans h.tape,k.output.trans h.output,Nat.le_trans h.size k.size,fun i hi hf=>(k.block i (Nat.lt_of_lt_of_le hi h.size) (fun hG=>hf (hg i hi hG))).trans (h.block i hi hf)⟩
theorem Kp.mono(h:Kp F w w')(hg:∀i,i<w.heap.size→F i→G i):Kp G w w':=⟨h.os,h.tape,h.output,h.size,fun i hi hf=>h.block i hi (fun hF=>hf (hg i hi hF))⟩
theorem Kp.ofBelow(F:Nat→Prop)(h:Below w.heap.size w w'):Kp F w w':=⟨h.os,h.tape,h.output,h.size,fun i hi _=>h.block i hi⟩
theorem Kp.toBelow{B:Nat}(h:Kp F w w')(hB:B≤w.heap.size)(hF:∀i,i<B→¬F i):Below B w w':=⟨h.os,h.tape,h.output,h.size,fun i hi=>h.block i (by omega) (hF i hi)⟩
theorem Kp.below{B:Nat}{a:World}(h:Kp F w w')(hb:Below B a w)(hB:B≤w.heap.size)(hF:∀i,i<B→¬F i):Below B a w':=hb.trans (h.toBelow hB hF)
theorem Kp.thenBelow(h:Kp F w w')(k:Below w'.heap.size w' w''):Kp F w w'':=h.trans (Kp.ofBelow F k) (fun _ _ h=>h)
theorem Kp.alloc(h:Kp F w w')(o:Obj):Kp F w (w'.alloc o):=h.trans (Kp.ofBelow F ((Below.refl _ _).alloc (Nat.le_refl _) o)) (fun _ _ h=>h)
theorem Kp.drew(h:Kp F w w'):Kp F w w'.drew:=h.trans (Kp.ofBelow F (Below.refl _ _).drew) (fun _ _ h=>h)
theorem Kp.set(h:Kp F w w')(b i:Nat)(u:Value)(hF:b<w.heap.size→F b):Kp F w (w'.setCell ⟨b,i,none⟩ u):=
 h.trans (G:=fun k=>k=b) ⟨rfl,rfl,rfl,by simp[World.setCell],fun k _ hk=>Below.heap_setCell _ _ _ _ hk⟩ (fun k hk e=>by subst e;exact hF hk)
theorem Kp.put(h:Kp F w w')(b:Nat)(o:Obj)(hF:b<w.heap.size→F b):Kp F w (w'.putObj b o):=
 h.trans (G:=fun k=>k=b) ⟨rfl,rfl,rfl,by simp,fun k _ hk=>World.putObj_heap_other hk⟩ (fun k hk e=>by subst e;exact hF hk)
theorem Kp.grown{row:Option Nat}(h:Kp F w w')(hg:w'.grownBy w'' row)(hF:∀k,k<w.heap.size→row=some k→F k):Kp F w w'':=
 h.trans (G:=fun k=>row=some k) ⟨hg.os,hg.tape,hg.output,hg.size,fun k hk hne=>hg.block k hk (fun e=>hne e.symm)⟩ (fun k hk e=>hF k hk e)
end
def R2(D:Nat→Prop)(W:World)(v:Value)(l:List (Int×Int)):Prop:=
 ∃a cap,v=.slice a l.length cap∧l.length≤cap∧(a=none→cap=0)∧(l=[]∨∃g o,a=some ⟨g,o,none⟩∧D g∧g<W.heap.size∧∀(i:Nat) y,l[i]?=some y→W.cell? ⟨g,o+i*2,none⟩=some (.int .i64 y.1)∧W.cell? ⟨g,o+i*2+1,none⟩=some (.int .i64 y.2))
def RI(D:Nat→Prop)(W:World)(v:Value)(l:List Int):Prop:=
 ∃a cap,v=.slice a l.length cap∧l.length≤cap∧(a=none→cap=0)∧(l=[]∨∃g o,a=some ⟨g,o,none⟩∧D g∧g<W.heap.size∧∀(i:Nat) x,l[i]?=some x→W.cell? ⟨g,o+i,none⟩=some (.int .i64 x))
def RL(D:Nat→Prop)(W:World)(v:Value)(p:List (List Int)):Prop:=
 ∃a cap,v=.slice a p.length cap∧p.length≤cap∧(a=none→cap=0)∧(p=[]∨∃g o,a=some ⟨g,o,none⟩∧D g∧g<W.heap.size∧∀(i:Nat) l,p[i]?=some l→∃u,W.cell? ⟨g,o+i,none⟩=some u∧RI D W u l)
section
variable {D D':Nat→Prop} {W W':World} {v:Value}
theorem R2.keep{l:List (Int×Int)}(h:R2 D W v l)(hs:W.heap.size≤W'.heap.size)(hk:∀g,D g→g<W.heap.size→W'.heap[g]?=W.heap[g]?):R2 D W' v l:=by
 obtain⟨a,cap,rfl,hc,hn,h⟩:=h;refine⟨a,cap,rfl,hc,hn,?_⟩;rcases h with h|⟨g,o,rfl,hd,hlt,h⟩
 ·exact .inl h
 ·exact .inr ⟨g,o,rfl,hd,Nat.lt_of_lt_of_le hlt hs,fun i y hy=>⟨(World.cell?_of_block (a:=⟨g,o+i*2,none⟩) (hk g hd hlt)).trans (h i y hy).1,(World.cell?_of_block (a:=⟨g,o+i*2+1,none⟩) (hk g hd hlt)).trans (h i y hy).2⟩⟩
theorem RI.keep{l:List Int}(h:RI D W v l)(hs:W.heap.size≤W'.heap.size)(hk:∀g,D g→g<W.heap.size→W'.heap[g]?=W.heap[g]?):RI D W' v l:=by
 obtain⟨a,cap,rfl,hc,hn,h⟩:=h;refine⟨a,cap,rfl,hc,hn,?_⟩;rcases h with h|⟨g,o,rfl,hd,hlt,h⟩
 ·exact .inl h
 ·exact .inr ⟨g,o,rfl,hd,Nat.lt_of_lt_of_le hlt hs,fun i y hy=>(World.cell?_of_block (a:=⟨g,o+i,none⟩) (hk g hd hlt)).trans (h i y hy)⟩
theorem RL.keep{p:List (List Int)}(h:RL D W v p)(hs:W.heap.size≤W'.heap.size)(hk:∀g,D g→g<W.heap.size→W'.heap[g]?=W.heap[g]?):RL D W' v p:=by
 obtain⟨a,cap,rfl,hc,hn,h⟩:=h;refine⟨a,cap,rfl,hc,hn,?_⟩;rcases h with h|⟨g,o,rfl,hd,hlt,h⟩
 ·exact .inl h
 ·refine .inr ⟨g,o,rfl,hd,Nat.lt_of_lt_of_le hlt hs,fun i l hl=> ?_⟩;obtain⟨u,h1,h2⟩:=h i l hl;exact⟨u,(World.cell?_of_block (a:=⟨g,o+i,none⟩) (hk g hd hlt)).trans h1,h2.keep hs hk⟩
theorem R2.mono{l:List (Int×Int)}(h:R2 D W v l)(hD:∀g,D g→g<W.heap.size→(∃o:Obj,W.heap[g]?=some o∧o.isCells=true)→D' g):R2 D' W v l:=by
 obtain⟨a,cap,rfl,hc,hn,h⟩:=h;refine⟨a,cap,rfl,hc,hn,?_⟩;rcases h with h|⟨g,o,rfl,hd,hlt,h⟩
 ·exact .inl h
 ·cases l with
  |nil=>exact .inl rfl
  |cons y l=>exact .inr ⟨g,o,rfl,hD g hd hlt (cells_of_cell (h 0 y rfl).1),hlt,h⟩
theorem RI.mono{l:List Int}(h:RI D W v l)(hD:∀g,D g→g<W.heap.size→(∃o:Obj,W.heap[g]?=some o∧o.isCells=true)→D' g):RI D' W v l:=by
 obtain⟨a,cap,rfl,hc,hn,h⟩:=h;refine⟨a,cap,rfl,hc,hn,?_⟩;rcases h with h|⟨g,o,rfl,hd,hlt,h⟩
 ·exact .inl h
 ·cases l with
  |nil=>exact .inl rfl
  |cons y l=>exact .inr ⟨g,o,rfl,hD g hd hlt (cells_of_cell (h 0 y rfl)),hlt,h⟩
theorem RL.mono{p:List (List Int)}(h:RL D W v p)(hD:∀g,D g→g<W.heap.size→(∃o:Obj,W.heap[g]?=some o∧o.isCells=true)→D' g):RL D' W v p:=by
 obtain⟨a,cap,rfl,hc,hn,h⟩:=h;refine⟨a,cap,rfl,hc,hn,?_⟩;rcases h with h|⟨g,o,rfl,hd,hlt,h⟩
 ·exact .inl h
 ·cases p with
  |nil=>exact .inl rfl
  |cons y l=>
   obtain⟨u,h1,_⟩:=h 0 y rfl;refine .inr ⟨g,o,rfl,hD g hd hlt (cells_of_cell h1),hlt,fun i l hl=> ?_⟩;obtain⟨u,h1,h2⟩:=h i l hl;exact⟨u,h1,h2.mono hD⟩
theorem R2.below'{l:List (Int×Int)}(h:R2 D W v l)(hb:Below W.heap.size W W'):R2 D W' v l:=h.keep hb.size fun g _ hlt=>hb.block g hlt
theorem RI.below'{l:List Int}(h:RI D W v l)(hb:Below W.heap.size W W'):RI D W' v l:=h.keep hb.size fun g _ hlt=>hb.block g hlt
theorem RL.below'{p:List (List Int)}(h:RL D W v p)(hb:Below W.heap.size W W'):RL D W' v p:=h.keep hb.size fun g _ hlt=>hb.block g hlt
theorem R2.alloc{l:List (Int×Int)}(h:R2 D W v l)(o:Obj):R2 D (W.alloc o) v l:=h.below' ((Below.refl _ _).alloc (Nat.le_refl _) o)
theorem RI.alloc{l:List Int}(h:RI D W v l)(o:Obj):RI D (W.alloc o) v l:=h.below' ((Below.refl _ _).alloc (Nat.le_refl _) o)
theorem RL.alloc{p:List (List Int)}(h:RL D W v p)(o:Obj):RL D (W.alloc o) v p:=h.below' ((Below.refl _ _).alloc (Nat.le_refl _) o)
theorem R2.form{l:List (Int×Int)}(h:R2 D W v l):∃a cap,v=.slice a l.length cap∧l.length≤cap∧(a=none→cap=0):=by
 obtain⟨a,cap,h1,h2,h3,_⟩:=h;exact⟨a,cap,h1,h2,h3⟩
theorem RI.form{l:List Int}(h:RI D W v l):∃a cap,v=.slice a l.length cap∧l.length≤cap∧(a=none→cap=0):=by
 obtain⟨a,cap,h1,h2,h3,_⟩:=h;exact⟨a,cap,h1,h2,h3⟩
theorem RL.form{p:List (List Int)}(h:RL D W v p):∃a cap,v=.slice a p.length cap∧p.length≤cap∧(a=none→cap=0):=by
 obtain⟨a,cap,h1,h2,h3,_⟩:=h;exact⟨a,cap,h1,h2,h3⟩
theorem R2.at{l:List (Int×Int)}{a:Option Addr}{n cap:Nat}(h:R2 D W (.slice a n cap) l){i:Nat}{y:Int×Int}(hi:l[i]?=some y):∃g o,a=some ⟨g,o,none⟩∧W.cell? ⟨g,o+i*2,none⟩=some (.int .i64 y.1)∧W.cell? ⟨g,o+i*2+1,none⟩=some (.int .i64 y.2):=by
 obtain⟨a',cap',e,_,_,h⟩:=h;cases e;rcases h with h|⟨g,o,rfl,_,_,h⟩
 ·rw[h]at hi;simp at hi
 ·exact⟨g,o,rfl,h i y hi⟩
theorem RI.at{l:List Int}{a:Option Addr}{n cap:Nat}(h:RI D W (.slice a n cap) l){i:Nat}{y:Int}(hi:l[i]?=some y):∃g o,a=some ⟨g,o,none⟩∧W.cell? ⟨g,o+i,none⟩=some (.int .i64 y):=by
 obtain⟨a',cap',e,_,_,h⟩:=h;cases e;rcases h with h|⟨g,o,rfl,_,_,h⟩
 ·rw[h]at hi;simp at hi
 ·exact⟨g,o,rfl,h i y hi⟩
theorem RL.at{p:List (List Int)}{a:Option Addr}{n cap:Nat}(h:RL D W (.slice a n cap) p){i:Nat}{l:List Int}(hi:p[i]?=some l):∃g o,a=some ⟨g,o,none⟩∧∃u,W.cell? ⟨g,o+i,none⟩=some u∧RI D W u l:=by
 obtain⟨a',cap',e,_,_,h⟩:=h;cases e;rcases h with h|⟨g,o,rfl,_,_,h⟩
 ·rw[h]at hi;simp at hi
 ·exact⟨g,o,rfl,h i l hi⟩
theorem R2.len{l:List (Int×Int)}{a:Option Addr}{n cap:Nat}(h:R2 D W (.slice a n cap) l):n=l.length:=by
 obtain⟨a',cap',e,_⟩:=h;cases e;rfl
theorem RI.len{l:List Int}{a:Option Addr}{n cap:Nat}(h:RI D W (.slice a n cap) l):n=l.length:=by
 obtain⟨a',cap',e,_⟩:=h;cases e;rfl
theorem RL.len{p:List (List Int)}{a:Option Addr}{n cap:Nat}(h:RL D W (.slice a n cap) p):n=p.length:=by
 obtain⟨a',cap',e,_⟩:=h;cases e;rfl
theorem RI.nil(D:Nat→Prop)(W:World):RI D W (.slice none 0 0) []:=⟨none,0,rfl,Nat.le_refl _,fun _=>rfl,.inl rfl⟩
theorem RL.nil(D:Nat→Prop)(W:World):RL D W (.slice none 0 0) []:=⟨none,0,rfl,Nat.le_refl _,fun _=>rfl,.inl rfl⟩
theorem RI.cells{l:List Int}{g o n cap:Nat}(h:RI D W (.slice (some ⟨g,o,none⟩) n cap) l):∀(i:Nat) x,l[i]?=some x→W.cell? ⟨g,o+i,none⟩=some (.int .i64 x):=fun i x hi=>by
 obtain⟨g',o',e,h⟩:=h.at hi;cases e;exact h
end
theorem ixI(W:World){a:Option Addr}{g o n cap j:Nat}(ha:a=some ⟨g,o,none⟩)(hj:j<n):(Instr.indexAt 52 (.slice a n cap) (.int .i64 (j:Int))).run Tryz.prog W=.ok (.pointer (some ⟨g,o+j,none⟩)) W:=by
 subst ha;rw[run_indexAt_slice W 52 _ n cap .i64 j (by kernel_rfl),if_pos ⟨by omega,by omega⟩,show Tryz.prog.elem 52=3 by kernel_rfl,Tryz.sizeOf3];simp only[Result.andThen_ok,Int.toNat_natCast,Addr.add_mid,Nat.mul_one]
theorem ixP(W:World){a:Option Addr}{g o n cap j:Nat}(ha:a=some ⟨g,o,none⟩)(hj:j<n):(Instr.indexAt 150 (.slice a n cap) (.int .i64 (j:Int))).run Tryz.prog W=.ok (.pointer (some ⟨g,o+j,none⟩)) W:=by
 subst ha;rw[run_indexAt_slice W 150 _ n cap .i64 j (by kernel_rfl),if_pos ⟨by omega,by omega⟩,show Tryz.prog.elem 150=52 by kernel_rfl,Tryz.sizeOf52];simp only[Result.andThen_ok,Int.toNat_natCast,Addr.add_mid,Nat.mul_one]
theorem ixW(W:World){a:Option Addr}{g o n cap j:Nat}(ha:a=some ⟨g,o,none⟩)(hj:j<n):(Instr.indexAt 144 (.slice a n cap) (.int .i64 (j:Int))).run Tryz.prog W=.ok (.pointer (some ⟨g,o+j*2,none⟩)) W:=by
 subst ha;rw[run_indexAt_slice W 144 _ n cap .i64 j (by kernel_rfl),if_pos ⟨by omega,by omega⟩,show Tryz.prog.elem 144=182 by kernel_rfl,Tryz.sizeOf182];simp only[Result.andThen_ok,Int.toNat_natCast,Addr.add_mid]
theorem ixR(W:World){a:Option Addr}{g o n cap j:Nat}(ha:a=some ⟨g,o,none⟩)(hj:j<n):(Instr.indexAt 143 (.slice a n cap) (.int .i64 (j:Int))).run Tryz.prog W=.ok (.pointer (some ⟨g,o+j*2,none⟩)) W:=by
 subst ha;rw[run_indexAt_slice W 143 _ n cap .i64 j (by kernel_rfl),if_pos ⟨by omega,by omega⟩,show Tryz.prog.elem 143=178 by kernel_rfl,Tryz.sizeOf178];simp only[Result.andThen_ok,Int.toNat_natCast,Addr.add_mid]
def ic(l:List Int):List Value:=l.map fun (n:Int)=>Value.int .i64 n
theorem ic_length(l:List Int):(ic l).length=l.length:=by unfold ic;rw[List.length_map]
theorem ic_append(l m:List Int):ic (l++m)=ic l++ic m:=by unfold ic;rw[List.map_append]
theorem ic_some{l:List Int}{i:Nat}{x:Int}(h:l[i]?=some x):(ic l)[i]?=some (.int .i64 x):=by
 unfold ic;rw[List.getElem?_map,h];rfl
theorem ic_one(l:List Int):∀u∈ic l,u.oneCell'=true:=by
 intro u hu;obtain⟨n,_,rfl⟩:=List.mem_map.1 hu
 rfl
def OI(W:World)(B:Nat)(v:Value)(l:List Int):Prop:=W.ownsRow B 3 1 v l.length (ic l)
section
variable {W W':World} {B:Nat} {v:Value} {l:List Int}
theorem OI.nil(W:World)(B:Nat):OI W B (.slice none 0 0) []:=World.ownsRow_nil W B _ 1
theorem OI.form(h:OI W B v l):(v=.slice none 0 0∧l=[])∨∃g cap,v=.slice (some ⟨g,0,none⟩) l.length cap∧B≤g∧g<W.heap.size∧l.length≤cap∧cap≤maxLen:=by
 rcases h.2 with⟨h1,h2⟩|⟨g,cap,cur,hv,hb,hg,hc,hm,_⟩
 ·exact .inl ⟨h1,List.length_eq_zero_iff.1 h2⟩
 ·exact .inr ⟨g,cap,hv,hb,(Array.getElem?_eq_some_iff.1 hg).1,hc,hm⟩
theorem OI.slice(h:OI W B v l):∃a c,v=.slice a l.length c:=by
 rcases h.form with⟨rfl,rfl⟩|⟨g,cap,rfl,_⟩
 ·exact⟨none,0,rfl⟩
 ·exact⟨_,cap,rfl⟩
theorem OI.lt(h:OI W B v l):∀g,v.ownBlock=some g→B≤g∧g<W.heap.size:=World.ownsRow.lt h
theorem OI.keep(h:OI W B v l)(hk:∀g,v.ownBlock=some g→W'.heap[g]?=W.heap[g]?):OI W' B v l:=by
 refine⟨h.1,?_⟩;rcases h.2 with h2|⟨g,cap,cur,hv,hb,hg,r⟩
 ·exact .inl h2
 ·exact .inr ⟨g,cap,cur,hv,hb,(hk g (by rw[hv];rfl)).trans hg,r⟩
theorem OI.below'(h:OI W B v l)(hb:Below W.heap.size W W'):OI W' B v l:=h.keep fun g hg=>hb.block g (h.lt g hg).2
theorem OI.alloc(h:OI W B v l)(o:Obj):OI (W.alloc o) B v l:=h.below' ((Below.refl _ _).alloc (Nat.le_refl _) o)
theorem OI.mono{B':Nat}(h:OI W B v l)(hB:B'≤B):OI W B' v l:=by
 refine⟨h.1,?_⟩;rcases h.2 with h2|⟨g,cap,cur,hv,hb,r⟩
 ·exact .inl h2
 ·exact .inr ⟨g,cap,cur,hv,Nat.le_trans hB hb,r⟩
theorem OI.cell{g cap n:Nat}(h:OI W B (.slice (some ⟨g,0,none⟩) n cap) l){i:Nat}{x:Int}(hi:l[i]?=some x):W.cell? ⟨g,i,none⟩=some (.int .i64 x):=by
 have:=World.ownsRow.cells h (g:=g) rfl i _ (ic_some hi);rwa[Addr.add_mid,Nat.zero_add]at this
theorem OI.ri{D:Nat→Prop}(h:OI W B v l)(hD:∀g,v.ownBlock=some g→D g):RI D W v l:=by
 rcases h.form with⟨rfl,rfl⟩|⟨g,cap,rfl,_,hlt,hc,hm⟩
 ·exact RI.nil _ _
 ·exact⟨_,cap,rfl,hc,(fun e=>by cases e),.inr ⟨g,0,rfl,hD g rfl,hlt,fun i x hx=>by rw[Nat.zero_add];exact h.cell hx⟩⟩
theorem OI.len{a:Option Addr}{n cap:Nat}(h:OI W B (.slice a n cap) l):n=l.length:=by
 rcases h.form with⟨h1,h2⟩|⟨g,c,h1,_⟩
 ·cases h1;rw[h2];rfl
 ·cases h1;rfl
theorem OI.fr{g cap n:Nat}(h:OI W B (.slice (some ⟨g,0,none⟩) n cap) l)(j:Nat):W.frozen? ⟨g,j,none⟩=false:=by
 have hn:=h.len;subst hn;exact World.ownsRow.frozenAt h j
theorem ic_set(l:List Int)(i:Nat)(x:Int):(ic l).set i (.int .i64 x)=ic (l.set i x):=by unfold ic;rw[List.map_set]
theorem OI.put{g cap n:Nat}(h:OI W B (.slice (some ⟨g,0,none⟩) n cap) l)(i:Nat)(x:Int):OI (W.setCell ⟨g,i,none⟩ (.int .i64 x)) B (.slice (some ⟨g,0,none⟩) n cap) (l.set i x):=by
 have hn:=h.len;subst hn;have:=(World.ownsRow.stored h i (.int .i64 x)).1;rw[ic_set]at this;unfold OI;rw[List.length_set];exact this
theorem OI.lit(W:World)(l:List Int)(hB:B≤W.heap.size)(hm:l.length≤maxLen):OI (W.alloc (.cells (ic l).toArray 3)) B (.slice (some ⟨W.heap.size,0,none⟩) l.length l.length) l:=by
 have:=World.ownsRow_lit (e:=3) (size:=1) W (ic l).toArray l.length hB hm (by simp[ic_length]);simpa[OI]using this
theorem OI.drop{g cap n k:Nat}{x:Int}(h:OI W B (.slice (some ⟨g,0,none⟩) n cap) (l++[x]))(hk:k=l.length):OI W B (.slice (some ⟨g,0,none⟩) k cap) l:=by
 subst hk;obtain⟨h1,h2⟩:=h;refine⟨by rw[ic_length,Nat.mul_one],?_⟩;rcases h2 with⟨h2,_⟩|⟨g',cap',cur,hv,hb,hg,hc,hm,hs,ht⟩
 ·cases h2
 ·cases hv;rw[List.length_append]at hc ht;simp only[List.length_cons,List.length_nil]at hc ht;refine .inr ⟨g,cap,cur,rfl,hb,hg,by omega,hm,hs,?_⟩;rw[ic_append]at ht;have h3:=congrArg (List.take l.length) ht;rw[List.take_take,List.take_left' (by rw[ic_length])]at h3;rw[Nat.mul_one];rwa[show min l.length ((l.length+(0+1))*1)=l.length by omega]at h3
end
theorem infoI:(Tryz.prog.info? 3).map (fun i=>(i.zero,i.size,i.bytes))=some (some (.int .i64 0),1,8):=by kernel_rfl
section
variable {P:Program} {ops:Array Oper} {md:Region.Mode} {W0:World}
def Calm(P:Program)(ops:Array Oper)(W0:World)(o:Oper)(v:Value)(a:Act):Prop:=
 (Region.wanted o (yielded ops a.tmps)=true∧∀w,Below W0.heap.size W0 w→o.quietAt P a (fun w2=>Below w.heap.size w w2) w v)∨
 (Region.wanted o (yielded ops a.tmps)=false∧v=undef)
theorem Calm.same{o:Oper}{v:Value}{a a':Act}(h:Calm P ops W0 o v a)(he:execOp a'.eval o=execOp a.eval o)(hw:Region.wanted o (yielded ops a'.tmps)=Region.wanted o (yielded ops a.tmps)):Calm P ops W0 o v a':=by
 unfold Calm Oper.quietAt at*;rw[he,hw];exact h
def Oper.calm(P:Program)(W0:World)(o:Oper)(a:Act)(K:Act→Prop):Prop:=
 ∃v,(∀w,Below W0.heap.size W0 w→o.quietAt P a (fun w2=>Below w.heap.size w w2) w v)∧K (a.put o.dst v)
def wpCalm(P:Program)(ops:Array Oper)(W0:World)(Q:Act→Prop):List Oper→Act→Prop
 |[],a=>Q a
 |o::rest,a=>if Region.wanted o (yielded ops a.tmps)then Oper.calm P W0 o a (wpCalm P ops W0 Q rest)else wpCalm P ops W0 Q rest (a.put o.dst undef)
theorem wpCalm_nil{Q:Act→Prop}{a:Act}(h:Q a):wpCalm P ops W0 Q [] a:=h
theorem wpCalm_mono{Q Q':Act→Prop}(hQ:∀a,Q a→Q' a):∀(l:List Oper) (a:Act),wpCalm P ops W0 Q l a→wpCalm P ops W0 Q' l a
 |[],a,h=>hQ a h
 |o::l,a,h=>by
  unfold wpCalm at*;split
  ·rename_i hw;rw[if_pos hw]at h;obtain⟨v,h1,h2⟩:=h;exact⟨v,h1,wpCalm_mono hQ l _ h2⟩
  ·rename_i hw;rw[if_neg hw]at h;exact wpCalm_mono hQ l _ h
theorem wpCalm_cons{Q:Act→Prop}{a:Act}{o:Oper}{rest:List Oper}(h:wpCalm P ops W0 Q (o::rest) a):∃v,Calm P ops W0 o v a∧wpCalm P ops W0 Q rest (a.put o.dst v):=by
 unfold wpCalm at h;by_cases hw:Region.wanted o (yielded ops a.tmps)=true
 ·rw[if_pos hw]at h;obtain⟨v,h1,h2⟩:=h;exact⟨v,.inl ⟨hw,h1⟩,h2⟩
 ·rw[if_neg hw]at h;exact⟨undef,.inr ⟨by simpa using hw,rfl⟩,h⟩
def rdy(md:Region.Mode)(ops:Array Oper)(n:Nat)(done:Nat→Bool)(i:Nat):Prop:=
 i<n∧done i=false∧∃o,ops[i]?=some o∧∀e∈o.after,Region.binds md e=true→done e.on=true
def more(done:Nat→Bool)(i:Nat):Nat→Bool:=fun j=>if j=i then true else done j
theorem more_ne{done:Nat→Bool}{i j:Nat}(h:j≠i):more done i j=done j:=if_neg h
theorem more_true{done:Nat→Bool}{i j:Nat}(h:done j=true):more done i j=true:=by unfold more;split<;>first|rfl|exact h
theorem more_comm(done:Nat→Bool)(i j:Nat):more (more done i) j=more (more done j) i:=by
 funext k;unfold more;split<;>split<;>rfl
theorem rdy_more{n:Nat}{done:Nat→Bool}{i j:Nat}(h:rdy md ops n done j)(hne:j≠i):rdy md ops n (more done i) j:=by
 obtain⟨h1,h2,o,ho,hall⟩:=h;exact⟨h1,by rw[more_ne hne];exact h2,o,ho,fun e he hb=>more_true (hall e he hb)⟩
def AnyF(P:Program)(md:Region.Mode)(ops:Array Oper)(W0:World)(n:Nat)(Q:Act→Prop):Nat→(Nat→Bool)→Act→Prop
 |0,done,a=>(∀i,i<n→done i=true)∧Q a
 |f+1,done,a=>(∃i,rdy md ops n done i)∧∀i o,ops[i]?=some o→rdy md ops n done i→∃v,Calm P ops W0 o v a∧AnyF P md ops W0 n Q f (more done i) (a.put o.dst v)
theorem anyF_first{n:Nat}{Q:Act→Prop}{i:Nat}{oi:Oper}{v:Value}(hi:ops[i]?=some oi)(hsel:∀(j:Nat) (o:Oper) cs b,ops[j]?=some o→o.op≠.select cs b):
  ∀(f:Nat) (done:Nat→Bool) (a:Act),
   (∀j oj,ops[j]?=some oj→j<n→j≠i→done j=false→(∀e∈oj.after,Region.binds md e=true→e.on≠i)→oi.apart ops oj=true)→
   rdy md ops n done i→Calm P ops W0 oi v a→AnyF P md ops W0 n Q f (more done i) (a.put oi.dst v)→AnyF P md ops W0 n Q (f+1) done a:=by
 intro f
 induction f with
 |zero=>
  intro done a _ hr hy H;refine⟨⟨i,hr⟩,fun j oj hj hrj=> ?_⟩;by_cases hji:j=i
  ·subst hji;obtain rfl:oi=oj:=Option.some.inj (hi.symm.trans hj);exact⟨v,hy,H⟩
  ·have h1:=H.1 j hrj.1;rw[more_ne hji,hrj.2.1]at h1;cases h1
 |succ f ih=>
  intro done a hfree hr hy H;refine⟨⟨i,hr⟩,fun j oj hj hrj=> ?_⟩;by_cases hji:j=i
  ·subst hji;obtain rfl:oi=oj:=Option.some.inj (hi.symm.trans hj);exact⟨v,hy,H⟩
  ·obtain⟨u,hu,hn⟩:=H.2 j oj hj (rdy_more hrj hji)
   have hno:∀e∈oj.after,Region.binds md e=true→e.on≠i:=fun e he hb heq=>by
    obtain⟨_,_,o',ho',hall⟩:=hrj;obtain rfl:o'=oj:=Option.some.inj (ho'.symm.trans hj);have h1:=hall e he hb;rw[heq,hr.2.1]at h1;cases h1
   obtain⟨h1,h2,h3⟩:=Oper.apart_spec (hfree j oj hj hrj.1 hji hrj.2.1 hno);have k1:Calm P ops W0 oj u a:=hu.same (execOp_put oj (fun cs b=>hsel j oj cs b hj) a oi.dst v h1).symm (wanted_put oj a oi.dst v h1).symm;have k2:Calm P ops W0 oi v (a.put oj.dst u):=hy.same (execOp_put oi (fun cs b=>hsel i oi cs b hi) a oj.dst u h3) (wanted_put oi a oj.dst u h3);refine⟨u,k1,ih (more done j) (a.put oj.dst u) (fun k ok hk hkn hki hun hno'=>hfree k ok hk hkn hki ?_ hno') (rdy_more hr (Ne.symm hji)) k2 ?_⟩
   ·by_cases hkj:k=j
    ·subst hkj;exact hrj.2.1
    ·rwa[more_ne hkj]at hun
   ·rw[more_comm,←Act.put_comm a v u h2];exact hn
def headB(md:Region.Mode)(ops:Array Oper)(n:Nat):Bool:=
 (List.range n).all fun i=>match ops[i]? with
  |none=>false
  |some oi=>(oi.after.all fun e=> !Region.binds md e||decide (e.on<i))&&(List.range n).all fun j=>decide (j≤i)||Region.waitsFor md ops j i||match ops[j]? with
   |none=>true
   |some oj=>oi.apart ops oj
theorem headB_on{n i:Nat}{oi:Oper}(h:headB md ops n=true)(hi:i<n)(ho:ops[i]?=some oi):∀e∈oi.after,Region.binds md e=true→e.on<i:=fun e he hb=>by
 have h1:=List.all_eq_true.1 h i (List.mem_range.2 hi);simp only[ho,Bool.and_eq_true]at h1;have h2:=Array.all_eq_true_iff_forall_mem.1 h1.1 e he;simpa[hb]using h2
theorem headB_apart{n i j:Nat}{oi oj:Oper}(h:headB md ops n=true)(hi:i<n)(ho:ops[i]?=some oi)(hj:j<n)(hoj:ops[j]?=some oj)(hij:i<j)
  (hno:∀e∈oj.after,Region.binds md e=true→e.on≠i):oi.apart ops oj=true:=by
 have h1:=List.all_eq_true.1 h i (List.mem_range.2 hi);simp only[ho,Bool.and_eq_true]at h1;have h2:=List.all_eq_true.1 h1.2 j (List.mem_range.2 hj);simp only[hoj,Bool.or_eq_true,decide_eq_true_eq]at h2;rcases h2 with (h2|h2)|h2
 ·omega
 ·obtain⟨o',ho',e,he,hb,hon⟩:=Region.waitsFor_spec h2;obtain rfl:o'=oj:=Option.some.inj (ho'.symm.trans hoj);exact absurd hon (hno e he hb)
 ·exact h2
theorem anyF_lex{n:Nat}{Q:Act→Prop}(hsel:Region.noSelect ops=true)(hB:headB md ops n=true):∀(l:List Oper) (k:Nat) (a:Act),(∀j,j<l.length→l[j]?=ops[k+j]?)→k+l.length=n→
  wpCalm P ops W0 Q l a→AnyF P md ops W0 n Q l.length (fun j=>decide (j<k)) a
 |[],k,a,_,hk,h=>⟨fun i hi=>decide_eq_true (by simp only[List.length_nil]at hk;omega),h⟩
 |o::l,k,a,hl,hk,h=>by
  have h0:ops[k]?=some o:=by simpa using (hl 0 (by simp)).symm
  have hkn:k<n:=by simp only[List.length_cons]at hk;omega
  obtain⟨v,hy,hK⟩:=wpCalm_cons h;have IH:=anyF_lex (Q:=Q) hsel hB l (k+1) (a.put o.dst v) (fun j hj=>by have:=hl (j+1) (by simp;omega);simpa[Nat.add_assoc,Nat.add_comm 1 j]using this) (by simp only[List.length_cons]at hk;omega) hK
  have e:(fun j=>decide (j<k+1))=more (fun j=>decide (j<k)) k:=by
   funext j
   unfold more;split
   ·rename_i hjk;subst hjk;simp
   ·by_cases hjk:j<k
    ·simp[hjk];omega
    ·simp[hjk];omega
  rw[e]at IH;refine anyF_first h0 (Region.noSelect_spec hsel) l.length _ a (fun j oj hj hjn hne hun hno=> ?_) ⟨hkn,by simp,o,h0,fun e he hb=>decide_eq_true (headB_on hB hkn h0 e he hb)⟩ hy IH;have:¬j<k:=of_decide_eq_false hun;exact headB_apart hB hkn h0 hjn hj (by omega) hno
def dstOf(ops:Array Oper)(j:Nat):Option Tmp:=(ops[j]?).bind (·.dst)
def ov(ops:Array Oper):List (Nat×Nat)→Act→Act
 |[],a=>a
 |p::σ,a=>(ov ops σ a).put (dstOf ops p.1) (.pointer (some ⟨p.2,0,none⟩))
structure IsNew(P:Program)(ops:Array Oper)(j:Nat)(o:Oper)(Z:Obj):Prop where
 here:ops[j]?=some o
 after:o.after= #[]
 wants:∀tmps,Region.wanted o (yielded ops tmps)=true
 runs:∀(a:Act) w,(execOp a.eval o).run P w=.ok (.value (.pointer (some ⟨w.heap.size,0,none⟩))) (w.alloc Z)
def newB(ops:Array Oper)(n m:Nat):Bool:=
 (List.range m).all fun j=>decide (j<n)||match ops[j]? with
  |none=>false
  |some oj=>(List.range n).all fun i=>match ops[i]? with
   |none=>false
   |some oi=>oj.apart ops oi
theorem newB_spec{n m j i:Nat}{oi:Oper}(h:newB ops n m=true)(h1:n≤j)(h2:j<m)(hi:i<n)(ho:ops[i]?=some oi):
  (∀d,dstOf ops j=some d→d∉oi.looksAt ops)∧(∀d,dstOf ops j=some d→oi.dst≠some d):=by
 have k1:=List.all_eq_true.1 h j (List.mem_range.2 h2);simp only[Bool.or_eq_true,decide_eq_true_eq]at k1;rcases k1 with k1|k1
 ·omega
 ·cases hj:ops[j]? with
  |none=>simp[hj]at k1
  |some oj=>
   simp only[hj]at k1;have k2:=List.all_eq_true.1 k1 i (List.mem_range.2 hi);simp only[ho]at k2;obtain⟨a1,a2,_⟩:=Oper.apart_spec k2;have e:dstOf ops j=oj.dst:=by unfold dstOf;rw[hj];rfl
   rw[e];exact⟨a1,a2⟩
theorem ov_exec{oi:Oper}(hs:∀cs b,oi.op≠.select cs b)(a:Act):∀σ:List (Nat×Nat),(∀p∈σ,∀d,dstOf ops p.1=some d→d∉oi.looksAt ops)→execOp (ov ops σ a).eval oi=execOp a.eval oi
 |[],_=>rfl
 |p::σ,h=>(execOp_put oi hs _ _ _ (h p (List.mem_cons_self ..))).trans (ov_exec hs a σ fun q hq=>h q (List.mem_cons_of_mem _ hq))
theorem ov_wanted{oi:Oper}(a:Act):∀σ:List (Nat×Nat),(∀p∈σ,∀d,dstOf ops p.1=some d→d∉oi.looksAt ops)→Region.wanted oi (yielded ops (ov ops σ a).tmps)=Region.wanted oi (yielded ops a.tmps)
 |[],_=>rfl
 |p::σ,h=>(wanted_put oi _ _ _ (h p (List.mem_cons_self ..))).trans (ov_wanted a σ fun q hq=>h q (List.mem_cons_of_mem _ hq))
theorem ov_put{x:Option Tmp}(a:Act)(v:Value):∀σ:List (Nat×Nat),(∀p∈σ,∀d,dstOf ops p.1=some d→x≠some d)→(ov ops σ a).put x v=ov ops σ (a.put x v)
 |[],_=>rfl
 |p::σ,h=>by
  show((ov ops σ a).put _ _).put x v=(ov ops σ (a.put x v)).put _ _;rw[Act.put_comm _ _ _ (h p (List.mem_cons_self ..)),ov_put a v σ fun q hq=>h q (List.mem_cons_of_mem _ hq)]
theorem wp_of_calm{o:Oper}{a:Act}{w:World}{v:Value}{K:Act→World→Prop}{Q:Exit→Act→World→Prop}(h:o.quietAt P a (fun w2=>Below w.heap.size w w2) w v)
  (hk:∀w2,Below w.heap.size w w2→K (a.put o.dst v) w2):o.wp P a w K Q:=by
 unfold Oper.quietAt at h;unfold Oper.wp;generalize (execOp a.eval o).run P w=r at*;cases r with
 |ok x w'=>
  cases x<;>simp only[Oper.quietUpon]at h<;>simp only[Oper.upon]
  case value u=>obtain⟨rfl,rfl⟩:=h;exact hk _ (Below.refl _ _)
  case skip=>obtain⟨rfl,rfl⟩:=h;exact hk _ (Below.refl _ _)
  case enter f args=>
   obtain⟨rfl,hc⟩:=h;exact hc.mono fun e w2 hh=>by obtain⟨rfl,hb⟩:=hh;exact hk w2 hb
 |halt x w'=>simp only[Oper.quietUpon]at h
def left(ls:Array Bool):Nat→Nat
 |0=>0
 |m+1=>left ls m+if ls.getD m false=true then 0 else 1
theorem left_none{ls:Array Bool}:∀{m:Nat},left ls m=0→∀i,i<m→ls.getD i false=true
 |m+1,h,i,hi=>by
  unfold left at h;by_cases him:i=m
  ·subst him;by_cases hh:ls.getD i false=true
   ·exact hh
   ·rw[if_neg hh]at h;omega
  ·exact left_none (m:=m) (by omega) i (by omega)
theorem left_some{ls:Array Bool}:∀{m:Nat},left ls m≠0→∃i,i<m∧ls.getD i false=false
 |0,h=>absurd rfl h
 |m+1,h=>by
  by_cases hh:ls.getD m false=true
  ·unfold left at h;rw[if_pos hh]at h;obtain⟨i,h1,h2⟩:=left_some (m:=m) (by omega);exact⟨i,by omega,h2⟩
  ·exact⟨m,by omega,by simpa using hh⟩
theorem left_same{ls:Array Bool}{i:Nat}:∀{m:Nat},m≤i→left (ls.setIfInBounds i true) m=left ls m
 |0,_=>rfl
 |m+1,h=>by unfold left;rw[left_same (m:=m) (by omega),getD_set_ne false (by omega)]
theorem left_set{ls:Array Bool}{i:Nat}(hs:i<ls.size)(hu:ls.getD i false=false):∀{m:Nat},i<m→left (ls.setIfInBounds i true) m+1=left ls m
 |m+1,h=>by
  unfold left;by_cases him:i=m
  ·subst him;rw[left_same (Nat.le_refl _),if_pos (by simp[hs]),if_neg (by rw[hu];simp)]
  ·have:=left_set hs hu (m:=m) (by omega);rw[getD_set_ne false him];omega
def upto(ops:Array Oper)(m:Nat):Array Bool:=((List.range ops.size).map fun i=>decide (i<m)).toArray
theorem getD_set_self{ls:Array Bool}{i:Nat}(h:i<ls.size)(d:Bool):(ls.setIfInBounds i true).getD i d=true:=by simp[h]
theorem upto_of{ls:Array Bool}{m:Nat}(hs:ls.size=ops.size)(h1:∀i,i<m→ls.getD i false=true)(h2:∀i,m≤i→ls.getD i false=false):ls=upto ops m:=by
 apply Array.ext
 ·simp[upto,hs]
 ·intro i hi hi';have e:ls.getD i false=ls[i]:=by simp[hi]
  rw[←e];by_cases hm:i<m
  ·rw[h1 i hm];simp[upto,hm]
  ·rw[h2 i (by omega)];simp[upto,hm]
structure Sok(ops:Array Oper)(W0:World)(Z:Nat→Obj)(n m:Nat)(ls:Array Bool)(σ:List (Nat×Nat))(w:World):Prop where
 size:ls.size=ops.size
 tail:∀t,m≤t→ls.getD t false=false
 some:∀p∈σ,n≤p.1∧p.1<m∧ls.getD p.1 false=true∧W0.heap.size≤p.2∧p.2<w.heap.size∧w.heap[p.2]?=some (Z p.1)
 all:∀j,n≤j→j<m→ls.getD j false=true→∃D,(j,D)∈σ
 keys:(σ.map (·.1)).Nodup
 apart:(σ.map (·.2)).Nodup
 bel:Below W0.heap.size W0 w
theorem Sok.grow{Z:Nat→Obj}{n m:Nat}{ls:Array Bool}{σ:List (Nat×Nat)}{w w2:World}(h:Sok ops W0 Z n m ls σ w)(hb:Below w.heap.size w w2):Sok ops W0 Z n m ls σ w2:=
 ⟨h.size,h.tail,fun p hp=>by
  obtain⟨a1,a2,a3,a4,a5,a6⟩:=h.some p hp
  exact⟨a1,a2,a3,a4,Nat.lt_of_lt_of_le a5 hb.size,(hb.block p.2 a5).trans a6⟩,h.all,h.keys,h.apart,below_class h.bel hb⟩
theorem Sok.head{Z:Nat→Obj}{n m:Nat}{ls:Array Bool}{σ:List (Nat×Nat)}{w:World}(h:Sok ops W0 Z n m ls σ w){i:Nat}(hi:i<n)(hnm:n≤m):Sok ops W0 Z n m (ls.setIfInBounds i true) σ w:=
 ⟨by simp[h.size],fun t ht=>by rw[getD_set_ne false (by omega)];exact h.tail t ht,fun p hp=>by
  obtain⟨a1,a2,a3,a4,a5,a6⟩:=h.some p hp
  exact⟨a1,a2,getD_set_true a3,a4,a5,a6⟩,fun j h1 h2 h3=>h.all j h1 h2 (by rwa[getD_set_ne false (by omega)]at h3),h.keys,h.apart,h.bel⟩
theorem Sok.made{Z:Nat→Obj}{n m:Nat}{ls:Array Bool}{σ:List (Nat×Nat)}{w:World}(h:Sok ops W0 Z n m ls σ w){i:Nat}(h1:n≤i)(h2:i<m)(hs:i<ls.size)(hu:ls.getD i false=false):
  Sok ops W0 Z n m (ls.setIfInBounds i true) ((i,w.heap.size)::σ) (w.alloc (Z i)):=by
 refine⟨by simp[h.size],fun t ht=>by rw[getD_set_ne false (by omega)];exact h.tail t ht,fun p hp=> ?_,fun j j1 j2 j3=> ?_,?_,?_,h.bel.alloc h.bel.size _⟩
 ·rcases List.mem_cons.1 hp with rfl|hp
  ·exact⟨h1,h2,getD_set_self hs false,h.bel.size,by simp,World.alloc_heap_new w _⟩
  ·obtain⟨a1,a2,a3,a4,a5,a6⟩:=h.some p hp;exact⟨a1,a2,getD_set_true a3,a4,by simp;omega,(Below.heap_alloc w _ p.2 a5).trans a6⟩
 ·by_cases hji:i=j
  ·subst hji;exact⟨_,List.mem_cons_self ..⟩
  ·rw[getD_set_ne false hji]at j3;obtain⟨D,hD⟩:=h.all j j1 j2 j3;exact⟨D,List.mem_cons_of_mem _ hD⟩
 ·simp only[List.map_cons,List.nodup_cons];refine⟨fun hm=> ?_,h.keys⟩;obtain⟨p,hp,he⟩:=List.mem_map.1 hm;have:=(h.some p hp).2.2.1;rw[he,hu]at this;cases this
 ·simp only[List.map_cons,List.nodup_cons];refine⟨fun hm=> ?_,h.apart⟩;obtain⟨p,hp,he⟩:=List.mem_map.1 hm;have:=(h.some p hp).2.2.2.2.1;omega
theorem any_new{Q:Act→Prop}{Q':Exit→Act→World→Prop}{Z:Nat→Obj}{n m g:Nat}(hsel:Region.noSelect ops=true)(hB:headB md ops n=true)(hN:newB ops n m=true)(hnm:n≤m)(hmo:m<ops.size)
  (hnew:∀j,n≤j→j<m→∃o,IsNew P ops j o (Z j)) (hsink:Region.sinkB md ops m=true) (hchain:Region.chainB md ops m=true)
  (hend:∀a σ w,Sok ops W0 Z n m (upto ops m) σ w→Q a→wpAny P md ops Q' g (upto ops m) (ov ops σ a) w):
  ∀(c:Nat) (ls:Array Bool) (done:Nat→Bool) (a:Act) (σ:List (Nat×Nat)) (w:World) (f:Nat),left ls m=c→(∀i,i<n→ls.getD i false=done i)→HeadInv md ops m ls→Sok ops W0 Z n m ls σ w→
   AnyF P md ops W0 n Q f done a→wpAny P md ops Q' (c+g) ls (ov ops σ a) w:=by
 intro c
 induction c with
 |zero=>
  intro ls done a σ w f hc hd _ hs hF;have hall:=left_none hc;obtain rfl:=upto_of hs.size hall hs.tail;cases f with
  |zero=>rw[Nat.zero_add];exact hend a σ w hs hF.2
  |succ f=>
   obtain⟨i,hi,hf,_⟩:=hF.1;rw[←hd i hi,hall i (by omega)]at hf;cases hf
 |succ c ih=>
  intro ls done a σ w f hc hd inv hs hF;obtain⟨i0,hi0,hu0⟩:=left_some (ls:=ls) (m:=m) (by omega);have hsz0:i0<ls.size:=by rw[hs.size];omega
  have notail:∀i∈Region.ready md ops ls,i<m:=fun i hi=>by
   rcases Nat.lt_or_ge i m with h|h
   ·exact h
   ·exact absurd hi (tail_waits hsink hchain hmo inv _ i0 rfl hi0 (getD_in hsz0 hu0) i h)
  rw[show c+1+g=(c+g)+1 by omega];refine⟨fun hnil=> ?_,fun i hi=> ?_⟩
  ·exfalso;rcases Nat.lt_or_ge i0 n with h|h
   ·cases f with
    |zero=>
     have:=hF.1 i0 h;rw[←hd i0 h,hu0]at this;cases this
    |succ f=>
     obtain⟨i,hi,hf,o,ho,hall⟩:=hF.1
     have:i∈Region.ready md ops ls:=mem_ready.2 ⟨getD_in (by rw[hs.size];exact(Array.getElem?_eq_some_iff.1 ho).1) (by rw[hd i hi];exact hf),o,ho,fun e he hb=>by
      rw[hd e.on (by have:=headB_on hB hi ho e he hb;omega)];exact hall e he hb⟩
     rw[hnil]at this;cases this
   ·obtain⟨o,ho⟩:=hnew i0 h hi0;have:i0∈Region.ready md ops ls:=mem_ready.2 ⟨getD_in hsz0 hu0,o,ho.here,fun e he=>by rw[ho.after]at he;simp at he⟩;rw[hnil]at this;cases this
  ·have him:=notail i hi;obtain⟨hun,o,ho,hall⟩:=mem_ready.1 hi;have hu:=getD_both hun;have hsz:i<ls.size:=by rw[hs.size];omega
   have hc':left (ls.setIfInBounds i true) m=c:=by have:=left_set hsz hu him;omega
   rcases Nat.lt_or_ge i n with hin|hin
   ·have hr:rdy md ops n done i:=⟨hin,by rw[←hd i hin];exact hu,o,ho,fun e he hb=>by
     rw[←hd e.on (by have:=headB_on hB hin ho e he hb;omega)];exact hall e he hb⟩
    cases f with
    |zero=>
     have:=hF.1 i hin;rw[hr.2.1]at this;cases this
    |succ f=>
     obtain⟨v,hy,hn⟩:=hF.2 i o ho hr;have hap:∀p∈σ,(∀d,dstOf ops p.1=some d→d∉o.looksAt ops)∧(∀d,dstOf ops p.1=some d→o.dst≠some d):=fun p hp=>newB_spec hN (hs.some p hp).1 (hs.some p hp).2.1 hin ho
     have hd':∀k,k<n→(ls.setIfInBounds i true).getD k false=more done i k:=fun k hk=>by
      by_cases hki:k=i
      ·subst hki;rw[getD_set_self hsz];unfold more;rw[if_pos rfl]
      ·rw[getD_set_ne false (Ne.symm hki),more_ne hki];exact hd k hk
     have go:∀w2,Below w.heap.size w w2→wpAny P md ops Q' (c+g) (ls.setIfInBounds i true) ((ov ops σ a).put o.dst v) w2:=fun w2 hb=>by
      rw[ov_put a v σ fun p hp=>(hap p hp).2];exact ih _ _ _ σ w2 f hc' hd' (inv.set hi him) ((hs.head hin hnm).grow hb) hn
     unfold wpOp;rw[ho];simp only[ov_wanted a σ fun p hp=>(hap p hp).1];rcases hy with⟨hw,hq⟩|⟨hw,rfl⟩
     ·rw[if_pos hw];refine .inl (wp_of_calm (v:=v) ?_ go);have:=hq w hs.bel;unfold Oper.quietAt at*;rwa[ov_exec (Region.noSelect_spec hsel i o · · ho) a σ fun p hp=>(hap p hp).1]
     ·rw[if_neg (by rw[hw];simp)];exact go w (Below.refl _ _)
   ·obtain⟨o',ho'⟩:=hnew i hin him;obtain rfl:o'=o:=Option.some.inj (ho'.here.symm.trans ho);unfold wpOp;rw[ho];simp only;rw[if_pos (ho'.wants _)];refine .inl ?_;unfold Oper.wp;rw[ho'.runs];simp only[Oper.upon];have e:dstOf ops i=o'.dst:=by unfold dstOf;rw[ho];rfl
    have:=ih (ls.setIfInBounds i true) done a ((i,w.heap.size)::σ) (w.alloc (Z i)) f hc' (fun k hk=>by rw[getD_set_ne false (by omega)];exact hd k hk) (inv.set hi him) (hs.made hin him hsz hu) hF;unfold ov at this;rw[e]at this;exact this
def shapeB(md:Region.Mode)(ops:Array Oper)(n m:Nat):Bool:=
 Region.noSelect ops&&headB md ops n&&newB ops n m&&decide (n≤m)&&decide (m<ops.size)&&Region.sinkB md ops m&&Region.chainB md ops m&&Region.seqB md ops (ops.size-m) m (upto ops m)
end
theorem wp_region_new{P:Program}{id:Nat}{Q:Exit→Act→World→Prop}{a:Act}{w:World}{l:List Oper}(n m:Nat)(Z:Nat→Obj)(hm:P.follows .mixedOrders=true)(hB:shapeB .any l.toArray n m=true)
  (hnew:∀j,n≤j→j<m→∃o,IsNew P l.toArray j o (Z j))
  (h:wpCalm P l.toArray w.drew (fun a'=>∀σ w',Sok l.toArray w.drew Z n m (upto l.toArray m) σ w'→wpList P l.toArray Q (l.drop m) (ov l.toArray σ a') w') (l.take n) a):
  (Code.region id l.toArray true).wp P Q a w:=by
 simp only[shapeB,Bool.and_eq_true,decide_eq_true_eq]at hB;obtain⟨⟨⟨⟨⟨⟨⟨hsel,hhead⟩,hnewB⟩,hnm⟩,hmo⟩,hsink⟩,hchain⟩,hseq⟩:=hB;have hmo':m<l.length:=by simpa using hmo
 have htl:(l.take n).length=n:=by simp;omega
 have hdl:(l.drop m).length=l.toArray.size-m:=by simp
 have inv0:HeadInv .any l.toArray m (Array.replicate l.toArray.size false):=
  ⟨by simp,fun j oj _ hl=>(by rw[getD_replicate_false]at hl;cases hl),fun t _ ht=>getD_in (by simpa using ht) (getD_replicate_false _ _)⟩
 have H:=anyF_lex (md:=.any) (n:=n) hsel hhead (l.take n) 0 a (fun j hj=>by
  have hj':j<n:=by rw[htl]at hj;exact hj
  simp[hj']) (by simpa using htl) h
 rw[htl]at H
 have hl0:left (Array.replicate l.toArray.size false) m=m:=by
  have:∀k,left (Array.replicate l.toArray.size false) k=k:=fun k=>by
   induction k with
   |zero=>rfl
   |succ k ih=>unfold left;rw[ih,getD_replicate_false];simp
  exact this m
 refine wp_region_any hm ?_
 have:=any_new (md:=.any) (W0:=w.drew) (Q':=Q) (g:=l.toArray.size-m) hsel hhead hnewB hnm hmo hnew hsink hchain (fun a' σ w' hs hQ=>by
  have:=wpAny_of_seq (md:=.any) (Q':=Q) (l.drop m) m (upto l.toArray m) (ov l.toArray σ a') w' (fun j=>by simp[List.getElem?_drop]) (by rw[hdl];exact hseq) (hQ σ w' hs)
  rwa[hdl]at this) m (Array.replicate l.toArray.size false) (fun j=>decide (j<0)) a [] w.drew n hl0 (fun i _=>by rw[getD_replicate_false];simp) inv0
  ⟨by simp,fun t _=>getD_replicate_false _ _,fun p hp=>(by cases hp),fun j _ _ hj=>(by rw[getD_replicate_false]at hj;cases hj),List.nodup_nil,List.nodup_nil,Below.refl _ _⟩ H
 rw[show m+(l.toArray.size-m)=l.toArray.size by omega]at this;exact this
def bdl(s:St):List (Int×Int×Int):=[(s.fl,2,64),(s.ca,1,8),(s.sta,0,1000),(s.ste,1,1000),(s.sto,0,1000),(s.opn,1,1000),(s.wai,1,1000),(s.clo,1,1000),(s.nud,0,10),(s.age,1,1000000),(s.sil,1,1000000),(s.bud,1,1000000),(s.per,1,1000)]
def okB(x:Int×Int×Int):Bool:=decide (x.2.1≤x.1)&&decide (x.1≤x.2.2)
def rightB(s:St):Bool:=(bdl s).all okB
theorem rightB_iff(s:St):rightB s=true↔SM.Rt s:=by
 simp only[rightB,bdl,List.all_cons,List.all_nil,okB,Bool.and_eq_true,decide_eq_true_eq,Bool.and_true];constructor
 ·rintro⟨⟨_,_⟩,⟨_,_⟩,⟨_,_⟩,⟨_,_⟩,⟨_,_⟩,⟨_,_⟩,⟨_,_⟩,⟨_,_⟩,⟨_,_⟩,⟨_,_⟩,⟨_,_⟩,⟨_,_⟩,⟨_,_⟩⟩;constructor<;>assumption
 ·intro r;exact⟨⟨r.fl1,r.fl2⟩,⟨r.ca1,r.ca2⟩,⟨r.sta1,r.sta2⟩,⟨r.ste1,r.ste2⟩,⟨r.sto1,r.sto2⟩,⟨r.opn1,r.opn2⟩,⟨r.wai1,r.wai2⟩,⟨r.clo1,r.clo2⟩,⟨r.nud1,r.nud2⟩,⟨r.age1,r.age2⟩,⟨r.sil1,r.sil2⟩,⟨r.bud1,r.bud2⟩,⟨r.per1,r.per2⟩⟩
theorem rightB_true{s:St}(r:SM.Rt s):rightB s=true:=(rightB_iff s).2 r
theorem rightB_false{s:St}(r:¬SM.Rt s):rightB s=false:=by
 cases h:rightB s
 ·rfl
 ·exact absurd ((rightB_iff s).1 h) r
theorem ret_bool{a b:Bool}(h:a=b):Ending.returned (.bool a)=.returned (.bool b):=by rw[h]
theorem rright_any(s:St)(w:World):
  Calls Tryz.prog 6 #[.agg (sv s).toArray] w fun e w'=>e=.returned (.bool (rightB s))∧Below w.heap.size w w':=by
 have n0:=SB.new w s;have hc0:(w.alloc (.cells (sv s).toArray 23)).cell? ⟨w.heap.size,0,none⟩=some (.int .i64 s.fl):=n0.cell 0;have hc1:(w.alloc (.cells (sv s).toArray 23)).cell? ⟨w.heap.size,1,none⟩=some (.int .i64 s.ca):=n0.cell 1;have hc2:(w.alloc (.cells (sv s).toArray 23)).cell? ⟨w.heap.size,2,none⟩=some (.int .i64 s.sta):=n0.cell 2;have hc3:(w.alloc (.cells (sv s).toArray 23)).cell? ⟨w.heap.size,3,none⟩=some (.int .i64 s.ste):=n0.cell 3;have hc4:(w.alloc (.cells (sv s).toArray 23)).cell? ⟨w.heap.size,4,none⟩=some (.int .i64 s.sto):=n0.cell 4;have hc5:(w.alloc (.cells (sv s).toArray 23)).cell? ⟨w.heap.size,5,none⟩=some (.int .i64 s.opn):=n0.cell 5;have hc6:(w.alloc (.cells (sv s).toArray 23)).cell? ⟨w.heap.size,6,none⟩=some (.int .i64 s.wai):=n0.cell 6;have hc7:(w.alloc (.cells (sv s).toArray 23)).cell? ⟨w.heap.size,7,none⟩=some (.int .i64 s.clo):=n0.cell 7;have hc8:(w.alloc (.cells (sv s).toArray 23)).cell? ⟨w.heap.size,8,none⟩=some (.int .i64 s.nud):=n0.cell 8;have hc9:(w.alloc (.cells (sv s).toArray 23)).cell? ⟨w.heap.size,9,none⟩=some (.int .i64 s.age):=n0.cell 9;have hc10:(w.alloc (.cells (sv s).toArray 23)).cell? ⟨w.heap.size,10,none⟩=some (.int .i64 s.sil):=n0.cell 10;have hc11:(w.alloc (.cells (sv s).toArray 23)).cell? ⟨w.heap.size,11,none⟩=some (.int .i64 s.bud):=n0.cell 11;have hc12:(w.alloc (.cells (sv s).toArray 23)).cell? ⟨w.heap.size,12,none⟩=some (.int .i64 s.per):=n0.cell 12;have HB:Hid (Below w.heap.size w (w.alloc (.cells (sv s).toArray 23))):=Hd ((Below.refl _ w).alloc (Nat.le_refl _) _);clear n0
 go_enter Tryz.func6,Tryz.ntmps6
 go_wp2
 all_goals
  clear hc0 hc1 hc2 hc3 hc4 hc5 hc6 hc7 hc8 hc9 hc10 hc11 hc12;go_ret;refine⟨ret_bool ?_,HB.out⟩
 all_goals first
  |(refine (rightB_false ?_).symm;rintro⟨q0,q1,q2,q3,q4,q5,q6,q7,q8,q9,q10,q11,q12,q13,q14,q15,q16,q17,q18,q19,q20,q21,q22,q23,q24,q25⟩;omega)
  |(refine (rightB_true ?_).symm;constructor<;>omega)
  |(rw[Bool.eq_iff_iff,rightB_iff];simp only[decide_eq_true_eq];constructor;(intro h;constructor<;>omega);(rintro⟨q0,q1,q2,q3,q4,q5,q6,q7,q8,q9,q10,q11,q12,q13,q14,q15,q16,q17,q18,q19,q20,q21,q22,q23,q24,q25⟩;omega))
open Go.Shelf
attribute [local go_sem] Oper.semAt_some
def cel3(x:Int×Int×Int):List Value:=[.int .i64 x.1,.int .i64 x.2.1,.int .i64 x.2.2]
def bcells(s:St):List Value:=(bdl s).flatMap cel3
theorem flat3:∀(l:List (Int×Int×Int)) (k:Nat) (x:Int×Int×Int),l[k]?=some x→(l.flatMap cel3)[k*3]?=some (.int .i64 x.1)∧(l.flatMap cel3)[k*3+1]?=some (.int .i64 x.2.1)∧(l.flatMap cel3)[k*3+2]?=some (.int .i64 x.2.2)
 |[],k,x,h=>by simp at h
 |y::l,0,x,h=>by
  simp only[List.getElem?_cons_zero,Option.some.injEq]at h;subst h;simp[cel3]
 |y::l,k+1,x,h=>by
  simp only[List.getElem?_cons_succ]at h;have ih:=flat3 l k x h;rw[show(k+1)*3=k*3+1+1+1 by omega];simp only[List.flatMap_cons,cel3,List.cons_append,List.nil_append,List.getElem?_cons_succ];exact ih
def LB(W:World)(b:Nat)(s:St):Prop:=W.heap[b]?=some (.cells (bcells s).toArray 133 (0,0))
theorem LB.cell{W:World}{b:Nat}{s:St}(h:LB W b s)(i:Nat):W.cell? ⟨b,i,none⟩=(bcells s)[i]?:=by
 simp[World.cell?,show W.heap[b]?=_ from h]
theorem LB.lt{W:World}{b:Nat}{s:St}(h:LB W b s):b<W.heap.size:=(Array.getElem?_eq_some_iff.1 h).1
theorem abides_below{β:Type}{n:Nat}{J:β→World→Prop}(h:AbidesFrom n J){s:β}{A B:World}(hj:J s A)(hb:Below A.heap.size A B):J s B:=
 h s A B none hj ⟨hb.os,hb.tape,hb.output,hb.size,fun k hk _=>hb.block k hk⟩ (fun r e=>by cases e)
def KeepA(W W':World):Prop:=∀(k:Nat) (C:Array Value) (t:TypeId) (fr:Nat×Nat),W.heap[k]?=some (.cells C t fr)→W'.heap[k]?=some (.cells C t fr)
theorem bounds_any(s:St)(w:World):
  Calls Tryz.prog 47 #[.agg (sv s).toArray] w fun e w'=>e=.returned (.func (.func 68) #[] #[.pointer (some ⟨w.heap.size,0,none⟩)])∧
   w'=w.alloc (.cells (sv s).toArray 23):=by
 have hmf:∀(fn:Fn) (first cap:Array Value) (w:World),(Instr.makeFunc fn first cap).run Tryz.prog w=.ok (.func fn first cap) w:=fun _ _ _ _=>rfl
 go_enter Tryz.func47,Tryz.ntmps47
 go_wp2;go_ret;exact⟨rfl,rfl⟩
def encB(x:Int×Int×Int):Array Value:= #[.int .i64 x.1,.agg #[.int .i64 x.2.1,.int .i64 x.2.2]]
theorem bounds1_in(n:Nat)(l Bs:Nat)(s:St)(J Jx:List (Int×Int×Int)→World→Prop)(W:World)(hJ:AbidesFrom W.heap.size J)
  (hY:∀pre x W,J pre W→pre.length<13→YieldAt Fence.wide (n-1) Tryz.prog l (encB x) W fun e W'=>
   (e=.returned (.bool true)∧J (pre++[x]) W'∧KeepA W W')∨(e=.returned (.bool false)∧Jx (pre++[x]) W'))
  (hs:SB W Bs s) (h0:J [] W):
  CallsIn Fence.wide n Tryz.prog 68 #[.func (.yield l) #[] #[],.pointer (some ⟨Bs,0,none⟩)] W fun e W'=>(∃v,e=.returned v)∧
   ((∃ys,ys=bdl s∧J ys W')∨(∃pre,pre<+:bdl s∧Jx pre W')):=by
 refine callsIn_of_wp Tryz.func68 rfl trivial ?_ rfl;simp only[Tryz.ntmps68,List.size_toArray,List.length_cons,List.length_nil,Nat.reduceAdd,Nat.reduceSub,Array.replicate_succ,Array.replicate_zero,List.push_toArray,List.append_toArray,List.nil_append,List.cons_append];have hc0:W.cell? ⟨Bs,0,none⟩=some (.int .i64 s.fl):=hs.cell 0;have hc1:W.cell? ⟨Bs,1,none⟩=some (.int .i64 s.ca):=hs.cell 1;have hc2:W.cell? ⟨Bs,2,none⟩=some (.int .i64 s.sta):=hs.cell 2;have hc3:W.cell? ⟨Bs,3,none⟩=some (.int .i64 s.ste):=hs.cell 3;have hc4:W.cell? ⟨Bs,4,none⟩=some (.int .i64 s.sto):=hs.cell 4;have hc5:W.cell? ⟨Bs,5,none⟩=some (.int .i64 s.opn):=hs.cell 5;have hc6:W.cell? ⟨Bs,6,none⟩=some (.int .i64 s.wai):=hs.cell 6;have hc7:W.cell? ⟨Bs,7,none⟩=some (.int .i64 s.clo):=hs.cell 7;have hc8:W.cell? ⟨Bs,8,none⟩=some (.int .i64 s.nud):=hs.cell 8;have hc9:W.cell? ⟨Bs,9,none⟩=some (.int .i64 s.age):=hs.cell 9;have hc10:W.cell? ⟨Bs,10,none⟩=some (.int .i64 s.sil):=hs.cell 10;have hc11:W.cell? ⟨Bs,11,none⟩=some (.int .i64 s.bud):=hs.cell 11;have hc12:W.cell? ⟨Bs,12,none⟩=some (.int .i64 s.per):=hs.cell 12;have HY:=Hd hY;have HJ:=Hd hJ;have H0:=Hd h0;clear hY hJ h0 hs
 gi_wp2
 gi_loopw [59] (fun i wr=>∃k:Nat,k≤13∧i=.int .i64 k∧J ((bdl s).take k) wr∧LB wr W.heap.size s) (fun i _=>13-(intOf i).toNat)
 case atStart=>exact⟨0,by omega,rfl,abides_below HJ.out H0.out ((Below.refl _ W).alloc (Nat.le_refl _) _),World.alloc_heap_new W _⟩
 case round=>
  obtain⟨k,hk,rfl,hJk,hL⟩:=hrel;clear hc0 hc1 hc2 hc3 hc4 hc5 hc6 hc7 hc8 hc9 hc10 hc11 hc12 H0;by_cases hlt:k<13
  ·obtain⟨x,hx⟩:∃x,(bdl s)[k]?=some x:=⟨_,List.getElem?_eq_getElem (show k<(bdl s).length from hlt)⟩;obtain⟨f1,f2,f3⟩:=flat3 _ _ _ hx;have c1:wr.cell? ⟨W.heap.size,k*3,none⟩=some (.int .i64 x.1):=(hL.cell _).trans f1;have c2:wr.cell? ⟨W.heap.size,k*3+1,none⟩=some (.int .i64 x.2.1):=(hL.cell _).trans f2;have c3:wr.cell? ⟨W.heap.size,k*3+2,none⟩=some (.int .i64 x.2.2):=(hL.cell _).trans f3;have HX:=Hd hx;have HL:=Hd hL;have HJk:=Hd hJk;have hkI:(k:Int)<13:=by omega
   clear f1 f2 f3 hx hL hJk;have hW3:Below wr.heap.size wr (wr.alloc (.cells #[.int .i64 x.1,.int .i64 x.2.1,.int .i64 x.2.2] 133)):=(Below.refl _ wr).alloc (Nat.le_refl _) _;obtain⟨fn,tmps,assign,body,hy,hR⟩:=HY.out ((bdl s).take k) x (wr.alloc (.cells #[.int .i64 x.1,.int .i64 x.2.1,.int .i64 x.2.2] 133)) (abides_below HJ.out HJk.out hW3) (by simp;omega);have hy':(Instr.yield l #[Value.int .i64 x.1,Value.agg #[Value.int .i64 x.2.1,Value.int .i64 x.2.2]]).run Tryz.prog (wr.alloc (.cells #[.int .i64 x.1,.int .i64 x.2.1,.int .i64 x.2.2] 133))=.ok (.round l fn tmps assign body) (wr.alloc (.cells #[.int .i64 x.1,.int .i64 x.2.1,.int .i64 x.2.2] 133)):=hy;have HL3:=Hd (show LB (wr.alloc (.cells #[.int .i64 x.1,.int .i64 x.2.1,.int .i64 x.2.2] 133)) W.heap.size s from(hW3.block _ HL.out.lt).trans HL.out);have HT:=Hd (show(bdl s).take (k+1)=(bdl s).take k++[x] by rw[List.take_add_one,HX.out];rfl);clear hy HL hW3 HJk
   gi_wp2
   refine⟨fun h=>(by cases h),?_⟩;refine hR.mono ?_;rintro e W4 (⟨rfl,hJ3,hk3⟩|⟨rfl,hJx3⟩)
   ·have HL4:=Hd (show LB W4 W.heap.size s from hk3 _ _ _ _ HL3.out);clear hk3 hR hy' c1 c2 c3
    gi_wp2
    go_roundw
    case rel=>exact⟨k+1,by omega,by go_num,by rw[HT.out];exact hJ3,HL4.out⟩
    case measure=>simp[intOf];omega
   ·clear hR hy' c1 c2 c3
    gi_wp2
    refine bodyPost_ret (results_none rfl _ _ _) rfl ?_;exact⟨⟨_,rfl⟩,.inr ⟨_,by rw[←HT.out];exact List.take_prefix _ _,hJx3⟩⟩
  ·obtain rfl:k=13:=by omega
   clear hL
   gi_wp2
   go_end0
   exact⟨⟨_,rfl⟩,.inl ⟨_,rfl,hJk⟩⟩
theorem bounds_stops(n Bs:Nat)(s:St)(w:World)(hs:SB w Bs s):
  SeqStopsK Fence.wide n Tryz.prog 68 #[.pointer (some ⟨Bs,0,none⟩)] encB KeepA (fun ys=>ys=bdl s) (fun pre=>pre<+:bdl s) 13 w:=
 fun l J Jx W hW hJ _ hY h0=>bounds1_in n l Bs s J Jx W hJ hY (hs.below' hW) h0
end Go.Proofs.YtlajleogofmkcaaGreat
