import Derived.Test.YtnkelgdnglaafaaGreatRows
import Derived.WalkKit
import Derived.WalkSpells
import Derived.WalkLawsBesides
import Derived.RangeFuncBox
import Derived.Deep.MidRow
import Derived.Deep.Quiet
import Derived.Deep.QuietTactic
import Derived.Deep.RegionHeld3
import Derived.Deep.DrawnRows
import Derived.RangeFuncNested
import Derived.RangeFuncBound
import Derived.RangeFuncCalls
import Derived.RangeFuncLeaves
import Derived.Shelf.Abstract
import Derived.Shelf.RegionOpen
import Derived.OwnWalkIn
import Derived.TacticsInMore
import Derived.LoopNIn
import Derived.LoopIn
import Derived.Laws.OwnMore
import Derived.Laws.AppendOwnNone
import Derived.Deep.AppendLies
import Derived.OwnWalk
set_option maxHeartbeats 8000000
set_option maxRecDepth 100000
namespace Go.Proofs.YtnkelgdnglaafaaGreat
theorem ret_int{k:IntKind}{a b:Int}(h:a=b):Ending.returned (.int k a)=.returned (.int k b):=by rw[h]
structure St where
 fl:Int
 ca:Int
 sta:Int
 ste:Int
 sto:Int
 opn:Int
 wai:Int
 clo:Int
 nud:Int
 age:Int
 sil:Int
 bud:Int
 per:Int
namespace SM
structure Rt(s:St):Prop where
 fl1:2≤s.fl
 fl2:s.fl≤64
 ca1:1≤s.ca
 ca2:s.ca≤8
 sta1:0≤s.sta
 sta2:s.sta≤1000
 ste1:1≤s.ste
 ste2:s.ste≤1000
 sto1:0≤s.sto
 sto2:s.sto≤1000
 opn1:1≤s.opn
 opn2:s.opn≤1000
 wai1:1≤s.wai
 wai2:s.wai≤1000
 clo1:1≤s.clo
 clo2:s.clo≤1000
 nud1:0≤s.nud
 nud2:s.nud≤10
 age1:1≤s.age
 age2:s.age≤1000000
 sil1:1≤s.sil
 sil2:s.sil≤1000000
 bud1:1≤s.bud
 bud2:s.bud≤1000000
 per1:1≤s.per
 per2:s.per≤1000
end SM
open Go.RowKit
theorem Hd{p:Prop}(h:p):Hid p:=h
def sv(s:St):List Value:=[.int .i64 s.fl,.int .i64 s.ca,.int .i64 s.sta,.int .i64 s.ste,.int .i64 s.sto,.int .i64 s.opn,.int .i64 s.wai,.int .i64 s.clo,.int .i64 s.nud,.int .i64 s.age,.int .i64 s.sil,.int .i64 s.bud,.int .i64 s.per]
theorem sv_length(s:St):(sv s).length=13:=rfl
theorem info23:(Tryz.prog.info? 23).map (·.size)=some 13:=by kernel_rfl
def SB(W:World)(b:Nat)(s:St):Prop:=W.heap[b]?=some (.cells (sv s).toArray 23 (0,0))
theorem SB.lt{W:World}{b:Nat}{s:St}(h:SB W b s):b<W.heap.size:=(Array.getElem?_eq_some_iff.1 h).1
theorem SB.cell{W:World}{b:Nat}{s:St}(h:SB W b s)(i:Nat):W.cell? ⟨b,i,none⟩=(sv s)[i]?:=by
 simp[World.cell?,show W.heap[b]?=_ from h]
theorem SB.range{W:World}{b:Nat}{s:St}(h:SB W b s):W.rangeAt b 0 (sv s):=fun j v hv=>by
 rw[Nat.zero_add,h.cell,hv]
theorem SB.below{W W':World}{B b:Nat}{s:St}(h:SB W b s)(hb:Below B W W')(hlt:b<B):SB W' b s:=(hb.block b hlt).trans h
theorem SB.below'{W W':World}{b:Nat}{s:St}(h:SB W b s)(hb:Below W.heap.size W W'):SB W' b s:=h.below hb h.lt
theorem SB.alloc{W:World}{b:Nat}{s:St}(h:SB W b s)(o:Obj):SB (W.alloc o) b s:=(Below.heap_alloc W o b h.lt).trans h
theorem SB.drew{W:World}{b:Nat}{s:St}(h:SB W b s):SB W.drew b s:=h
theorem SB.other{W:World}{b b':Nat}{s:St}(h:SB W b s)(hne:b≠b')(i:Nat)(v:Value):SB (W.setCell ⟨b',i,none⟩ v) b s:=
 (Below.heap_setCell W ⟨b',i,none⟩ v b hne).trans h
theorem SB.new(W:World)(s:St):SB (W.alloc (.cells (sv s).toArray 23)) W.heap.size s:=World.alloc_heap_new W _
theorem load23(w:World)(b:Nat)(s:St)(h:w.rangeAt b 0 (sv s)):
  (Instr.loadAt 23 (.pointer (some ⟨b,0,none⟩))).run Tryz.prog w=.ok (.agg (sv s).toArray) w:=
 run_loadAt_mid (P:=Tryz.prog) w b 0 23 (sv s) _ h Tryz.underlying23 rfl (by rw[sv_length];exact info23)
theorem wpList_load23{ops:Array Oper}{rest:List Oper}{op:Oper}{a:Act}{w:World}{Q:Exit→Act→World→Prop}(hgd:op.guard=none)(x:Operand)(ho:op.op=.load 23 x)
  (b:Nat) (s:St) (hx:a.eval x=.pointer (some ⟨b,0,none⟩)) (hr:SB w b s)
  (h:wpList Tryz.prog ops Q rest (a.put op.dst (.agg (sv s).toArray)) w):wpList Tryz.prog ops Q (op::rest) a w:=
 wpList_plain hgd fun _ hK=>by
  unfold Oper.wp execOp;simp only[ho,Sem.run_bind,Sem.run_pure,Result.andThen_ok,hx,load23 w b s hr.range];exact hK _ _ h
theorem wpList_load23g{ops:Array Oper}{rest:List Oper}{op:Oper}{a:Act}{w:World}{Q:Exit→Act→World→Prop}(hgd:Region.wanted op (yielded ops a.tmps)=true)(x:Operand)(ho:op.op=.load 23 x)
  (b:Nat) (s:St) (hx:a.eval x=.pointer (some ⟨b,0,none⟩)) (hr:SB w b s)
  (h:wpList Tryz.prog ops Q rest (a.put op.dst (.agg (sv s).toArray)) w):wpList Tryz.prog ops Q (op::rest) a w:=
 wpList_step fun _ hK=>by
  rw[if_pos hgd];unfold Oper.wp execOp;simp only[ho,Sem.run_bind,Sem.run_pure,Result.andThen_ok,hx,load23 w b s hr.range];exact hK _ _ h
theorem load3(w:World)(b o:Nat)(v:Value)(h:w.cell? ⟨b,o,none⟩=some v):(Instr.loadAt 3 (.pointer (some ⟨b,o,none⟩))).run Tryz.prog w=.ok v w:=by simp[go_sem,h]
theorem below_class{W0 w w':World}(h:Below W0.heap.size W0 w)(h':Below w.heap.size w w'):Below W0.heap.size W0 w':=h.trans (h'.mono h.size)
end Go.Proofs.YtnkelgdnglaafaaGreat
namespace Go.Proofs.YtnkelgdnglaafaaGreat.NumM
def cl(a:Int):Int:=if 1099511627776<a then 1099511627776 else if a< -1099511627776 then -1099511627776 else a
theorem cl_bd(a:Int): -1099511627776≤cl a∧cl a≤1099511627776:=by
 unfold cl;split
 ·omega
 ·split<;>omega
theorem cl_hi{a:Int}(h:1099511627776<a):cl a=1099511627776:=by unfold cl;rw[if_pos h]
theorem cl_lo{a:Int}(h:a< -1099511627776):cl a= -1099511627776:=by
 unfold cl;rw[if_neg (by omega),if_pos h]
theorem cl_in{a:Int}(h1: -1099511627776≤a)(h2:a≤1099511627776):cl a=a:=by
 unfold cl;rw[if_neg (by omega),if_neg (by omega)]
theorem cl_ge{a:Int}(h:1099511627776≤a):cl a=1099511627776:=by
 unfold cl;split
 ·rfl
 ·split<;>omega
def sz(a:Int):Int:=if a<0 then -a else a
theorem sz_nonneg(a:Int):0≤sz a:=by unfold sz;split<;>omega
theorem sz_pos{a:Int}(h:a≠0):1≤sz a:=by unfold sz;split<;>omega
theorem sz_neg{a:Int}(h:a<0):sz a= -a:=by unfold sz;rw[if_pos h]
theorem sz_nn{a:Int}(h:0≤a):sz a=a:=by unfold sz;rw[if_neg (by omega)]
theorem sz_mul(a b:Int):sz (a*b)=sz a*sz b:=by
 by_cases ha:a<0<;>by_cases hb:b<0
 ·have h:0<a*b:=Int.mul_pos_of_neg_of_neg ha hb;rw[sz_nn (by omega),sz_neg ha,sz_neg hb,Int.neg_mul_neg]
 ·by_cases h0:b=0
  ·subst h0;simp[sz]
  ·have h:a*b<0:=Int.mul_neg_of_neg_of_pos ha (by omega);rw[sz_neg h,sz_neg ha,sz_nn (by omega),Int.neg_mul]
 ·by_cases h0:a=0
  ·subst h0;simp[sz]
  ·have h:a*b<0:=Int.mul_neg_of_pos_of_neg (by omega) hb;rw[sz_neg h,sz_neg hb,sz_nn (by omega),Int.mul_neg]
 ·have h:0≤a*b:=Int.mul_nonneg (by omega) (by omega);rw[sz_nn h,sz_nn (by omega),sz_nn (by omega)]
theorem big_of{x y:Int}(hx:1≤x)(h:1099511627776/x<y):1099511627776<x*y:=by
 have h1:=Int.lt_ediv_add_one_mul_self 1099511627776 (by omega:0<x);have h2:(1099511627776/x+1)*x≤y*x:=Int.mul_le_mul_of_nonneg_right (by omega) (by omega);rw[Int.mul_comm x y];omega
theorem small_of{x y:Int}(hx:1≤x)(h:y≤1099511627776/x):x*y≤1099511627776:=by
 have h1:=Int.ediv_mul_le 1099511627776 (by omega:x≠0);have h2:y*x≤1099511627776/x*x:=Int.mul_le_mul_of_nonneg_right h (by omega);rw[Int.mul_comm x y];omega
theorem cl_mul_pass{a b:Int}(ha:a≠0)(h:1099511627776/sz a<sz b):
  cl (a*b)=if(a<0)≠(b<0)then -1099511627776 else 1099511627776:=by
 have hb:=big_of (sz_pos ha) h;rw[←sz_mul]at hb;have h1:=sz_nonneg (1099511627776/sz a)
 have hb0:b≠0:=by
  rintro rfl;simp[sz]at hb
 by_cases hm:a*b<0
 ·rw[sz_neg hm]at hb;rw[cl_lo (by omega)];by_cases xa:a<0<;>by_cases xb:b<0
  ·have:=Int.mul_pos_of_neg_of_neg xa xb;omega
  ·simp[xa,xb]
  ·simp[xa,xb]
  ·have:=Int.mul_nonneg (by omega:0≤a) (by omega:0≤b);omega
 ·rw[sz_nn (by omega)]at hb;rw[cl_hi hb];by_cases xa:a<0<;>by_cases xb:b<0
  ·simp[xa,xb]
  ·have:=Int.mul_neg_of_neg_of_pos xa (by omega:0<b);omega
  ·have:=Int.mul_neg_of_pos_of_neg (by omega:0<a) xb;omega
  ·simp[xa,xb]
theorem mul_small{a b:Int}(h:a=0∨sz b≤1099511627776/sz a): -1099511627776≤a*b∧a*b≤1099511627776:=by
 by_cases ha:a=0
 ·subst ha;simp
 ·have h':sz b≤1099511627776/sz a:=by rcases h with h|h;exact absurd h ha;exact h
  have:=small_of (sz_pos ha) h';rw[←sz_mul]at this;by_cases hm:a*b<0
  ·rw[sz_neg hm]at this;omega
  ·rw[sz_nn (by omega)]at this;omega
def sumL(l:List Int):Int:=l.foldl (fun n x=>cl (cl n+cl x)) 0
theorem sumL_snoc(l:List Int)(x:Int):sumL (l++[x])=cl (cl (sumL l)+cl x):=by simp[sumL]
end Go.Proofs.YtnkelgdnglaafaaGreat.NumM
namespace Go.Proofs.YtnkelgdnglaafaaGreat
namespace SM
def dist(a b:Int):Int:=if a<b then b-a else a-b
def trav(s:St)(a b:Int):Int:=if a<0∨b<0∨s.fl≤a∨s.fl≤b∨a=b then 0 else s.sta+s.ste*dist a b+s.sto
def hol(h:Int):Int:=if h<0 then 0 else if 1000000<h then 1000000 else h
def run(s:St):Int:=s.opn+s.wai+s.clo+4
theorem mul_bd{a b A B:Int}(h1:0≤a)(h2:a≤A)(h3:0≤b)(h4:b≤B):0≤a*b∧a*b≤A*B:=
 ⟨Int.mul_nonneg h1 h3,Int.mul_le_mul h2 h4 h3 (by omega)⟩
theorem step_bd{s:St}(r:Rt s){d:Int}(h1:0≤d)(h2:d≤63):0≤s.ste*d∧s.ste*d≤63000:=by
 have:=r.ste1;have:=r.ste2;have:=mul_bd (a:=s.ste) (b:=d) (A:=1000) (B:=63) (by omega) (by omega) h1 h2;omega
theorem dist_bd{s:St}(r:Rt s){a b:Int}(h1:0≤a)(h2:0≤b)(h3:a<s.fl)(h4:b<s.fl):0≤dist a b∧dist a b≤63:=by
 have:=r.fl2;unfold dist;split<;>omega
theorem trav_out{s:St}{a b:Int}(h:a<0∨b<0∨s.fl≤a∨s.fl≤b∨a=b):trav s a b=0:=by unfold trav;rw[if_pos h]
theorem trav_in{s:St}{a b:Int}(h1:0≤a)(h2:0≤b)(h3:a<s.fl)(h4:b<s.fl)(h5:a≠b):trav s a b=s.sta+s.ste*dist a b+s.sto:=by
 unfold trav;rw[if_neg (by omega)]
theorem trav_bd{s:St}(r:Rt s)(a b:Int):0≤trav s a b∧trav s a b≤65000:=by
 unfold trav;split
 ·omega
 ·rename_i h;have d:=dist_bd r (a:=a) (b:=b) (by omega) (by omega) (by omega) (by omega);have:=step_bd r d.1 d.2;have:=r.sta1;have:=r.sta2;have:=r.sto1;have:=r.sto2;omega
theorem sumL3{a b c:Int}(h1:0≤a)(h2:0≤b)(h3:0≤c)(h:a+b+c≤1099511627776):NumM.sumL [a,b,c]=a+b+c:=by
 have e:([a,b,c]:List Int)=(([]++[a])++[b])++[c]:=rfl;rw[e,NumM.sumL_snoc,NumM.sumL_snoc,NumM.sumL_snoc];have z:NumM.sumL []=0:=rfl
 rw[z,NumM.cl_in (a:=0) (by omega) (by omega),NumM.cl_in (a:=a) (by omega) (by omega),Int.zero_add,NumM.cl_in (a:=a) (by omega) (by omega),
  NumM.cl_in (a:=a) (by omega) (by omega),NumM.cl_in (a:=b) (by omega) (by omega),NumM.cl_in (a:=a+b) (by omega) (by omega),NumM.cl_in (a:=a+b) (by omega) (by omega),
  NumM.cl_in (a:=c) (by omega) (by omega),NumM.cl_in (by omega) (by omega)]
theorem sumL4{a b c d:Int}(h1:0≤a)(h2:0≤b)(h3:0≤c)(h4:0≤d)(h:a+b+c+d≤1099511627776):NumM.sumL [a,b,c,d]=a+b+c+d:=by
 have e:([a,b,c,d]:List Int)=[a,b,c]++[d]:=rfl;rw[e,NumM.sumL_snoc,sumL3 h1 h2 h3 (by omega),NumM.cl_in (a:=a+b+c) (by omega) (by omega),NumM.cl_in (a:=d) (by omega) (by omega),NumM.cl_in (by omega) (by omega)]
theorem mulC{a b A B:Int}(h1:0≤a)(h2:a≤A)(h3:0≤b)(h4:b≤B)(hA:A≤1099511627776)(hB:B≤1099511627776)(h:A*B≤1099511627776):NumM.cl (NumM.cl a*NumM.cl b)=a*b:=by
 have:=mul_bd h1 h2 h3 h4;rw[NumM.cl_in (a:=a) (by omega) (by omega),NumM.cl_in (a:=b) (by omega) (by omega),NumM.cl_in (by omega) (by omega)]
theorem addC{a b:Int}(h1:0≤a)(h2:0≤b)(h:a+b≤1099511627776):NumM.cl (NumM.cl a+NumM.cl b)=a+b:=by
 rw[NumM.cl_in (a:=a) (by omega) (by omega),NumM.cl_in (a:=b) (by omega) (by omega),NumM.cl_in (by omega) (by omega)]
theorem travel_sum{s:St}(r:Rt s){a b:Int}(h1:0≤a)(h2:0≤b)(h3:a<s.fl)(h4:b<s.fl)(h5:a≠b):
  NumM.sumL [s.sta,NumM.cl (NumM.cl s.ste*NumM.cl (dist a b)),s.sto]=trav s a b:=by
 have d:=dist_bd r h1 h2 h3 h4;have:=step_bd r d.1 d.2;have:=r.ste1;have:=r.ste2;have:=r.sta1;have:=r.sta2;have:=r.sto1;have:=r.sto2;rw[mulC (A:=1000) (B:=63) (by omega) (by omega) d.1 d.2 (by omega) (by omega) (by omega),sumL3 (by omega) (by omega) (by omega) (by omega),trav_in h1 h2 h3 h4 h5]
end SM
namespace PM
def bt(m c:Nat):Bool:=m/2^c%2==1
def sm:Nat→(Nat→Nat)→Nat
 |0,_=>0
 |n+1,f=>sm n f+f n
def inc(t:Nat→Nat)(c:Nat):Nat→Nat:=fun i=>if i=c then t i+1 else t i
def kp(n:Nat):(Nat→Nat)→List Nat→List Bool→Nat
 |t,m::ms,b::st=>if b then kp n t ms st else sm n (fun c=>if bt m c then t c*kp n (inc t c) ms st else 0)
 |_,_,_=>1
def up:Nat→Nat→Nat
 |_,0=>1
 |T,k+1=>T*up (T+1) k
end PM
namespace PM
def okx(ms:List Nat)(c:Nat)(x:Int):Bool:=decide (0≤x)&&decide (x<ms.length)&&bt (ms[x.toNat]?.getD 0) c
theorem okx_iff{ms:List Nat}{c:Nat}{x:Int}:okx ms c x=true↔0≤x∧x<ms.length∧bt (ms[x.toNat]?.getD 0) c=true:=by
 unfold okx;simp[and_assoc]
def nb(st:List Bool)(w:Nat):Nat:=if st[w]?=some true then 1 else 0
theorem nb_set{st:List Bool}{w v:Nat}(hv:v<st.length)(h:st[v]?=some false):nb (st.set v true) w=nb st w+if w=v then 1 else 0:=by
 unfold nb;by_cases e:w=v
 ·subst e;rw[List.getElem?_set_self hv,h];simp
 ·rw[List.getElem?_set_ne (Ne.symm e)];simp[e]
theorem nb_true{st:List Bool}{w:Nat}(h:st[w]?=some true):nb st w=1:=by unfold nb;rw[if_pos h]
theorem nb_false{st:List Bool}{w:Nat}(h:st[w]?=some false):nb st w=0:=by unfold nb;rw[h];simp
theorem nb_rep(n w:Nat):nb (List.replicate n false) w=0:=by
 unfold nb;rw[List.getElem?_replicate];split<;>simp
def run1(ms:List Nat)(c:Nat):List Bool→List Int→Option (List Bool)
 |st,[]=>some st
 |st,x::l=>if okx ms c x=true∧st[x.toNat]?=some false then run1 ms c (st.set x.toNat true) l else none
def runs(ms:List Nat):Nat→List Bool→List (List Int)→Option (List Bool)
 |_,st,[]=>some st
 |c,st,l::p=>(run1 ms c st l).bind fun st'=>runs ms (c+1) st' p
def feas(ms:List Nat)(p:List (List Int)):Bool:=((runs ms 0 (List.replicate ms.length false) p).map (fun st=>st.all id)).getD false
def cnt1(ms:List Nat)(c:Nat):List Nat→List Int→Option (List Nat)
 |ct,[]=>some ct
 |ct,x::l=>if okx ms c x=true then cnt1 ms c (ct.set x.toNat (ct[x.toNat]?.getD 0+1)) l else none
def cnts(ms:List Nat):Nat→List Nat→List (List Int)→Option (List Nat)
 |_,ct,[]=>some ct
 |c,ct,l::p=>(cnt1 ms c ct l).bind fun ct'=>cnts ms (c+1) ct' p
structure Fz(ms:List Nat)(p:List (List Int)):Prop where
 ok:∀(c:Nat) l,p[c]?=some l→∀x∈l,okx ms c x=true
 once:∀w,w<ms.length→p.flatten.count (w:Int)=1
theorem cast_nat{x:Int}{w:Nat}(hx:0≤x):(x=(w:Int))↔w=x.toNat:=by omega
theorem run1_some{ms:List Nat}{c:Nat}:∀{l:List Int} {st st':List Bool},st.length=ms.length→run1 ms c st l=some st'→
  (∀x∈l,okx ms c x=true)∧st'.length=ms.length∧∀w,w<ms.length→nb st' w=nb st w+l.count (w:Int)
 |[],st,st',hl,h=>by
  simp only[run1,Option.some.injEq]at h;subst h;exact⟨by simp,hl,by simp⟩
 |x::l,st,st',hl,h=>by
  rw[run1]at h;split at h
  ·rename_i hq;obtain⟨h1,h2,h3⟩:=run1_some (by rw[List.length_set];exact hl) h;obtain⟨k1,k2,_⟩:=okx_iff.1 hq.1;refine⟨fun y hy=> ?_,h2,fun w hw=> ?_⟩
   ·rcases List.mem_cons.1 hy with rfl|hy
    ·exact hq.1
    ·exact h1 y hy
   ·rw[h3 w hw,nb_set (by omega) hq.2,List.count_cons]
    have:(x==(w:Int))=decide (w=x.toNat):=by
     rw[Bool.eq_iff_iff];simp[cast_nat k1]
    rw[this];simp only[decide_eq_true_eq];omega
  ·cases h
theorem run1_ok{ms:List Nat}{c:Nat}:∀{l:List Int} {st:List Bool},st.length=ms.length→(∀x∈l,okx ms c x=true)→(∀w,w<ms.length→nb st w+l.count (w:Int)≤1)→∃st',run1 ms c st l=some st'
 |[],st,_,_,_=>⟨st,rfl⟩
 |x::l,st,hl,hk,hc=>by
  obtain⟨k1,k2,_⟩:=okx_iff.1 (hk x (by simp));have hcx:=hc x.toNat (by omega);rw[Int.toNat_of_nonneg k1,List.count_cons_self]at hcx
  have hst:st[x.toNat]?=some false:=by
   have hlt:x.toNat<st.length:=by omega
   rw[List.getElem?_eq_getElem hlt];cases e:st[x.toNat]
   ·rfl
   ·exfalso;have:nb st x.toNat=1:=nb_true (by rw[List.getElem?_eq_getElem hlt,e]);omega
  rw[run1,if_pos ⟨hk x (by simp),hst⟩];refine run1_ok (by rw[List.length_set];exact hl) (fun y hy=>hk y (by simp[hy])) fun w hw=> ?_;rw[nb_set (by omega) hst];have:=hc w hw;rw[List.count_cons]at this
  have e:(x==(w:Int))=decide (w=x.toNat):=by
   rw[Bool.eq_iff_iff];simp[cast_nat k1]
  rw[e]at this;simp only[decide_eq_true_eq]at this;omega
theorem runs_some{ms:List Nat}:∀{p:List (List Int)} {c:Nat} {st st':List Bool},st.length=ms.length→runs ms c st p=some st'→
  (∀(d:Nat) l,p[d]?=some l→∀x∈l,okx ms (c+d) x=true)∧st'.length=ms.length∧∀w,w<ms.length→nb st' w=nb st w+p.flatten.count (w:Int)
 |[],c,st,st',hl,h=>by
  simp only[runs,Option.some.injEq]at h;subst h;exact⟨by simp,hl,by simp⟩
 |l::p,c,st,st',hl,h=>by
  rw[runs,Option.bind_eq_some_iff]at h;obtain⟨s1,h1,h2⟩:=h;obtain⟨a1,a2,a3⟩:=run1_some hl h1;obtain⟨b1,b2,b3⟩:=runs_some a2 h2;refine⟨fun d l' hd x hx=> ?_,b2,fun w hw=> ?_⟩
  ·cases d with
   |zero=>simp only[List.getElem?_cons_zero,Option.some.injEq]at hd;subst hd;exact a1 x hx
   |succ d=>
    rw[List.getElem?_cons_succ]at hd;have:=b1 d l' hd x hx;rwa[show c+1+d=c+(d+1) by omega]at this
  ·rw[b3 w hw,a3 w hw,List.flatten_cons,List.count_append];omega
theorem runs_ok{ms:List Nat}:∀{p:List (List Int)} {c:Nat} {st:List Bool},st.length=ms.length→(∀(d:Nat) l,p[d]?=some l→∀x∈l,okx ms (c+d) x=true)→(∀w,w<ms.length→nb st w+p.flatten.count (w:Int)≤1)→∃st',runs ms c st p=some st'
 |[],_,st,_,_,_=>⟨st,rfl⟩
 |l::p,c,st,hl,hk,hc=>by
  obtain⟨s1,h1⟩:=run1_ok (c:=c) hl (hk 0 l rfl) (fun w hw=>by have:=hc w hw;rw[List.flatten_cons,List.count_append]at this;omega);obtain⟨_,a2,a3⟩:=run1_some hl h1;rw[runs,h1];refine runs_ok a2 (fun d l' hd x hx=> ?_) (fun w hw=> ?_)
  ·have:=hk (d+1) l' hd x hx;rwa[show c+(d+1)=c+1+d by omega]at this
  ·have:=hc w hw;rw[List.flatten_cons,List.count_append]at this;rw[a3 w hw];omega
theorem feas_iff{ms:List Nat}{p:List (List Int)}:feas ms p=true↔Fz ms p:=by
 unfold feas;constructor
 ·intro h;cases e:runs ms 0 (List.replicate ms.length false) p with
  |none=>rw[e]at h;simp at h
  |some st=>
   rw[e]at h;simp only[Option.map_some,Option.getD_some]at h;obtain⟨h1,h2,h3⟩:=runs_some (by simp) e;refine⟨fun c l hl x hx=>by have:=h1 c l hl x hx;rwa[Nat.zero_add]at this,fun w hw=> ?_⟩;have h4:=h3 w hw;rw[nb_rep,Nat.zero_add]at h4;rw[←h4];refine nb_true ?_;rw[List.getElem?_eq_getElem (by omega)];have:=List.all_eq_true.1 h (st[w]'(by omega)) (List.getElem_mem _);rw[id_eq]at this;rw[this]
 ·intro h;obtain⟨st,e⟩:=runs_ok (ms:=ms) (c:=0) (st:=List.replicate ms.length false) (by simp) (fun d l hd x hx=>by rw[Nat.zero_add];exact h.ok d l hd x hx) (fun w hw=>by rw[nb_rep,h.once w hw];omega);obtain⟨_,h2,h3⟩:=runs_some (ms:=ms) (by simp) e;rw[e];simp only[Option.map_some,Option.getD_some];refine List.all_eq_true.2 fun b hb=> ?_;obtain⟨i,hi,rfl⟩:=List.getElem_of_mem hb;have:=h3 i (by omega);rw[nb_rep,h.once i (by omega)]at this;unfold nb at this;split at this
  ·rename_i hq;rw[List.getElem?_eq_getElem hi]at hq;simpa using hq
  ·omega
def meTo(ms:List Nat)(st:List Bool)(c k:Nat):Bool:=(List.range k).all fun w=> !(st[w]?==some false&&(ms[w]?.getD 0)/2^(c+1)==0)
theorem meTo_iff{ms:List Nat}{st:List Bool}{c k:Nat}:meTo ms st c k=true↔∀w,w<k→st[w]?=some false→(ms[w]?.getD 0)/2^(c+1)≠0:=by
 unfold meTo;rw[List.all_eq_true];constructor
 ·intro h w hw hs e;have:=h w (List.mem_range.2 hw);simp[hs]at this;simp at e;omega
 ·intro h w hw;have:=h w (List.mem_range.1 hw);by_cases hs:st[w]?=some false
  ·have:=this hs;simp[hs];simp at this;omega
  ·simp[hs]
def add(ls:List (List Int))(c:Nat)(x:Int):List (List Int):=ls.set c (ls[c]?.getD []++[x])
def lf(st:List Bool):Nat:=st.count false
theorem lf_set:∀{st:List Bool} {w:Nat},st[w]?=some false→lf (st.set w true)+1=lf st
 |[],_,h=>by simp at h
 |b::st,0,h=>by simp at h;subst h;simp[lf]
 |b::st,w+1,h=>by
  have:=lf_set (st:=st) (w:=w) (by simpa using h);unfold lf at this⊢;rw[List.set_cons_succ,List.count_cons,List.count_cons];omega
structure Iv(n:Nat)(ms:List Nat)(c:Nat)(st:List Bool)(ls:List (List Int)):Prop where
 ll:ls.length=n
 sl:st.length=ms.length
 cl:c≤n
 ok:∀(d:Nat) l,ls[d]?=some l→∀x∈l,okx ms d x=true
 cn:∀w,w<ms.length→ls.flatten.count (w:Int)=nb st w
 em:∀d,c<d→ls[d]?.getD []=[]
 en:c=n→∀b∈st,b=true
theorem count_add:∀{ls:List (List Int)} {c:Nat} {x y:Int},c<ls.length→(add ls c x).flatten.count y=ls.flatten.count y+if x=y then 1 else 0
 |[],_,_,_,h=>by simp at h
 |l::ls,0,x,y,_=>by
  simp only[add,List.getElem?_cons_zero,Option.getD_some,List.set_cons_zero,List.flatten_cons,List.count_append,List.count_singleton];by_cases e:x=y
  ·subst e;simp;omega
  ·simp[e,beq_eq_false_iff_ne.2 e]
 |l::ls,c+1,x,y,h=>by
  have:=count_add (ls:=ls) (c:=c) (x:=x) (y:=y) (by simpa using h);simp only[add,List.getElem?_cons_succ,List.set_cons_succ,List.flatten_cons,List.count_append]at this⊢;omega
section
variable {n:Nat} {ms:List Nat} {c:Nat} {st:List Bool} {ls:List (List Int)}
theorem Iv.take(h:Iv n ms c st ls)(hc:c≠n){w:Nat}(hs:st[w]?=some false)(hb:bt (ms[w]?.getD 0) c=true):Iv n ms c (st.set w true) (add ls c w):=by
 have hw:w<st.length:=(List.getElem?_eq_some_iff.1 hs).1;have hcl:c<ls.length:=by have:=h.cl;have:=h.ll;omega
 refine⟨by unfold add;rw[List.length_set];exact h.ll,by rw[List.length_set];exact h.sl,h.cl,fun d l hd x hx=> ?_,fun v hv=> ?_,fun d hd=> ?_,fun e=>absurd e hc⟩
 ·unfold add at hd;by_cases e:c=d
  ·subst e;rw[List.getElem?_set_self hcl]at hd;simp only[Option.some.injEq]at hd;subst hd;rcases List.mem_append.1 hx with hx|hx
   ·rw[List.getElem?_eq_getElem hcl]at hx;exact h.ok c _ (List.getElem?_eq_getElem hcl) x hx
   ·simp at hx;subst hx;rw[okx_iff];have:=h.sl;exact⟨by omega,by omega,by simpa using hb⟩
  ·rw[List.getElem?_set_ne e]at hd;exact h.ok d l hd x hx
 ·rw[count_add hcl,h.cn v hv,nb_set hw hs]
  congr 1
  by_cases e:v=w
  ·subst e;simp
  ·rw[if_neg e,if_neg (by omega)]
 ·unfold add;rw[List.getElem?_set_ne (by omega)];exact h.em d hd
theorem Iv.done(h:Iv n ms c st ls)(hc:c≠n)(hm:∀m∈ms,m<2^n)(he:meTo ms st c ms.length=true):Iv n ms (c+1) st ls:=by
 refine⟨h.ll,h.sl,by have:=h.cl;omega,h.ok,h.cn,fun d hd=>h.em d (by omega),fun e b hb=> ?_⟩;obtain⟨i,hi,rfl⟩:=List.getElem_of_mem hb;cases hq:st[i]
 ·exfalso;have hsl:=h.sl;have:=meTo_iff.1 he i (by omega) (by rw[List.getElem?_eq_getElem hi,hq]);rw[e,List.getElem?_eq_getElem (by omega),Option.getD_some]at this;exact this (Nat.div_eq_of_lt (hm _ (List.getElem_mem _)))
 ·rfl
theorem Iv.zero(n:Nat)(hn:0<n)(ms:List Nat):Iv n ms 0 (List.replicate ms.length false) (List.replicate n []):=by
 refine⟨by simp,by simp,by omega,fun d l hd x hx=> ?_,fun w hw=> ?_,fun d _=> ?_,fun e=>by omega⟩
 ·rw[List.getElem?_replicate]at hd;split at hd
  ·simp at hd;subst hd;simp at hx
  ·cases hd
 ·rw[nb_rep];simp
 ·rw[List.getElem?_replicate];split<;>rfl
end
def tt(c:Nat):Nat→Nat:=fun i=>if c≤i then 1 else 0
def wr(m:Nat)(p:List (List Int)):List Int:=p.flatMap fun l=>l++[(m:Int)]
def pf(m c:Nat)(ls:List (List Int)):List Int:=wr m (ls.take c)++ls[c]?.getD []
end PM
open Go.RowKit
theorem within_any(a:Int)(w:World):
  Calls Tryz.prog 84 #[.int .i64 a] w fun e w'=>e=.returned (.int .i64 (NumM.cl a))∧w'=w:=by
 go_enter Tryz.func84,Tryz.ntmps84
 go_wp2
 all_goals
  go_ret;exact⟨ret_int (by unfold NumM.cl;(repeat' split);all_goals omega),rfl⟩
theorem size_any(a:Int)(w:World)(h1: -1099511627776≤a)(h2:a≤1099511627776):
  Calls Tryz.prog 153 #[.int .i64 a] w fun e w'=>e=.returned (.int .i64 (NumM.sz a))∧w'=w:=by
 go_enter Tryz.func153,Tryz.ntmps153
 go_wp2
 all_goals
  go_ret;exact⟨ret_int (by unfold NumM.sz;split<;>omega),rfl⟩
theorem add_any(a b:Int)(w:World):
  Calls Tryz.prog 58 #[.int .i64 a,.int .i64 b] w fun e w'=>e=.returned (.int .i64 (NumM.cl (NumM.cl a+NumM.cl b)))∧w'=w:=by
 obtain⟨a1,a2⟩:=NumM.cl_bd a;obtain⟨b1,b2⟩:=NumM.cl_bd b
 go_enter Tryz.func58,Tryz.ntmps58
 go_wp2_with (go_at_call 84;refine (within_any _ _).mono ?_;rintro e w' ⟨rfl,rfl⟩)
 go_ret;exact⟨rfl,rfl⟩
theorem mul_any(a b:Int)(w:World):
  Calls Tryz.prog 122 #[.int .i64 a,.int .i64 b] w fun e w'=>e=.returned (.int .i64 (NumM.cl (NumM.cl a*NumM.cl b)))∧w'=w:=by
 obtain⟨a1,a2⟩:=NumM.cl_bd a;obtain⟨b1,b2⟩:=NumM.cl_bd b;have s1:=NumM.sz_nonneg (NumM.cl a);have s2:=NumM.sz_nonneg (NumM.cl b);by_cases h0:NumM.cl a=0
 ·have hb:(NumM.cl a !=0)=false:=by simp[h0]
  have H0:Hid (NumM.cl a=0):=h0;have hm:=NumM.mul_small (b:=NumM.cl b) (Or.inl h0);clear h0
  go_enter Tryz.func122,Tryz.ntmps122
  go_wp2_with (first|(go_at_call 84;refine (within_any _ _).mono ?_;rintro e w' ⟨rfl,rfl⟩)|(go_at_call 153;refine (size_any _ _ (by omega) (by omega)).mono ?_;rintro e w' ⟨rfl,rfl⟩))
  go_ret;exact⟨ret_int (by rw[NumM.cl_in hm.1 hm.2]),rfl⟩
 ·have hb:(NumM.cl a !=0)=true:=by simp[h0]
  have s3:=NumM.sz_pos h0;by_cases hq:NumM.sz (NumM.cl b)≤1099511627776/NumM.sz (NumM.cl a)
  ·have hm:=NumM.mul_small (Or.inr hq);clear h0
   go_enter Tryz.func122,Tryz.ntmps122
   go_wp2_with (first|(go_at_call 84;refine (within_any _ _).mono ?_;rintro e w' ⟨rfl,rfl⟩)|(go_at_call 153;refine (size_any _ _ (by omega) (by omega)).mono ?_;rintro e w' ⟨rfl,rfl⟩))
   go_ret;exact⟨ret_int (by rw[NumM.cl_in hm.1 hm.2]),rfl⟩
  ·have hq':1099511627776/NumM.sz (NumM.cl a)<NumM.sz (NumM.cl b):=by omega
   have HM:Hid (NumM.cl (NumM.cl a*NumM.cl b)=if(NumM.cl a<0)≠(NumM.cl b<0)then -1099511627776 else 1099511627776):=NumM.cl_mul_pass h0 hq';clear h0 hq;rcases Bool.eq_false_or_eq_true (decide (NumM.cl a<0))with xa|xa<;>rcases Bool.eq_false_or_eq_true (decide (NumM.cl b<0))with xb|xb
   all_goals
    go_enter Tryz.func122,Tryz.ntmps122
    go_wp2_with (first|(go_at_call 84;refine (within_any _ _).mono ?_;rintro e w' ⟨rfl,rfl⟩)|(go_at_call 153;refine (size_any _ _ (by omega) (by omega)).mono ?_;rintro e w' ⟨rfl,rfl⟩))
    go_ret;exact⟨ret_int (by rw[HM.out];simp only[decide_eq_true_eq,decide_eq_false_iff_not]at xa xb;simp[xa,xb]),rfl⟩
theorem take_snoc_i(zs:List Int)(k:Nat)(h:k<zs.length):zs.take (k+1)=zs.take k++[zs[k]?.getD 0]:=by
 rw[List.take_succ_eq_append_getElem h];simp[h]
theorem sum_take(zs:List Int)(k:Nat)(h:k<zs.length):NumM.cl (NumM.cl (NumM.sumL (zs.take k))+NumM.cl (zs[k]?.getD 0))=NumM.sumL (zs.take (k+1)):=by
 rw[take_snoc_i zs k h,NumM.sumL_snoc]
theorem sum_any(b off len cap:Nat)(zs:List Int)(w:World)(hl:len≤zs.length)(hm:len≤1000000)
  (hc:∀i,i<len→w.cell? ⟨b,off+i,none⟩=some (.int .i64 (zs[i]?.getD 0))):
  Calls Tryz.prog 92 #[.slice (some ⟨b,off,none⟩) len cap] w fun e w'=>e=.returned (.int .i64 (NumM.sumL (zs.take len)))∧w'=w:=by
 go_enter Tryz.func92,Tryz.ntmps92
 go_wp2
 go_loop [3,8] (fun t i=>∃k:Nat,k≤len∧i=.int .i64 k∧t=.int .i64 (NumM.sumL (zs.take k))) (fun _ i=>len-(intOf i).toNat)
 case atStart=>exact⟨0,Nat.zero_le _,rfl,rfl⟩
 case round=>
  obtain⟨k,hk,rfl,rfl⟩:=hrel;by_cases hlt:k<len
  ·have hcell:=hc k hlt;have HS:Hid (NumM.cl (NumM.cl (NumM.sumL (zs.take k))+NumM.cl (zs[k]?.getD 0))=NumM.sumL (zs.take (k+1))):=sum_take zs k (by omega);clear hc
   go_wp2_with (go_at_call 58;refine (add_any _ _ _).mono ?_;rintro e w' ⟨rfl,rfl⟩)
   go_round
   case rel=>exact⟨k+1,by omega,by go_num,by rw[HS.out]⟩
   case measure=>simp[intOf];omega
  ·obtain rfl:k=len:=by omega
   clear hc;go_wp2;go_ret;exact⟨rfl,rfl⟩
theorem new_drew(W:World)(o:Obj)(n:Nat)(hn:W.heap.size=n):((W.alloc o).drew).heap[n]?=some o:=by subst hn;exact World.alloc_heap_new W o
theorem new_at(W:World)(o:Obj)(n:Nat)(hn:W.heap.size=n):(W.alloc o).heap[n]?=some o:=by subst hn;exact World.alloc_heap_new W o
theorem sum_row(W:World)(n:Nat)(zs:List Int)(L C:Nat)(hl:zs.length=L)(hm:L≤100)(hn:W.heap[n]?=some (.cells (zs.map fun z=>Value.int .i64 z).toArray 3)):
  Calls Tryz.prog 92 #[.slice (some ⟨n,0,none⟩) L C] W fun e w'=>e=.returned (.int .i64 (NumM.sumL zs))∧w'=W:=by
 subst hl
 have:=sum_any n 0 zs.length C zs W (Nat.le_refl _) (by omega) (fun i hi=>by
  rw[Nat.zero_add];have e:W.cell? ⟨n,i,none⟩=(zs.map fun z=>Value.int .i64 z).toArray[i]?:=by unfold World.cell?;rw[hn];rfl
  rw[e]
  simp[hi])
 rwa[List.take_length]at this
theorem sum3(W:World)(n:Nat)(x y z:Int)(C:Nat)(hn:W.heap[n]?=some (.cells #[.int .i64 x,.int .i64 y,.int .i64 z] 3)):
  Calls Tryz.prog 92 #[.slice (some ⟨n,0,none⟩) 3 C] W fun e w'=>e=.returned (.int .i64 (NumM.sumL [x,y,z]))∧w'=W:=
 sum_row W n [x,y,z] 3 C rfl (by omega) hn
theorem travel_out(s:St)(a b:Int)(w:World)(HO:Hid (a<0∨b<0∨s.fl≤a∨s.fl≤b∨a=b)):
  Calls Tryz.prog 87 #[.agg (sv s).toArray,.int .i64 a,.int .i64 b] w fun e w'=>e=.returned (.int .i64 (SM.trav s a b))∧Below w.heap.size w w':=by
 have n0:=SB.new w s;have hc0:(w.alloc (.cells (sv s).toArray 23)).cell? ⟨w.heap.size,0,none⟩=some (.int .i64 s.fl):=n0.cell 0;have HB:Hid (Below w.heap.size w (w.alloc (.cells (sv s).toArray 23))):=Hd ((Below.refl _ w).alloc (Nat.le_refl _) _);have HT:=Hd (SM.trav_out HO.out);clear n0
 go_enter Tryz.func87,Tryz.ntmps87
 go_wp2
 all_goals first
  |(go_ret;exact⟨ret_int HT.out.symm,HB.out⟩)
  |(exfalso;have:=HO.out;simp only[beq_eq_false_iff_ne]at*;omega)
theorem travel_up(s:St)(a b:Int)(w:World)(h2:b<s.fl)(f1:s.fl≤64)(h1:0≤a)(hlt:a<b)(HS:Hid (NumM.sumL [s.sta,NumM.cl (NumM.cl s.ste*NumM.cl (b-a)),s.sto]=SM.trav s a b)):
  Calls Tryz.prog 87 #[.agg (sv s).toArray,.int .i64 a,.int .i64 b] w fun e w'=>e=.returned (.int .i64 (SM.trav s a b))∧Below w.heap.size w w':=by
 have n0:=SB.new w s;have hc0:(w.alloc (.cells (sv s).toArray 23)).cell? ⟨w.heap.size,0,none⟩=some (.int .i64 s.fl):=n0.cell 0;have hc2:(w.alloc (.cells (sv s).toArray 23)).cell? ⟨w.heap.size,2,none⟩=some (.int .i64 s.sta):=n0.cell 2;have hc3:(w.alloc (.cells (sv s).toArray 23)).cell? ⟨w.heap.size,3,none⟩=some (.int .i64 s.ste):=n0.cell 3;have hc4:(w.alloc (.cells (sv s).toArray 23)).cell? ⟨w.heap.size,4,none⟩=some (.int .i64 s.sto):=n0.cell 4;have HB:Hid (Below w.heap.size w (w.alloc (.cells (sv s).toArray 23))):=Hd ((Below.refl _ w).alloc (Nat.le_refl _) _);have hx:(a==b)=false:=by simp;omega
 clear n0
 go_enter Tryz.func87,Tryz.ntmps87
 go_wp2
 go_region_held3 (fun w'=>w'.cell? ⟨w.heap.size,2,none⟩=some (.int .i64 s.sta)∧w'.cell? ⟨w.heap.size,3,none⟩=some (.int .i64 s.ste)∧w'.cell? ⟨w.heap.size,4,none⟩=some (.int .i64 s.sto)) (go_keep) (first|(go_at_call 122;refine (mul_any _ _ _).mono ?_;rintro e w' ⟨rfl,rfl⟩)|(go_at_call 92;refine (sum3 _ _ _ _ _ _ (new_drew _ _ _ (World.size_alloc _ _))).mono ?_;rintro e w' ⟨rfl,rfl⟩))
 go_wp2;go_ret;exact⟨ret_int (by rw[IntWalk.i64_in _ ⟨by omega,by omega⟩];exact HS.out),(HB.out.alloc (by simp) _).drew⟩
theorem travel_down(s:St)(a b:Int)(w:World)(h2:a<s.fl)(f1:s.fl≤64)(h1:0≤b)(hlt:b<a)(HS:Hid (NumM.sumL [s.sta,NumM.cl (NumM.cl s.ste*NumM.cl (a-b)),s.sto]=SM.trav s a b)):
  Calls Tryz.prog 87 #[.agg (sv s).toArray,.int .i64 a,.int .i64 b] w fun e w'=>e=.returned (.int .i64 (SM.trav s a b))∧Below w.heap.size w w':=by
 have n0:=SB.new w s;have hc0:(w.alloc (.cells (sv s).toArray 23)).cell? ⟨w.heap.size,0,none⟩=some (.int .i64 s.fl):=n0.cell 0;have hc2:(w.alloc (.cells (sv s).toArray 23)).cell? ⟨w.heap.size,2,none⟩=some (.int .i64 s.sta):=n0.cell 2;have hc3:(w.alloc (.cells (sv s).toArray 23)).cell? ⟨w.heap.size,3,none⟩=some (.int .i64 s.ste):=n0.cell 3;have hc4:(w.alloc (.cells (sv s).toArray 23)).cell? ⟨w.heap.size,4,none⟩=some (.int .i64 s.sto):=n0.cell 4;have HB:Hid (Below w.heap.size w (w.alloc (.cells (sv s).toArray 23))):=Hd ((Below.refl _ w).alloc (Nat.le_refl _) _);have hx:(b==a)=false:=by simp;omega
 clear n0
 go_enter Tryz.func87,Tryz.ntmps87
 go_wp2
 go_region_held3 (fun w'=>w'.cell? ⟨w.heap.size,2,none⟩=some (.int .i64 s.sta)∧w'.cell? ⟨w.heap.size,3,none⟩=some (.int .i64 s.ste)∧w'.cell? ⟨w.heap.size,4,none⟩=some (.int .i64 s.sto)) (go_keep) (first|(go_at_call 122;refine (mul_any _ _ _).mono ?_;rintro e w' ⟨rfl,rfl⟩)|(go_at_call 92;refine (sum3 _ _ _ _ _ _ (new_drew _ _ _ (World.size_alloc _ _))).mono ?_;rintro e w' ⟨rfl,rfl⟩))
 go_wp2;go_ret;exact⟨ret_int (by rw[IntWalk.i64_in _ ⟨by omega,by omega⟩];exact HS.out),(HB.out.alloc (by simp) _).drew⟩
theorem travel_any(s:St)(r:SM.Rt s)(a b:Int)(w:World):
  Calls Tryz.prog 87 #[.agg (sv s).toArray,.int .i64 a,.int .i64 b] w fun e w'=>e=.returned (.int .i64 (SM.trav s a b))∧Below w.heap.size w w':=by
 by_cases hout:a<0∨b<0∨s.fl≤a∨s.fl≤b∨a=b
 ·exact travel_out s a b w hout
 ·have f1:=r.fl2;have hne:¬a=b:=by omega
  have HS:=SM.travel_sum r (a:=a) (b:=b) (by omega) (by omega) (by omega) (by omega) hne;unfold SM.dist at HS;rcases Int.lt_or_lt_of_ne hne with hlt|hlt
  ·rw[if_pos hlt]at HS;exact travel_up s a b w (by omega) f1 (by omega) hlt HS
  ·rw[if_neg (by omega)]at HS;exact travel_down s a b w (by omega) f1 (by omega) hlt HS
theorem SB.c0{W:World}{b:Nat}{s:St}(h:SB W b s):W.cell? ⟨b,0,none⟩=some (.int .i64 s.fl):=h.cell 0
theorem SB.c2{W:World}{b:Nat}{s:St}(h:SB W b s):W.cell? ⟨b,2,none⟩=some (.int .i64 s.sta):=h.cell 2
theorem SB.c3{W:World}{b:Nat}{s:St}(h:SB W b s):W.cell? ⟨b,3,none⟩=some (.int .i64 s.ste):=h.cell 3
theorem SB.c4{W:World}{b:Nat}{s:St}(h:SB W b s):W.cell? ⟨b,4,none⟩=some (.int .i64 s.sto):=h.cell 4
theorem SB.c5{W:World}{b:Nat}{s:St}(h:SB W b s):W.cell? ⟨b,5,none⟩=some (.int .i64 s.opn):=h.cell 5
theorem SB.c6{W:World}{b:Nat}{s:St}(h:SB W b s):W.cell? ⟨b,6,none⟩=some (.int .i64 s.wai):=h.cell 6
theorem SB.c7{W:World}{b:Nat}{s:St}(h:SB W b s):W.cell? ⟨b,7,none⟩=some (.int .i64 s.clo):=h.cell 7
theorem SB.c8{W:World}{b:Nat}{s:St}(h:SB W b s):W.cell? ⟨b,8,none⟩=some (.int .i64 s.nud):=h.cell 8
theorem SB.c9{W:World}{b:Nat}{s:St}(h:SB W b s):W.cell? ⟨b,9,none⟩=some (.int .i64 s.age):=h.cell 9
theorem SB.c12{W:World}{b:Nat}{s:St}(h:SB W b s):W.cell? ⟨b,12,none⟩=some (.int .i64 s.per):=h.cell 12
def bdl(s:St):List (Int×Int×Int):=[(s.fl,2,64),(s.ca,1,8),(s.sta,0,1000),(s.ste,1,1000),(s.sto,0,1000),(s.opn,1,1000),(s.wai,1,1000),(s.clo,1,1000),(s.nud,0,10),(s.age,1,1000000),(s.sil,1,1000000),(s.bud,1,1000000),(s.per,1,1000)]
def okB(x:Int×Int×Int):Bool:=decide (x.2.1≤x.1)&&decide (x.1≤x.2.2)
def rightB(s:St):Bool:=(bdl s).all okB
theorem rightB_iff(s:St):rightB s=true↔SM.Rt s:=by
 simp only[rightB,bdl,List.all_cons,List.all_nil,okB,Bool.and_eq_true,decide_eq_true_eq,Bool.and_true];constructor
 ·rintro⟨⟨_,_⟩,⟨_,_⟩,⟨_,_⟩,⟨_,_⟩,⟨_,_⟩,⟨_,_⟩,⟨_,_⟩,⟨_,_⟩,⟨_,_⟩,⟨_,_⟩,⟨_,_⟩,⟨_,_⟩,⟨_,_⟩⟩;constructor<;>assumption
 ·intro r;exact⟨⟨r.fl1,r.fl2⟩,⟨r.ca1,r.ca2⟩,⟨r.sta1,r.sta2⟩,⟨r.ste1,r.ste2⟩,⟨r.sto1,r.sto2⟩,⟨r.opn1,r.opn2⟩,⟨r.wai1,r.wai2⟩,⟨r.clo1,r.clo2⟩,⟨r.nud1,r.nud2⟩,⟨r.age1,r.age2⟩,⟨r.sil1,r.sil2⟩,⟨r.bud1,r.bud2⟩,⟨r.per1,r.per2⟩⟩
theorem rightB_true{s:St}(r:SM.Rt s):rightB s=true:=(rightB_iff s).2 r
theorem rightB_false{s:St}(r:¬SM.Rt s):rightB s=false:=by
 cases h:rightB s
 ·rfl
 ·exact absurd ((rightB_iff s).1 h) r
theorem ret_bool{a b:Bool}(h:a=b):Ending.returned (.bool a)=.returned (.bool b):=by rw[h]
theorem rright_any(s:St)(w:World):
  Calls Tryz.prog 9 #[.agg (sv s).toArray] w fun e w'=>e=.returned (.bool (rightB s))∧Below w.heap.size w w':=by
 have n0:=SB.new w s;have hc0:(w.alloc (.cells (sv s).toArray 23)).cell? ⟨w.heap.size,0,none⟩=some (.int .i64 s.fl):=n0.cell 0;have hc1:(w.alloc (.cells (sv s).toArray 23)).cell? ⟨w.heap.size,1,none⟩=some (.int .i64 s.ca):=n0.cell 1;have hc2:(w.alloc (.cells (sv s).toArray 23)).cell? ⟨w.heap.size,2,none⟩=some (.int .i64 s.sta):=n0.cell 2;have hc3:(w.alloc (.cells (sv s).toArray 23)).cell? ⟨w.heap.size,3,none⟩=some (.int .i64 s.ste):=n0.cell 3;have hc4:(w.alloc (.cells (sv s).toArray 23)).cell? ⟨w.heap.size,4,none⟩=some (.int .i64 s.sto):=n0.cell 4;have hc5:(w.alloc (.cells (sv s).toArray 23)).cell? ⟨w.heap.size,5,none⟩=some (.int .i64 s.opn):=n0.cell 5;have hc6:(w.alloc (.cells (sv s).toArray 23)).cell? ⟨w.heap.size,6,none⟩=some (.int .i64 s.wai):=n0.cell 6;have hc7:(w.alloc (.cells (sv s).toArray 23)).cell? ⟨w.heap.size,7,none⟩=some (.int .i64 s.clo):=n0.cell 7;have hc8:(w.alloc (.cells (sv s).toArray 23)).cell? ⟨w.heap.size,8,none⟩=some (.int .i64 s.nud):=n0.cell 8;have hc9:(w.alloc (.cells (sv s).toArray 23)).cell? ⟨w.heap.size,9,none⟩=some (.int .i64 s.age):=n0.cell 9;have hc10:(w.alloc (.cells (sv s).toArray 23)).cell? ⟨w.heap.size,10,none⟩=some (.int .i64 s.sil):=n0.cell 10;have hc11:(w.alloc (.cells (sv s).toArray 23)).cell? ⟨w.heap.size,11,none⟩=some (.int .i64 s.bud):=n0.cell 11;have hc12:(w.alloc (.cells (sv s).toArray 23)).cell? ⟨w.heap.size,12,none⟩=some (.int .i64 s.per):=n0.cell 12;have HB:Hid (Below w.heap.size w (w.alloc (.cells (sv s).toArray 23))):=Hd ((Below.refl _ w).alloc (Nat.le_refl _) _);clear n0
 go_enter Tryz.func9,Tryz.ntmps9
 go_wp2
 all_goals
  clear hc0 hc1 hc2 hc3 hc4 hc5 hc6 hc7 hc8 hc9 hc10 hc11 hc12;go_ret;refine⟨ret_bool ?_,HB.out⟩
 all_goals first
  |(refine (rightB_false ?_).symm;rintro⟨q0,q1,q2,q3,q4,q5,q6,q7,q8,q9,q10,q11,q12,q13,q14,q15,q16,q17,q18,q19,q20,q21,q22,q23,q24,q25⟩;omega)
  |(refine (rightB_true ?_).symm;constructor<;>omega)
  |(rw[Bool.eq_iff_iff,rightB_iff];simp only[decide_eq_true_eq];constructor;(intro h;constructor<;>omega);(rintro⟨q0,q1,q2,q3,q4,q5,q6,q7,q8,q9,q10,q11,q12,q13,q14,q15,q16,q17,q18,q19,q20,q21,q22,q23,q24,q25⟩;omega))
open Go.Shelf
attribute [local go_sem] Oper.semAt_some
def cel3(x:Int×Int×Int):List Value:=[.int .i64 x.1,.int .i64 x.2.1,.int .i64 x.2.2]
def bcells(s:St):List Value:=(bdl s).flatMap cel3
theorem flat3:∀(l:List (Int×Int×Int)) (k:Nat) (x:Int×Int×Int),l[k]?=some x→(l.flatMap cel3)[k*3]?=some (.int .i64 x.1)∧(l.flatMap cel3)[k*3+1]?=some (.int .i64 x.2.1)∧(l.flatMap cel3)[k*3+2]?=some (.int .i64 x.2.2)
 |[],k,x,h=>by simp at h
 |y::l,0,x,h=>by
  simp only[List.getElem?_cons_zero,Option.some.injEq]at h;subst h;simp[cel3]
 |y::l,k+1,x,h=>by
  simp only[List.getElem?_cons_succ]at h;have ih:=flat3 l k x h;rw[show(k+1)*3=k*3+1+1+1 by omega];simp only[List.flatMap_cons,cel3,List.cons_append,List.nil_append,List.getElem?_cons_succ];exact ih
def LB(W:World)(b:Nat)(s:St):Prop:=W.heap[b]?=some (.cells (bcells s).toArray 114 (0,0))
theorem LB.cell{W:World}{b:Nat}{s:St}(h:LB W b s)(i:Nat):W.cell? ⟨b,i,none⟩=(bcells s)[i]?:=by
 simp[World.cell?,show W.heap[b]?=_ from h]
theorem LB.lt{W:World}{b:Nat}{s:St}(h:LB W b s):b<W.heap.size:=(Array.getElem?_eq_some_iff.1 h).1
theorem abides_below{β:Type}{n:Nat}{J:β→World→Prop}(h:AbidesFrom n J){s:β}{A B:World}(hj:J s A)(hb:Below A.heap.size A B):J s B:=
 h s A B none hj ⟨hb.os,hb.tape,hb.output,hb.size,fun k hk _=>hb.block k hk⟩ (fun r e=>by cases e)
def KeepA(W W':World):Prop:=∀(k:Nat) (C:Array Value) (t:TypeId) (fr:Nat×Nat),W.heap[k]?=some (.cells C t fr)→W'.heap[k]?=some (.cells C t fr)
theorem bounds_any(s:St)(w:World):
  Calls Tryz.prog 36 #[.agg (sv s).toArray] w fun e w'=>e=.returned (.func (.func 51) #[] #[.pointer (some ⟨w.heap.size,0,none⟩)])∧
   w'=w.alloc (.cells (sv s).toArray 23):=by
 have hmf:∀(fn:Fn) (first cap:Array Value) (w:World),(Instr.makeFunc fn first cap).run Tryz.prog w=.ok (.func fn first cap) w:=fun _ _ _ _=>rfl
 go_enter Tryz.func36,Tryz.ntmps36
 go_wp2;go_ret;exact⟨rfl,rfl⟩
def encB(x:Int×Int×Int):Array Value:= #[.int .i64 x.1,.agg #[.int .i64 x.2.1,.int .i64 x.2.2]]
theorem bounds1_in(n:Nat)(l Bs:Nat)(s:St)(J Jx:List (Int×Int×Int)→World→Prop)(W:World)(hJ:AbidesFrom W.heap.size J)
  (hY:∀pre x W,J pre W→pre.length<13→YieldAt Fence.wide (n-1) Tryz.prog l (encB x) W fun e W'=>
   (e=.returned (.bool true)∧J (pre++[x]) W'∧KeepA W W')∨(e=.returned (.bool false)∧Jx (pre++[x]) W'))
  (hs:SB W Bs s) (h0:J [] W):
  CallsIn Fence.wide n Tryz.prog 51 #[.func (.yield l) #[] #[],.pointer (some ⟨Bs,0,none⟩)] W fun e W'=>(∃v,e=.returned v)∧
   ((∃ys,ys=bdl s∧J ys W')∨(∃pre,pre<+:bdl s∧Jx pre W')):=by
 refine callsIn_of_wp Tryz.func51 rfl trivial ?_ rfl;simp only[Tryz.ntmps51,List.size_toArray,List.length_cons,List.length_nil,Nat.reduceAdd,Nat.reduceSub,Array.replicate_succ,Array.replicate_zero,List.push_toArray,List.append_toArray,List.nil_append,List.cons_append];have hc0:W.cell? ⟨Bs,0,none⟩=some (.int .i64 s.fl):=hs.cell 0;have hc1:W.cell? ⟨Bs,1,none⟩=some (.int .i64 s.ca):=hs.cell 1;have hc2:W.cell? ⟨Bs,2,none⟩=some (.int .i64 s.sta):=hs.cell 2;have hc3:W.cell? ⟨Bs,3,none⟩=some (.int .i64 s.ste):=hs.cell 3;have hc4:W.cell? ⟨Bs,4,none⟩=some (.int .i64 s.sto):=hs.cell 4;have hc5:W.cell? ⟨Bs,5,none⟩=some (.int .i64 s.opn):=hs.cell 5;have hc6:W.cell? ⟨Bs,6,none⟩=some (.int .i64 s.wai):=hs.cell 6;have hc7:W.cell? ⟨Bs,7,none⟩=some (.int .i64 s.clo):=hs.cell 7;have hc8:W.cell? ⟨Bs,8,none⟩=some (.int .i64 s.nud):=hs.cell 8;have hc9:W.cell? ⟨Bs,9,none⟩=some (.int .i64 s.age):=hs.cell 9;have hc10:W.cell? ⟨Bs,10,none⟩=some (.int .i64 s.sil):=hs.cell 10;have hc11:W.cell? ⟨Bs,11,none⟩=some (.int .i64 s.bud):=hs.cell 11;have hc12:W.cell? ⟨Bs,12,none⟩=some (.int .i64 s.per):=hs.cell 12;have HY:=Hd hY;have HJ:=Hd hJ;have H0:=Hd h0;clear hY hJ h0 hs
 gi_wp2
 gi_loopw [59] (fun i wr=>∃k:Nat,k≤13∧i=.int .i64 k∧J ((bdl s).take k) wr∧LB wr W.heap.size s) (fun i _=>13-(intOf i).toNat)
 case atStart=>exact⟨0,by omega,rfl,abides_below HJ.out H0.out ((Below.refl _ W).alloc (Nat.le_refl _) _),World.alloc_heap_new W _⟩
 case round=>
  obtain⟨k,hk,rfl,hJk,hL⟩:=hrel;clear hc0 hc1 hc2 hc3 hc4 hc5 hc6 hc7 hc8 hc9 hc10 hc11 hc12 H0;by_cases hlt:k<13
  ·obtain⟨x,hx⟩:∃x,(bdl s)[k]?=some x:=⟨_,List.getElem?_eq_getElem (show k<(bdl s).length from hlt)⟩;obtain⟨f1,f2,f3⟩:=flat3 _ _ _ hx;have c1:wr.cell? ⟨W.heap.size,k*3,none⟩=some (.int .i64 x.1):=(hL.cell _).trans f1;have c2:wr.cell? ⟨W.heap.size,k*3+1,none⟩=some (.int .i64 x.2.1):=(hL.cell _).trans f2;have c3:wr.cell? ⟨W.heap.size,k*3+2,none⟩=some (.int .i64 x.2.2):=(hL.cell _).trans f3;have HX:=Hd hx;have HL:=Hd hL;have HJk:=Hd hJk;have hkI:(k:Int)<13:=by omega
   clear f1 f2 f3 hx hL hJk;have hW3:Below wr.heap.size wr (wr.alloc (.cells #[.int .i64 x.1,.int .i64 x.2.1,.int .i64 x.2.2] 114)):=(Below.refl _ wr).alloc (Nat.le_refl _) _;obtain⟨fn,tmps,assign,body,hy,hR⟩:=HY.out ((bdl s).take k) x (wr.alloc (.cells #[.int .i64 x.1,.int .i64 x.2.1,.int .i64 x.2.2] 114)) (abides_below HJ.out HJk.out hW3) (by simp;omega);have hy':(Instr.yield l #[Value.int .i64 x.1,Value.agg #[Value.int .i64 x.2.1,Value.int .i64 x.2.2]]).run Tryz.prog (wr.alloc (.cells #[.int .i64 x.1,.int .i64 x.2.1,.int .i64 x.2.2] 114))=.ok (.round l fn tmps assign body) (wr.alloc (.cells #[.int .i64 x.1,.int .i64 x.2.1,.int .i64 x.2.2] 114)):=hy;have HL3:=Hd (show LB (wr.alloc (.cells #[.int .i64 x.1,.int .i64 x.2.1,.int .i64 x.2.2] 114)) W.heap.size s from(hW3.block _ HL.out.lt).trans HL.out);have HT:=Hd (show(bdl s).take (k+1)=(bdl s).take k++[x] by rw[List.take_add_one,HX.out];rfl);clear hy HL hW3 HJk
   gi_wp2
   refine⟨fun h=>(by cases h),?_⟩;refine hR.mono ?_;rintro e W4 (⟨rfl,hJ3,hk3⟩|⟨rfl,hJx3⟩)
   ·have HL4:=Hd (show LB W4 W.heap.size s from hk3 _ _ _ _ HL3.out);clear hk3 hR hy' c1 c2 c3
    gi_wp2
    go_roundw
    case rel=>exact⟨k+1,by omega,by go_num,by rw[HT.out];exact hJ3,HL4.out⟩
    case measure=>simp[intOf];omega
   ·clear hR hy' c1 c2 c3
    gi_wp2
    refine bodyPost_ret (results_none rfl _ _ _) rfl ?_;exact⟨⟨_,rfl⟩,.inr ⟨_,by rw[←HT.out];exact List.take_prefix _ _,hJx3⟩⟩
  ·obtain rfl:k=13:=by omega
   clear hL
   gi_wp2
   go_end0
   exact⟨⟨_,rfl⟩,.inl ⟨_,rfl,hJk⟩⟩
theorem bounds_stops(n Bs:Nat)(s:St)(w:World)(hs:SB w Bs s):
  SeqStopsK Fence.wide n Tryz.prog 51 #[.pointer (some ⟨Bs,0,none⟩)] encB KeepA (fun ys=>ys=bdl s) (fun pre=>pre<+:bdl s) 13 w:=
 fun l J Jx W hW hJ _ hY h0=>bounds1_in n l Bs s J Jx W hJ hY (hs.below' hW) h0
end Go.Proofs.YtnkelgdnglaafaaGreat
namespace Go.Proofs.YtnkelgdnglaafaaGreat
open Go.RowKit Go.Shelf
attribute [local go_sem] Oper.semAt_some
def allOk(l:List (Int×Int×Int)):Bool:=l.all okB
theorem allOk_snoc(l:List (Int×Int×Int))(x:Int×Int×Int):allOk (l++[x])=(allOk l&&okB x):=by unfold allOk;rw[List.all_append];simp
theorem keepA_refl(W:World):KeepA W W:=fun _ _ _ _ h=>h
theorem keepA_t{A B C:World}(h:KeepA A B)(k:KeepA B C):KeepA A C:=fun i c t fr hi=>k i c t fr (h i c t fr hi)
theorem keepA_below{A B:World}(h:Below A.heap.size A B):KeepA A B:=fun i _ _ _ hi=>(h.block i (Array.getElem?_eq_some_iff.1 hi).1).trans hi
theorem keepA_b(W:World)(l:Nat)(o o':Obj)(h:W.heap[l]?=some o)(h1:o.isCells=false):KeepA W (W.putObj l o'):=fun i c t fr hi=>
 ((grownBy_putObj' W l o').block i (Array.getElem?_eq_some_iff.1 hi).1 (fun e=>by
  cases e;rw[hi]at h;cases h
  cases h1)).trans hi
def RA(w0:World)(s:St)(n0:Nat)(x:Int×Int×Int)(a':Act)(W:World):Prop:=∃B:Nat,n0≤B∧W.heap[B]?=some (.cells #[.int .i64 x.2.1,.int .i64 x.2.2] 82 (0,0))∧
 a'={tmps:= #[.agg (sv s).toArray,.pointer (some ⟨w0.heap.size,0,none⟩),.pointer (some ⟨w0.heap.size+1,0,none⟩),.int .i64 x.1,.pointer (some ⟨B,0,none⟩),.agg (sv s).toArray,.func (.func 51) #[] #[.pointer (some ⟨w0.heap.size+1+1,0,none⟩)],.int .i64 x.1,.agg #[.int .i64 x.2.1,.int .i64 x.2.2],undef,undef,undef,undef,undef,undef,undef,undef,undef,undef],defers:=[]}
theorem ra_own(w0:World)(s:St)(n0 m:Nat)(x:Int×Int×Int)(a':Act):OwnFrom m (fun (_:Unit) W=>RA w0 s n0 x a' W):=by
 rintro _ X Y row ⟨B,hn,hB,he⟩ hg hr;refine⟨B,hn,(hg.block B (Array.getElem?_eq_some_iff.1 hB).1 (fun e=> ?_)).trans hB,he⟩;obtain⟨_,o,ho,hc⟩:=hr B e.symm;rw[hB]at ho;cases ho;cases hc
theorem right_any(s:St)(w:World):
  Calls Tryz.prog 22 #[.agg (sv s).toArray] w fun e w'=>e=.returned (.bool (rightB s))∧Below w.heap.size w w':=by
 refine (callsIn_wide (n:=9)).1 ?_;refine callsIn_of_wp_marks Tryz.func22 rfl trivial ?_ rfl;simp only[Tryz.ntmps22,List.size_toArray,List.length_cons,List.length_nil,Nat.reduceAdd,Nat.reduceSub,Array.replicate_succ,Array.replicate_zero,List.push_toArray,List.append_toArray,List.nil_append,List.cons_append];have n1:=(SB.new w s).alloc (.cells #[.bool false] 4);have hc0:((w.alloc (.cells (sv s).toArray 23)).alloc (.cells #[.bool false] 4)).cell? ⟨w.heap.size,0,none⟩=some (.int .i64 s.fl):=n1.cell 0;have hc1:((w.alloc (.cells (sv s).toArray 23)).alloc (.cells #[.bool false] 4)).cell? ⟨w.heap.size,1,none⟩=some (.int .i64 s.ca):=n1.cell 1;have hc2:((w.alloc (.cells (sv s).toArray 23)).alloc (.cells #[.bool false] 4)).cell? ⟨w.heap.size,2,none⟩=some (.int .i64 s.sta):=n1.cell 2;have hc3:((w.alloc (.cells (sv s).toArray 23)).alloc (.cells #[.bool false] 4)).cell? ⟨w.heap.size,3,none⟩=some (.int .i64 s.ste):=n1.cell 3;have hc4:((w.alloc (.cells (sv s).toArray 23)).alloc (.cells #[.bool false] 4)).cell? ⟨w.heap.size,4,none⟩=some (.int .i64 s.sto):=n1.cell 4;have hc5:((w.alloc (.cells (sv s).toArray 23)).alloc (.cells #[.bool false] 4)).cell? ⟨w.heap.size,5,none⟩=some (.int .i64 s.opn):=n1.cell 5;have hc6:((w.alloc (.cells (sv s).toArray 23)).alloc (.cells #[.bool false] 4)).cell? ⟨w.heap.size,6,none⟩=some (.int .i64 s.wai):=n1.cell 6;have hc7:((w.alloc (.cells (sv s).toArray 23)).alloc (.cells #[.bool false] 4)).cell? ⟨w.heap.size,7,none⟩=some (.int .i64 s.clo):=n1.cell 7;have hc8:((w.alloc (.cells (sv s).toArray 23)).alloc (.cells #[.bool false] 4)).cell? ⟨w.heap.size,8,none⟩=some (.int .i64 s.nud):=n1.cell 8;have hc9:((w.alloc (.cells (sv s).toArray 23)).alloc (.cells #[.bool false] 4)).cell? ⟨w.heap.size,9,none⟩=some (.int .i64 s.age):=n1.cell 9;have hc10:((w.alloc (.cells (sv s).toArray 23)).alloc (.cells #[.bool false] 4)).cell? ⟨w.heap.size,10,none⟩=some (.int .i64 s.sil):=n1.cell 10;have hc11:((w.alloc (.cells (sv s).toArray 23)).alloc (.cells #[.bool false] 4)).cell? ⟨w.heap.size,11,none⟩=some (.int .i64 s.bud):=n1.cell 11;have hc12:((w.alloc (.cells (sv s).toArray 23)).alloc (.cells #[.bool false] 4)).cell? ⟨w.heap.size,12,none⟩=some (.int .i64 s.per):=n1.cell 12;have hwf:∀k,Fence.wide.fn k:=fun _=>trivial;clear n1
 gi_wp2_with (gi_at_call 36;refine (callsIn_wide.2 (bounds_any s _)).mono ?_;rintro e w' ⟨rfl,rfl⟩)
 clear hc0 hc1 hc2 hc3 hc4 hc5 hc6 hc7 hc8 hc9 hc10 hc11 hc12;have bR0:=(Boxed.new (w.alloc (.cells (sv s).toArray 23)) 4 (.bool false)).alloc (.cells (sv s).toArray 23);rw[World.size_alloc]at bR0;have hs0:=SB.new ((w.alloc (.cells (sv s).toArray 23)).alloc (.cells #[.bool false] 4)) s;rw[World.size_alloc,World.size_alloc]at hs0
 have hB0:Below w.heap.size w (((w.alloc (.cells (sv s).toArray 23)).alloc (.cells #[.bool false] 4)).alloc (.cells (sv s).toArray 23)):=
  (((Below.refl _ w).alloc (Nat.le_refl _) _).alloc (by simp) _).alloc (by simp;omega) _
 generalize (((w.alloc (.cells (sv s).toArray 23)).alloc (.cells #[.bool false] 4)).alloc (.cells (sv s).toArray 23))=W0 at bR0 hs0 hB0⊢;have eg:∀args w,(callFunc 51 args).run Tryz.prog w=.ok (.enter 51 args) w:=by intro args w;simp[go_sem]
 refine wpIn_rangeFunc_ownH rfl (by decide) (gf:=51) (lb:= #[.pointer (some ⟨w.heap.size+1+1,0,none⟩)]) rfl trivial eg (bounds_stops 8 _ s W0 hs0) keepA_t (fun W l o o' _ h h1 _=>keepA_b W l o o' h h1) (Below.refl _ W0) (fun _=>rfl)
  (fun pre W=>allOk pre=true∧Boxed W (w.heap.size+1) 4 (.bool false)∧Below w.heap.size w W)
  (fun c pre W=>(c=.ret∧allOk pre=false)∧Boxed W (w.heap.size+1) 4 (.bool false)∧Below w.heap.size w W)
  (OwnFrom.and (ownFrom_pure _ _) (OwnFrom.and (Own.from (boxed_own _ _ _) _) (ownFrom_below (Nat.le_refl _) hB0.size)))
  (fun c=>OwnFrom.and (ownFrom_pure _ _) (OwnFrom.and (Own.from (boxed_own _ _ _) _) (ownFrom_below (Nat.le_refl _) hB0.size)))
  ⟨rfl,bR0,hB0⟩ (RA w s w.heap.size) (fun x a'=>ra_own w s _ _ x a') ?assign ?body ?done ?stop
 case assign=>
  rintro l pre x W K ⟨hp,hb,hB⟩ hK;have hal:Below W.heap.size W (W.alloc (.cells #[.int .i64 x.2.1,.int .i64 x.2.2] 82)):=(Below.refl _ W).alloc (Nat.le_refl _) _
  have HK:=Hd (hK {tmps:= #[.agg (sv s).toArray,.pointer (some ⟨w.heap.size,0,none⟩),.pointer (some ⟨w.heap.size+1,0,none⟩),.int .i64 x.1,.pointer (some ⟨W.heap.size,0,none⟩),.agg (sv s).toArray,.func (.func 51) #[] #[.pointer (some ⟨w.heap.size+1+1,0,none⟩)],.int .i64 x.1,.agg #[.int .i64 x.2.1,.int .i64 x.2.2],undef,undef,undef,undef,undef,undef,undef,undef,undef,undef],defers:=[]}
   (W.alloc (.cells #[.int .i64 x.2.1,.int .i64 x.2.2] 82)) ((KeepsOthers.alloc W _).from _) (keepA_below hal) ⟨hp,hb.alloc _,below_class hB hal⟩ ⟨W.heap.size,hB.size,World.alloc_heap_new W _,rfl⟩)
  clear hK hp hb hB hal eg bR0 hs0 hB0;simp only[encB]
  gi_wp2
  exact HK.out
 case body=>
  rintro l pre x a' W _ _ ⟨hp,hb,hB⟩ ⟨B,hnB,hBc,rfl⟩ _;have hc0:W.cell? ⟨B,0,none⟩=some (.int .i64 x.2.1):=by simp[World.cell?,hBc]
  have hc1:W.cell? ⟨B,1,none⟩=some (.int .i64 x.2.2):=by simp[World.cell?,hBc]
  have hf:=hb.frozen;have hcb:=hb.cell;have HP:=Hd hp;have HBx:=Hd hb;have HB:=Hd hB;clear hp hb hB hBc eg bR0 hs0 hB0;cases hok:okB x
  ·have HN:=Hd (show allOk (pre++[x])=false by rw[allOk_snoc,HP.out,hok];rfl);have HO:=Hd hok;clear hok
   gi_wp2
   all_goals first
    |exact⟨(KeepsOthers.setCell _ _ _).from _,⟨rfl,HN.out⟩,HBx.out.set _,HB.out.setCell (p:=⟨w.heap.size+1,0,none⟩) (by simp) _⟩
    |(exfalso;have:=HO.out;simp[okB]at this;omega)
  ·have HN:=Hd (show allOk (pre++[x])=true by rw[allOk_snoc,HP.out,hok];rfl);have h1:x.2.1≤x.1:=by simp[okB]at hok;exact hok.1
   have h2:x.1≤x.2.2:=by simp[okB]at hok;exact hok.2
   clear hok
   gi_wp2
   exact⟨KeepsFrom.refl _ _,keepA_refl _,HN.out,HBx.out,HB.out⟩
 case done=>
  rintro D ys W hD rfl ⟨hp,b0,hB⟩ hK;have hc0:=b0.cell;have hf0:=b0.frozen;clear eg bR0 hs0
  gi_wp2
  have hK':=(KeepsOthers.setCell W ⟨w.heap.size+1,0,none⟩ (.bool true)).same D _ hK rfl;have r0:=b0.set (.bool true);have hB':=hB.setCell (p:=⟨w.heap.size+1,0,none⟩) (by simp) (.bool true);refine⟨by simp,.inl ⟨_,_,rfl,run_takeDeferred hK',?_⟩⟩;have hc5:=cell_kept r0.cell (grownBy_putObj' _ D (.deferred none)) (fun r e=>by cases e;exact⟨_,hK',rfl⟩);refine⟨.bool true,?_,ret_bool hp.symm,hB'.trans (belowK_b (w:=w) (Nat.le_refl _) _ D _ _ (Nat.le_trans hB0.size hD) hK' rfl rfl)⟩;simp[results,Tryz.f22,go_sem,hc5]
 case stop=>
  rintro D c pre W hD hpre ⟨⟨rfl,hne⟩,b0,hB⟩ hK;clear eg bR0 hs0
  gi_wp2
  refine⟨by simp,.inl ⟨_,_,rfl,run_takeDeferred hK,?_⟩⟩;have hc5:=cell_kept b0.cell (grownBy_putObj' _ D (.deferred none)) (fun r e=>by cases e;exact⟨_,hK,rfl⟩)
  have hh:rightB s=false:=by
   obtain⟨t,ht⟩:=hpre;unfold rightB;unfold allOk at hne;rw[←ht,List.all_append,hne,Bool.false_and]
  refine⟨.bool false,?_,ret_bool hh.symm,hB.trans (belowK_b (w:=w) (Nat.le_refl _) W D _ _ (Nat.le_trans hB0.size hD) hK rfl rfl)⟩;simp[results,Tryz.f22,go_sem,hc5]
end Go.Proofs.YtnkelgdnglaafaaGreat
namespace Go.Proofs.YtnkelgdnglaafaaGreat
open Go.RowKit
structure Kp(F:Nat→Prop)(w w':World):Prop where
 os:w'.os=w.os
 tape:w'.tape=w.tape
 output:w'.output=w.output
 size:w.heap.size≤w'.heap.size
 block:∀k,k<w.heap.size→¬F k→w'.heap[k]?=w.heap[k]?
section
variable {F G:Nat→Prop} {w w' w'':World}
theorem Kp.refl(F:Nat→Prop)(w:World):Kp F w w:=⟨rfl,rfl,rfl,Nat.le_refl _,fun _ _ _=>rfl⟩
theorem Kp.trans(h:Kp F w w')(k:Kp G w' w'')(hg:∀i,i<w.heap.size→G i→F i):Kp F w w'':=
 ⟨k.os.trans h.os,k.tape.trans h.tape,k.output.trans h.output,Nat.le_trans h.size k.size,fun i hi hf=>(k.block i (Nat.lt_of_lt_of_le hi h.size) (fun hG=>hf (hg i hi hG))).trans (h.block i hi hf)⟩
theorem Kp.mono(h:Kp F w w')(hg:∀i,i<w.heap.size→F i→G i):Kp G w w':=⟨h.os,h.tape,h.output,h.size,fun i hi hf=>h.block i hi (fun hF=>hf (hg i hi hF))⟩
theorem Kp.ofBelow(F:Nat→Prop)(h:Below w.heap.size w w'):Kp F w w':=⟨h.os,h.tape,h.output,h.size,fun i hi _=>h.block i hi⟩
theorem Kp.toBelow{B:Nat}(h:Kp F w w')(hB:B≤w.heap.size)(hF:∀i,i<B→¬F i):Below B w w':=⟨h.os,h.tape,h.output,h.size,fun i hi=>h.block i (by omega) (hF i hi)⟩
theorem Kp.below{B:Nat}{a:World}(h:Kp F w w')(hb:Below B a w)(hB:B≤w.heap.size)(hF:∀i,i<B→¬F i):Below B a w':=hb.trans (h.toBelow hB hF)
theorem Kp.thenBelow(h:Kp F w w')(k:Below w'.heap.size w' w''):Kp F w w'':=h.trans (Kp.ofBelow F k) (fun _ _ h=>h)
theorem Kp.alloc(h:Kp F w w')(o:Obj):Kp F w (w'.alloc o):=h.trans (Kp.ofBelow F ((Below.refl _ _).alloc (Nat.le_refl _) o)) (fun _ _ h=>h)
theorem Kp.drew(h:Kp F w w'):Kp F w w'.drew:=h.trans (Kp.ofBelow F (Below.refl _ _).drew) (fun _ _ h=>h)
theorem Kp.set(h:Kp F w w')(b i:Nat)(u:Value)(hF:b<w.heap.size→F b):Kp F w (w'.setCell ⟨b,i,none⟩ u):=
 h.trans (G:=fun k=>k=b) ⟨rfl,rfl,rfl,by simp[World.setCell],fun k _ hk=>Below.heap_setCell _ _ _ _ hk⟩ (fun k hk e=>by subst e;exact hF hk)
theorem Kp.put(h:Kp F w w')(b:Nat)(o:Obj)(hF:b<w.heap.size→F b):Kp F w (w'.putObj b o):=
 h.trans (G:=fun k=>k=b) ⟨rfl,rfl,rfl,by simp,fun k _ hk=>World.putObj_heap_other hk⟩ (fun k hk e=>by subst e;exact hF hk)
theorem Kp.grown{row:Option Nat}(h:Kp F w w')(hg:w'.grownBy w'' row)(hF:∀k,k<w.heap.size→row=some k→F k):Kp F w w'':=
 h.trans (G:=fun k=>row=some k) ⟨hg.os,hg.tape,hg.output,hg.size,fun k hk hne=>hg.block k hk (fun e=>hne e.symm)⟩ (fun k hk e=>hF k hk e)
end
def R2(D:Nat→Prop)(W:World)(v:Value)(l:List (Int×Int)):Prop:=
 ∃a cap,v=.slice a l.length cap∧l.length≤cap∧(a=none→cap=0)∧(l=[]∨∃g o,a=some ⟨g,o,none⟩∧D g∧g<W.heap.size∧∀(i:Nat) y,l[i]?=some y→W.cell? ⟨g,o+i*2,none⟩=some (.int .i64 y.1)∧W.cell? ⟨g,o+i*2+1,none⟩=some (.int .i64 y.2))
def RI(D:Nat→Prop)(W:World)(v:Value)(l:List Int):Prop:=
 ∃a cap,v=.slice a l.length cap∧l.length≤cap∧(a=none→cap=0)∧(l=[]∨∃g o,a=some ⟨g,o,none⟩∧D g∧g<W.heap.size∧∀(i:Nat) x,l[i]?=some x→W.cell? ⟨g,o+i,none⟩=some (.int .i64 x))
def RL(D:Nat→Prop)(W:World)(v:Value)(p:List (List Int)):Prop:=
 ∃a cap,v=.slice a p.length cap∧p.length≤cap∧(a=none→cap=0)∧(p=[]∨∃g o,a=some ⟨g,o,none⟩∧D g∧g<W.heap.size∧∀(i:Nat) l,p[i]?=some l→∃u,W.cell? ⟨g,o+i,none⟩=some u∧RI D W u l)
section
variable {D D':Nat→Prop} {W W':World} {v:Value}
theorem R2.keep{l:List (Int×Int)}(h:R2 D W v l)(hs:W.heap.size≤W'.heap.size)(hk:∀g,D g→g<W.heap.size→W'.heap[g]?=W.heap[g]?):R2 D W' v l:=by
 obtain⟨a,cap,rfl,hc,hn,h⟩:=h;refine⟨a,cap,rfl,hc,hn,?_⟩;rcases h with h|⟨g,o,rfl,hd,hlt,h⟩
 ·exact .inl h
 ·exact .inr ⟨g,o,rfl,hd,Nat.lt_of_lt_of_le hlt hs,fun i y hy=>⟨(World.cell?_of_block (a:=⟨g,o+i*2,none⟩) (hk g hd hlt)).trans (h i y hy).1,(World.cell?_of_block (a:=⟨g,o+i*2+1,none⟩) (hk g hd hlt)).trans (h i y hy).2⟩⟩
theorem RI.keep{l:List Int}(h:RI D W v l)(hs:W.heap.size≤W'.heap.size)(hk:∀g,D g→g<W.heap.size→W'.heap[g]?=W.heap[g]?):RI D W' v l:=by
 obtain⟨a,cap,rfl,hc,hn,h⟩:=h;refine⟨a,cap,rfl,hc,hn,?_⟩;rcases h with h|⟨g,o,rfl,hd,hlt,h⟩
 ·exact .inl h
 ·exact .inr ⟨g,o,rfl,hd,Nat.lt_of_lt_of_le hlt hs,fun i y hy=>(World.cell?_of_block (a:=⟨g,o+i,none⟩) (hk g hd hlt)).trans (h i y hy)⟩
theorem RL.keep{p:List (List Int)}(h:RL D W v p)(hs:W.heap.size≤W'.heap.size)(hk:∀g,D g→g<W.heap.size→W'.heap[g]?=W.heap[g]?):RL D W' v p:=by
 obtain⟨a,cap,rfl,hc,hn,h⟩:=h;refine⟨a,cap,rfl,hc,hn,?_⟩;rcases h with h|⟨g,o,rfl,hd,hlt,h⟩
 ·exact .inl h
 ·refine .inr ⟨g,o,rfl,hd,Nat.lt_of_lt_of_le hlt hs,fun i l hl=> ?_⟩;obtain⟨u,h1,h2⟩:=h i l hl;exact⟨u,(World.cell?_of_block (a:=⟨g,o+i,none⟩) (hk g hd hlt)).trans h1,h2.keep hs hk⟩
theorem R2.mono{l:List (Int×Int)}(h:R2 D W v l)(hD:∀g,D g→g<W.heap.size→(∃o:Obj,W.heap[g]?=some o∧o.isCells=true)→D' g):R2 D' W v l:=by
 obtain⟨a,cap,rfl,hc,hn,h⟩:=h;refine⟨a,cap,rfl,hc,hn,?_⟩;rcases h with h|⟨g,o,rfl,hd,hlt,h⟩
 ·exact .inl h
 ·cases l with
  |nil=>exact .inl rfl
  |cons y l=>exact .inr ⟨g,o,rfl,hD g hd hlt (cells_of_cell (h 0 y rfl).1),hlt,h⟩
theorem RI.mono{l:List Int}(h:RI D W v l)(hD:∀g,D g→g<W.heap.size→(∃o:Obj,W.heap[g]?=some o∧o.isCells=true)→D' g):RI D' W v l:=by
 obtain⟨a,cap,rfl,hc,hn,h⟩:=h;refine⟨a,cap,rfl,hc,hn,?_⟩;rcases h with h|⟨g,o,rfl,hd,hlt,h⟩
 ·exact .inl h
 ·cases l with
  |nil=>exact .inl rfl
  |cons y l=>exact .inr ⟨g,o,rfl,hD g hd hlt (cells_of_cell (h 0 y rfl)),hlt,h⟩
theorem RL.mono{p:List (List Int)}(h:RL D W v p)(hD:∀g,D g→g<W.heap.size→(∃o:Obj,W.heap[g]?=some o∧o.isCells=true)→D' g):RL D' W v p:=by
 obtain⟨a,cap,rfl,hc,hn,h⟩:=h;refine⟨a,cap,rfl,hc,hn,?_⟩;rcases h with h|⟨g,o,rfl,hd,hlt,h⟩
 ·exact .inl h
 ·cases p with
  |nil=>exact .inl rfl
  |cons y l=>
   obtain⟨u,h1,_⟩:=h 0 y rfl;refine .inr ⟨g,o,rfl,hD g hd hlt (cells_of_cell h1),hlt,fun i l hl=> ?_⟩;obtain⟨u,h1,h2⟩:=h i l hl;exact⟨u,h1,h2.mono hD⟩
theorem R2.below'{l:List (Int×Int)}(h:R2 D W v l)(hb:Below W.heap.size W W'):R2 D W' v l:=h.keep hb.size fun g _ hlt=>hb.block g hlt
theorem RI.below'{l:List Int}(h:RI D W v l)(hb:Below W.heap.size W W'):RI D W' v l:=h.keep hb.size fun g _ hlt=>hb.block g hlt
theorem RL.below'{p:List (List Int)}(h:RL D W v p)(hb:Below W.heap.size W W'):RL D W' v p:=h.keep hb.size fun g _ hlt=>hb.block g hlt
theorem R2.alloc{l:List (Int×Int)}(h:R2 D W v l)(o:Obj):R2 D (W.alloc o) v l:=h.below' ((Below.refl _ _).alloc (Nat.le_refl _) o)
theorem RI.alloc{l:List Int}(h:RI D W v l)(o:Obj):RI D (W.alloc o) v l:=h.below' ((Below.refl _ _).alloc (Nat.le_refl _) o)
theorem RL.alloc{p:List (List Int)}(h:RL D W v p)(o:Obj):RL D (W.alloc o) v p:=h.below' ((Below.refl _ _).alloc (Nat.le_refl _) o)
theorem R2.form{l:List (Int×Int)}(h:R2 D W v l):∃a cap,v=.slice a l.length cap∧l.length≤cap∧(a=none→cap=0):=by
 obtain⟨a,cap,h1,h2,h3,_⟩:=h;exact⟨a,cap,h1,h2,h3⟩
theorem RI.form{l:List Int}(h:RI D W v l):∃a cap,v=.slice a l.length cap∧l.length≤cap∧(a=none→cap=0):=by
 obtain⟨a,cap,h1,h2,h3,_⟩:=h;exact⟨a,cap,h1,h2,h3⟩
theorem RL.form{p:List (List Int)}(h:RL D W v p):∃a cap,v=.slice a p.length cap∧p.length≤cap∧(a=none→cap=0):=by
 obtain⟨a,cap,h1,h2,h3,_⟩:=h;exact⟨a,cap,h1,h2,h3⟩
theorem R2.at{l:List (Int×Int)}{a:Option Addr}{n cap:Nat}(h:R2 D W (.slice a n cap) l){i:Nat}{y:Int×Int}(hi:l[i]?=some y):∃g o,a=some ⟨g,o,none⟩∧W.cell? ⟨g,o+i*2,none⟩=some (.int .i64 y.1)∧W.cell? ⟨g,o+i*2+1,none⟩=some (.int .i64 y.2):=by
 obtain⟨a',cap',e,_,_,h⟩:=h;cases e;rcases h with h|⟨g,o,rfl,_,_,h⟩
 ·rw[h]at hi;simp at hi
 ·exact⟨g,o,rfl,h i y hi⟩
theorem RI.at{l:List Int}{a:Option Addr}{n cap:Nat}(h:RI D W (.slice a n cap) l){i:Nat}{y:Int}(hi:l[i]?=some y):∃g o,a=some ⟨g,o,none⟩∧W.cell? ⟨g,o+i,none⟩=some (.int .i64 y):=by
 obtain⟨a',cap',e,_,_,h⟩:=h;cases e;rcases h with h|⟨g,o,rfl,_,_,h⟩
 ·rw[h]at hi;simp at hi
 ·exact⟨g,o,rfl,h i y hi⟩
theorem RL.at{p:List (List Int)}{a:Option Addr}{n cap:Nat}(h:RL D W (.slice a n cap) p){i:Nat}{l:List Int}(hi:p[i]?=some l):∃g o,a=some ⟨g,o,none⟩∧∃u,W.cell? ⟨g,o+i,none⟩=some u∧RI D W u l:=by
 obtain⟨a',cap',e,_,_,h⟩:=h;cases e;rcases h with h|⟨g,o,rfl,_,_,h⟩
 ·rw[h]at hi;simp at hi
 ·exact⟨g,o,rfl,h i l hi⟩
theorem R2.len{l:List (Int×Int)}{a:Option Addr}{n cap:Nat}(h:R2 D W (.slice a n cap) l):n=l.length:=by
 obtain⟨a',cap',e,_⟩:=h;cases e;rfl
theorem RI.len{l:List Int}{a:Option Addr}{n cap:Nat}(h:RI D W (.slice a n cap) l):n=l.length:=by
 obtain⟨a',cap',e,_⟩:=h;cases e;rfl
theorem RL.len{p:List (List Int)}{a:Option Addr}{n cap:Nat}(h:RL D W (.slice a n cap) p):n=p.length:=by
 obtain⟨a',cap',e,_⟩:=h;cases e;rfl
theorem RI.nil(D:Nat→Prop)(W:World):RI D W (.slice none 0 0) []:=⟨none,0,rfl,Nat.le_refl _,fun _=>rfl,.inl rfl⟩
theorem RL.nil(D:Nat→Prop)(W:World):RL D W (.slice none 0 0) []:=⟨none,0,rfl,Nat.le_refl _,fun _=>rfl,.inl rfl⟩
theorem RI.cells{l:List Int}{g o n cap:Nat}(h:RI D W (.slice (some ⟨g,o,none⟩) n cap) l):∀(i:Nat) x,l[i]?=some x→W.cell? ⟨g,o+i,none⟩=some (.int .i64 x):=fun i x hi=>by
 obtain⟨g',o',e,h⟩:=h.at hi;cases e;exact h
end
theorem ixI(W:World){a:Option Addr}{g o n cap j:Nat}(ha:a=some ⟨g,o,none⟩)(hj:j<n):(Instr.indexAt 90 (.slice a n cap) (.int .i64 (j:Int))).run Tryz.prog W=.ok (.pointer (some ⟨g,o+j,none⟩)) W:=by
 subst ha;rw[run_indexAt_slice W 90 _ n cap .i64 j (by kernel_rfl),if_pos ⟨by omega,by omega⟩,show Tryz.prog.elem 90=3 by kernel_rfl,Tryz.sizeOf3];simp only[Result.andThen_ok,Int.toNat_natCast,Addr.add_mid,Nat.mul_one]
theorem ixP(W:World){a:Option Addr}{g o n cap j:Nat}(ha:a=some ⟨g,o,none⟩)(hj:j<n):(Instr.indexAt 104 (.slice a n cap) (.int .i64 (j:Int))).run Tryz.prog W=.ok (.pointer (some ⟨g,o+j,none⟩)) W:=by
 subst ha;rw[run_indexAt_slice W 104 _ n cap .i64 j (by kernel_rfl),if_pos ⟨by omega,by omega⟩,show Tryz.prog.elem 104=90 by kernel_rfl,Tryz.sizeOf90];simp only[Result.andThen_ok,Int.toNat_natCast,Addr.add_mid,Nat.mul_one]
theorem ixW(W:World){a:Option Addr}{g o n cap j:Nat}(ha:a=some ⟨g,o,none⟩)(hj:j<n):(Instr.indexAt 98 (.slice a n cap) (.int .i64 (j:Int))).run Tryz.prog W=.ok (.pointer (some ⟨g,o+j*2,none⟩)) W:=by
 subst ha;rw[run_indexAt_slice W 98 _ n cap .i64 j (by kernel_rfl),if_pos ⟨by omega,by omega⟩,show Tryz.prog.elem 98=131 by kernel_rfl,Tryz.sizeOf131];simp only[Result.andThen_ok,Int.toNat_natCast,Addr.add_mid]
theorem ixR(W:World){a:Option Addr}{g o n cap j:Nat}(ha:a=some ⟨g,o,none⟩)(hj:j<n):(Instr.indexAt 97 (.slice a n cap) (.int .i64 (j:Int))).run Tryz.prog W=.ok (.pointer (some ⟨g,o+j*2,none⟩)) W:=by
 subst ha;rw[run_indexAt_slice W 97 _ n cap .i64 j (by kernel_rfl),if_pos ⟨by omega,by omega⟩,show Tryz.prog.elem 97=127 by kernel_rfl,Tryz.sizeOf127];simp only[Result.andThen_ok,Int.toNat_natCast,Addr.add_mid]
def ic(l:List Int):List Value:=l.map fun (n:Int)=>Value.int .i64 n
theorem ic_length(l:List Int):(ic l).length=l.length:=by unfold ic;rw[List.length_map]
theorem ic_append(l m:List Int):ic (l++m)=ic l++ic m:=by unfold ic;rw[List.map_append]
theorem ic_some{l:List Int}{i:Nat}{x:Int}(h:l[i]?=some x):(ic l)[i]?=some (.int .i64 x):=by
 unfold ic;rw[List.getElem?_map,h];rfl
theorem ic_one(l:List Int):∀u∈ic l,u.oneCell'=true:=by
 intro u hu;obtain⟨n,_,rfl⟩:=List.mem_map.1 hu
 rfl
def OI(W:World)(B:Nat)(v:Value)(l:List Int):Prop:=W.ownsRow B 3 1 v l.length (ic l)
section
variable {W W':World} {B:Nat} {v:Value} {l:List Int}
theorem OI.nil(W:World)(B:Nat):OI W B (.slice none 0 0) []:=World.ownsRow_nil W B _ 1
theorem OI.form(h:OI W B v l):(v=.slice none 0 0∧l=[])∨∃g cap,v=.slice (some ⟨g,0,none⟩) l.length cap∧B≤g∧g<W.heap.size∧l.length≤cap∧cap≤maxLen:=by
 rcases h.2 with⟨h1,h2⟩|⟨g,cap,cur,hv,hb,hg,hc,hm,_⟩
 ·exact .inl ⟨h1,List.length_eq_zero_iff.1 h2⟩
 ·exact .inr ⟨g,cap,hv,hb,(Array.getElem?_eq_some_iff.1 hg).1,hc,hm⟩
theorem OI.slice(h:OI W B v l):∃a c,v=.slice a l.length c:=by
 rcases h.form with⟨rfl,rfl⟩|⟨g,cap,rfl,_⟩
 ·exact⟨none,0,rfl⟩
 ·exact⟨_,cap,rfl⟩
theorem OI.lt(h:OI W B v l):∀g,v.ownBlock=some g→B≤g∧g<W.heap.size:=World.ownsRow.lt h
theorem OI.keep(h:OI W B v l)(hk:∀g,v.ownBlock=some g→W'.heap[g]?=W.heap[g]?):OI W' B v l:=by
 refine⟨h.1,?_⟩;rcases h.2 with h2|⟨g,cap,cur,hv,hb,hg,r⟩
 ·exact .inl h2
 ·exact .inr ⟨g,cap,cur,hv,hb,(hk g (by rw[hv];rfl)).trans hg,r⟩
theorem OI.below'(h:OI W B v l)(hb:Below W.heap.size W W'):OI W' B v l:=h.keep fun g hg=>hb.block g (h.lt g hg).2
theorem OI.alloc(h:OI W B v l)(o:Obj):OI (W.alloc o) B v l:=h.below' ((Below.refl _ _).alloc (Nat.le_refl _) o)
theorem OI.mono{B':Nat}(h:OI W B v l)(hB:B'≤B):OI W B' v l:=by
 refine⟨h.1,?_⟩;rcases h.2 with h2|⟨g,cap,cur,hv,hb,r⟩
 ·exact .inl h2
 ·exact .inr ⟨g,cap,cur,hv,Nat.le_trans hB hb,r⟩
theorem OI.cell{g cap n:Nat}(h:OI W B (.slice (some ⟨g,0,none⟩) n cap) l){i:Nat}{x:Int}(hi:l[i]?=some x):W.cell? ⟨g,i,none⟩=some (.int .i64 x):=by
 have:=World.ownsRow.cells h (g:=g) rfl i _ (ic_some hi);rwa[Addr.add_mid,Nat.zero_add]at this
theorem OI.ri{D:Nat→Prop}(h:OI W B v l)(hD:∀g,v.ownBlock=some g→D g):RI D W v l:=by
 rcases h.form with⟨rfl,rfl⟩|⟨g,cap,rfl,_,hlt,hc,hm⟩
 ·exact RI.nil _ _
 ·exact⟨_,cap,rfl,hc,(fun e=>by cases e),.inr ⟨g,0,rfl,hD g rfl,hlt,fun i x hx=>by rw[Nat.zero_add];exact h.cell hx⟩⟩
theorem OI.len{a:Option Addr}{n cap:Nat}(h:OI W B (.slice a n cap) l):n=l.length:=by
 rcases h.form with⟨h1,h2⟩|⟨g,c,h1,_⟩
 ·cases h1;rw[h2];rfl
 ·cases h1;rfl
theorem OI.fr{g cap n:Nat}(h:OI W B (.slice (some ⟨g,0,none⟩) n cap) l)(j:Nat):W.frozen? ⟨g,j,none⟩=false:=by
 have hn:=h.len;subst hn;exact World.ownsRow.frozenAt h j
theorem ic_set(l:List Int)(i:Nat)(x:Int):(ic l).set i (.int .i64 x)=ic (l.set i x):=by unfold ic;rw[List.map_set]
theorem OI.put{g cap n:Nat}(h:OI W B (.slice (some ⟨g,0,none⟩) n cap) l)(i:Nat)(x:Int):OI (W.setCell ⟨g,i,none⟩ (.int .i64 x)) B (.slice (some ⟨g,0,none⟩) n cap) (l.set i x):=by
 have hn:=h.len;subst hn;have:=(World.ownsRow.stored h i (.int .i64 x)).1;rw[ic_set]at this;unfold OI;rw[List.length_set];exact this
theorem OI.lit(W:World)(l:List Int)(hB:B≤W.heap.size)(hm:l.length≤maxLen):OI (W.alloc (.cells (ic l).toArray 3)) B (.slice (some ⟨W.heap.size,0,none⟩) l.length l.length) l:=by
 have:=World.ownsRow_lit (e:=3) (size:=1) W (ic l).toArray l.length hB hm (by simp[ic_length]);simpa[OI]using this
theorem OI.drop{g cap n k:Nat}{x:Int}(h:OI W B (.slice (some ⟨g,0,none⟩) n cap) (l++[x]))(hk:k=l.length):OI W B (.slice (some ⟨g,0,none⟩) k cap) l:=by
 subst hk;obtain⟨h1,h2⟩:=h;refine⟨by rw[ic_length,Nat.mul_one],?_⟩;rcases h2 with⟨h2,_⟩|⟨g',cap',cur,hv,hb,hg,hc,hm,hs,ht⟩
 ·cases h2
 ·cases hv;rw[List.length_append]at hc ht;simp only[List.length_cons,List.length_nil]at hc ht;refine .inr ⟨g,cap,cur,rfl,hb,hg,by omega,hm,hs,?_⟩;rw[ic_append]at ht;have h3:=congrArg (List.take l.length) ht;rw[List.take_take,List.take_left' (by rw[ic_length])]at h3;rw[Nat.mul_one];rwa[show min l.length ((l.length+(0+1))*1)=l.length by omega]at h3
end
theorem infoI:(Tryz.prog.info? 3).map (fun i=>(i.zero,i.size,i.bytes))=some (some (.int .i64 0),1,8):=by kernel_rfl
end Go.Proofs.YtnkelgdnglaafaaGreat
