import Derived.Test.YtlajleogofmkcaaGreatQ1
import Derived.WalkKit
import Derived.WalkSpells
import Derived.WalkLawsBesides
import Derived.Deep.MidRow
import Derived.Deep.AppendLies
import Derived.Laws.OwnMore
import Derived.Laws.Tables
import Derived.Laws.CopyOwn
import Derived.Deep.Quiet
import Derived.Deep.QuietTactic
import Derived.BigQuiet
import Derived.Laws.Bits64b
import Derived.Laws.StructEq
import Derived.Shelf.Abstract
import Derived.Laws.IdiomCopy
import Derived.Lib.SliceRun
import Derived.StillTailTactics
set_option maxHeartbeats 8000000
set_option maxRecDepth 100000
namespace Go.Proofs.YtlajleogofmkcaaGreat.CC.FM
def onlyN(f:Int):Nat:=if 0≤f∧f<64 then 2^f.toNat else 0
theorem onlyN_lt(f:Int):onlyN f<18446744073709551616:=by
 unfold onlyN;split
 ·have h:f.toNat<64:=by omega
  have:=Nat.pow_lt_pow_right (a:=2) (by omega) h;simpa using this
 ·omega
def hasN(s:Nat)(f:Int):Bool:=(decide (0≤f)&&decide (f<64))&&s.testBit f.toNat
theorem has_only(s:Nat)(f:Int):(s&&&onlyN f !=0)=hasN s f:=by
 unfold onlyN hasN;by_cases h:0≤f∧f<64
 ·rw[if_pos h];cases hb:s.testBit f.toNat
  ·have e:s&&&2^f.toNat=0:=by
    apply Nat.eq_of_testBit_eq;intro i;rw[Nat.testBit_and,Nat.testBit_two_pow,Nat.zero_testBit];by_cases hi:f.toNat=i
    ·subst hi;rw[hb];rfl
    ·simp[hi]
   rw[e];simp
  ·have e:s&&&2^f.toNat≠0:=fun e=>by
    have:=congrArg (fun n=>Nat.testBit n f.toNat) e;simp[hb]at this
   simp[h.1,h.2,e]
 ·rw[if_neg h];by_cases h1:0≤f
  ·have:¬f<64:=fun h2=>h ⟨h1,h2⟩;simp[this]
  ·simp[h1]
def withN(s:Nat)(f:Int):Nat:=s|||onlyN f
theorem withN_lt{s:Nat}(f:Int)(hs:s<18446744073709551616):withN s f<18446744073709551616:=by
 have:=Nat.or_lt_two_pow (n:=64) (show s<2^64 by omega) (show onlyN f<2^64 by have:=onlyN_lt f;omega);unfold withN;omega
def lessN(s:Nat)(f:Int):Nat:=s&&&(18446744073709551615-onlyN f)
theorem lessN_lt{s:Nat}(f:Int)(hs:s<18446744073709551616):lessN s f<18446744073709551616:=by
 unfold lessN;have:=Nat.and_le_left (n:=s) (m:=18446744073709551615-onlyN f);omega
end Go.Proofs.YtlajleogofmkcaaGreat.CC.FM
namespace Go.Proofs.YtlajleogofmkcaaGreat.CC
structure Cl where
 fl:Int
 ca:Int
 ag:Int
 up:Bool
namespace KM
theorem ext{a b:Cl}(h1:a.fl=b.fl)(h2:a.ca=b.ca)(h3:a.ag=b.ag)(h4:a.up=b.up):a=b:=by
 cases a;cases b;simp_all
def like(a b:Cl):Bool:=(a.fl==b.fl&&a.ca==b.ca)&&a.up==b.up
def same(a b:Cl):Bool:=((a.fl==b.fl&&a.ca==b.ca)&&a.ag==b.ag)&&a.up==b.up
def inR(F C:Int)(c:Cl):Bool:=((decide (0≤c.fl)&&decide (c.fl<F))&&decide (-1≤c.ca))&&decide (c.ca<C)
theorem inR_iff{F C:Int}{c:Cl}:inR F C c=true↔0≤c.fl∧c.fl<F∧ -1≤c.ca∧c.ca<C:=by
 unfold inR;simp[and_assoc]
def can(F:Int)(c:Cl):Bool:=if c.ca= -1 then(if c.up=true then decide (c.fl≠F-1)else decide (c.fl≠0))else !c.up
def err(F C:Int)(bar:Bool)(L:List Cl)(c:Cl):Int:=
 if inR F C c=false then 2 else if can F c=false then 1 else if bar=true then 8 else if L.any (like c)=true then 0 else if 128≤L.length then 4 else 0
def adds(F C:Int)(bar:Bool)(L:List Cl)(c:Cl):Bool:=(((inR F C c&&can F c)&& !bar)&& !L.any (like c))&&decide (L.length<128)
def put(F C:Int)(bar:Bool)(L:List Cl)(c:Cl):List Cl:=if adds F C bar L c=true then L++[⟨c.fl,c.ca,0,c.up⟩]else L
def older(c:Cl):Cl:=⟨c.fl,c.ca,if c.ag<1099511627776 then c.ag+1 else c.ag,c.up⟩
def srv(car floor:Int)(u d:Bool)(c:Cl):Bool:=decide (c.fl=floor)&&(if c.ca= -1 then(if c.up=true then u else d)else decide (c.ca=car))
theorem put_len{F C:Int}{bar:Bool}{L:List Cl}{c:Cl}(h:L.length≤128):(put F C bar L c).length≤128:=by
 unfold put;split
 ·rename_i h1;unfold adds at h1;simp only[Bool.and_eq_true,decide_eq_true_eq]at h1;simp;omega
 ·exact h
theorem put_no{F C:Int}{bar:Bool}{L:List Cl}{c:Cl}(h:adds F C bar L c=false):put F C bar L c=L:=by unfold put;rw[h];simp
theorem put_yes{F C:Int}{bar:Bool}{L:List Cl}{c:Cl}(h:adds F C bar L c=true):put F C bar L c=L++[⟨c.fl,c.ca,0,c.up⟩]:=by unfold put;rw[h];simp
theorem adds_inR{F C:Int}{bar:Bool}{L:List Cl}{c:Cl}(h:adds F C bar L c=true):inR F C c=true:=by
 unfold adds at h;simp only[Bool.and_eq_true]at h;exact h.1.1.1.1
theorem press_ways(F C:Int)(bar:Bool)(L:List Cl)(c:Cl):
  (inR F C c=false∧err F C bar L c=2∧put F C bar L c=L)∨
  (inR F C c=true∧can F c=false∧err F C bar L c=1∧put F C bar L c=L)∨
  (inR F C c=true∧can F c=true∧bar=true∧err F C bar L c=8∧put F C bar L c=L)∨
  (inR F C c=true∧can F c=true∧bar=false∧L.any (like c)=true∧err F C bar L c=0∧put F C bar L c=L)∨
  (inR F C c=true∧can F c=true∧bar=false∧L.any (like c)=false∧128≤L.length∧err F C bar L c=4∧put F C bar L c=L)∨
  (inR F C c=true∧can F c=true∧bar=false∧L.any (like c)=false∧L.length<128∧err F C bar L c=0∧put F C bar L c=L++[⟨c.fl,c.ca,0,c.up⟩]):=by
 cases h1:inR F C c
 ·exact .inl ⟨rfl,by simp[err,h1],by simp[put,adds,h1]⟩
 ·cases h2:can F c
  ·exact .inr (.inl ⟨rfl,rfl,by simp[err,h1,h2],by simp[put,adds,h2]⟩)
  ·cases h3:bar
   ·cases h4:L.any (like c)
    ·by_cases h5:128≤L.length
     ·refine .inr (.inr (.inr (.inr (.inl ⟨rfl,rfl,rfl,rfl,h5,by simp only[err,h1,h2,h4,if_pos h5];simp,?_⟩))));rw[put_no];unfold adds;rw[show decide (L.length<128)=false by simp;omega];simp
     ·refine .inr (.inr (.inr (.inr (.inr ⟨rfl,rfl,rfl,rfl,by omega,by simp only[err,h1,h2,h4,if_neg h5];simp,?_⟩))));rw[put_yes];unfold adds;rw[show decide (L.length<128)=true by simp;omega,h1,h2,h4];rfl
    ·exact .inr (.inr (.inr (.inl ⟨rfl,rfl,rfl,rfl,by simp[err,h1,h2,h4],by simp[put,adds,h4]⟩)))
   ·exact .inr (.inr (.inl ⟨rfl,rfl,rfl,by simp[err,h1,h2],by simp[put,adds]⟩))
structure Gd(F C n:Int)(L:List Cl):Prop where
 rng:∀c∈L,0≤c.fl∧c.fl<F∧ -1≤c.ca∧c.ca<C
 age:∀c∈L,0≤c.ag∧c.ag≤n
 len:L.length≤128
 des:L.Pairwise fun a b=>b.ag≤a.ag
section
variable {F C n:Int} {L:List Cl}
theorem Gd.nil(F C n:Int):Gd F C n []:=⟨fun _ h=>absurd h (List.not_mem_nil),fun _ h=>absurd h (List.not_mem_nil),by simp,List.Pairwise.nil⟩
theorem Gd.up{m:Int}(h:Gd F C n L)(hm:n≤m):Gd F C m L:=⟨h.rng,fun c hc=>⟨(h.age c hc).1,Int.le_trans (h.age c hc).2 hm⟩,h.len,h.des⟩
theorem Gd.put(h:Gd F C n L)(hn:0≤n)(bar:Bool)(c:Cl):Gd F C n (put F C bar L c):=by
 cases ha:adds F C bar L c
 ·rw[put_no ha];exact h
 ·have hr:=inR_iff.1 (adds_inR ha);have hl:=put_len (F:=F) (C:=C) (bar:=bar) (c:=c) h.len;rw[put_yes ha]at hl⊢;refine⟨fun x hx=> ?_,fun x hx=> ?_,hl,?_⟩
  ·rcases List.mem_append.1 hx with hx|hx
   ·exact h.rng x hx
   ·simp at hx;subst hx;exact hr
  ·rcases List.mem_append.1 hx with hx|hx
   ·exact h.age x hx
   ·simp at hx;subst hx;exact⟨by simp,hn⟩
  ·rw[List.pairwise_append];refine⟨h.des,by simp,fun a ha b hb=> ?_⟩;simp at hb;subst hb;exact(h.age a ha).1
theorem older_ag{c:Cl}(h:c.ag≤n)(hn:n≤1000):(older c).ag=c.ag+1:=by unfold older;show(if c.ag<1099511627776 then c.ag+1 else c.ag)=_;rw[if_pos (by omega)]
theorem Gd.tick(h:Gd F C n L)(hn:n≤1000):Gd F C (n+1) (L.map older):=by
 refine⟨fun x hx=> ?_,fun x hx=> ?_,by simpa using h.len,?_⟩
 ·obtain⟨c,hc,rfl⟩:=List.mem_map.1 hx;exact h.rng c hc
 ·obtain⟨c,hc,rfl⟩:=List.mem_map.1 hx;have:=h.age c hc;rw[older_ag this.2 hn];omega
 ·rw[List.pairwise_map];refine List.Pairwise.imp_of_mem ?_ h.des;intro a b ha hb hab;rw[older_ag (h.age a ha).2 hn,older_ag (h.age b hb).2 hn];omega
theorem Gd.filter(h:Gd F C n L)(p:Cl→Bool):Gd F C n (L.filter p):=
 ⟨fun c hc=>h.rng c (List.mem_filter.1 hc).1,fun c hc=>h.age c (List.mem_filter.1 hc).1,Nat.le_trans (List.length_filter_le _ _) h.len,h.des.filter p⟩
end
end KM
open Go.RowKit
def cv(c:Cl):List Value:=[.int .i64 c.fl,.int .i64 c.ca,.int .i64 c.ag,.bool c.up]
def rv(L:List Cl):List Value:=L.flatMap cv
theorem cv_length(c:Cl):(cv c).length=4:=rfl
theorem rv_length(L:List Cl):(rv L).length=L.length*4:=by
 induction L with
 |nil=>rfl
 |cons c r ih=>show(cv c++rv r).length=_;rw[List.length_append,ih,cv_length,List.length_cons];omega
theorem rv_append(L M:List Cl):rv (L++M)=rv L++rv M:=by unfold rv;rw[List.flatMap_append]
theorem rv_get{L:List Cl}{i j:Nat}(h:i<L.length)(hj:j<4):(rv L)[i*4+j]?=(cv L[i])[j]?:=by
 induction L generalizing i with
 |nil=>simp at h
 |cons c r ih=>
  show(cv c++rv r)[i*4+j]?=_;cases i with
  |zero=>rw[List.getElem?_append_left (by rw[cv_length];omega)];simp
  |succ i=>
   rw[List.getElem?_append_right (by rw[cv_length];omega),cv_length,show(i+1)*4+j-4=i*4+j by omega,ih (by simpa using h)];simp
theorem rv_one(L:List Cl):∀u∈rv L,u.oneCell'=true:=by
 intro u hu;obtain⟨c,_,hc⟩:=List.mem_flatMap.1 hu;simp only[cv,List.mem_cons,List.not_mem_nil,or_false]at hc;rcases hc with rfl|rfl|rfl|rfl<;>rfl
theorem rv_take(L:List Cl)(k:Nat):(rv L).take (k*4)=rv (L.take k):=by
 induction L generalizing k with
 |nil=>simp[rv]
 |cons c r ih=>
  cases k with
  |zero=>simp[rv]
  |succ k=>
   show(cv c++rv r).take ((k+1)*4)=cv c++rv (r.take k);rw[List.take_append,cv_length,List.take_of_length_le (by rw[cv_length];omega),show(k+1)*4-4=k*4 by omega,ih]
structure Kp(F:Nat→Prop)(w w':World):Prop where
 os:w'.os=w.os
 tape:w'.tape=w.tape
 output:w'.output=w.output
 size:w.heap.size≤w'.heap.size
 block:∀k,k<w.heap.size→¬F k→w'.heap[k]?=w.heap[k]?
section
variable {F G:Nat→Prop} {w w' w'':World}
theorem Kp.refl(F:Nat→Prop)(w:World):Kp F w w:=⟨rfl,rfl,rfl,Nat.le_refl _,fun _ _ _=>rfl⟩
theorem Kp.trans(h:Kp F w w')(k:Kp G w' w'')(hg:∀i,i<w.heap.size→G i→F i):Kp F w w'':=
 ⟨k.os.trans h.os,k.tape.trans h.tape,k.output.trans h.output,Nat.le_trans h.size k.size,fun i hi hf=>(k.block i (Nat.lt_of_lt_of_le hi h.size) (fun hG=>hf (hg i hi hG))).trans (h.block i hi hf)⟩
theorem Kp.mono(h:Kp F w w')(hg:∀i,i<w.heap.size→F i→G i):Kp G w w':=⟨h.os,h.tape,h.output,h.size,fun i hi hf=>h.block i hi (fun hF=>hf (hg i hi hF))⟩
theorem Kp.ofBelow(F:Nat→Prop)(h:Below w.heap.size w w'):Kp F w w':=⟨h.os,h.tape,h.output,h.size,fun i hi _=>h.block i hi⟩
theorem Kp.toBelow{B:Nat}(h:Kp F w w')(hB:B≤w.heap.size)(hF:∀i,i<B→¬F i):Below B w w':=⟨h.os,h.tape,h.output,h.size,fun i hi=>h.block i (by omega) (hF i hi)⟩
theorem Kp.below{B:Nat}{a:World}(h:Kp F w w')(hb:Below B a w)(hB:B≤w.heap.size)(hF:∀i,i<B→¬F i):Below B a w':=hb.trans (h.toBelow hB hF)
theorem Kp.thenBelow(h:Kp F w w')(k:Below w'.heap.size w' w''):Kp F w w'':=h.trans (Kp.ofBelow F k) (fun _ _ h=>h)
theorem Kp.alloc(h:Kp F w w')(o:Obj):Kp F w (w'.alloc o):=h.trans (Kp.ofBelow F ((Below.refl _ _).alloc (Nat.le_refl _) o)) (fun _ _ h=>h)
theorem Kp.drew(h:Kp F w w'):Kp F w w'.drew:=h.trans (Kp.ofBelow F (Below.refl _ _).drew) (fun _ _ h=>h)
theorem Kp.set(h:Kp F w w')(b i:Nat)(u:Value)(hF:b<w.heap.size→F b):Kp F w (w'.setCell ⟨b,i,none⟩ u):=
 h.trans (G:=fun k=>k=b) ⟨rfl,rfl,rfl,by simp[World.setCell],fun k _ hk=>Below.heap_setCell _ _ _ _ hk⟩ (fun k hk e=>by subst e;exact hF hk)
theorem Kp.grown{row:Option Nat}(h:Kp F w w')(hg:w'.grownBy w'' row)(hF:∀k,k<w.heap.size→row=some k→F k):Kp F w w'':=
 h.trans (G:=fun k=>row=some k) ⟨hg.os,hg.tape,hg.output,hg.size,fun k hk hne=>hg.block k hk (fun e=>hne e.symm)⟩ (fun k hk e=>hF k hk e)
end
def RW(W:World)(B:Nat)(v:Value)(L:List Cl):Prop:=W.ownsRow B 33 4 v L.length (rv L)
section
variable {W W':World} {B:Nat} {v:Value} {L:List Cl}
theorem RW.nil(W:World)(B:Nat):RW W B (.slice none 0 0) []:=World.ownsRow_nil W B _ 4
theorem RW.form(h:RW W B v L):(v=.slice none 0 0∧L=[])∨∃g cap,v=.slice (some ⟨g,0,none⟩) L.length cap∧B≤g∧g<W.heap.size∧L.length≤cap:=by
 rcases h.2 with⟨h1,h2⟩|⟨g,cap,cur,hv,hb,hg,hc,_⟩
 ·exact .inl ⟨h1,List.length_eq_zero_iff.1 h2⟩
 ·exact .inr ⟨g,cap,hv,hb,(Array.getElem?_eq_some_iff.1 hg).1,hc⟩
theorem RW.mono{B':Nat}(h:RW W B v L)(hB:B'≤B):RW W B' v L:=by
 refine⟨h.1,?_⟩;rcases h.2 with h2|⟨g,cap,cur,hv,hb,r⟩
 ·exact .inl h2
 ·exact .inr ⟨g,cap,cur,hv,Nat.le_trans hB hb,r⟩
theorem RW.keep(h:RW W B v L)(hk:∀g,v.ownBlock=some g→W'.heap[g]?=W.heap[g]?):RW W' B v L:=by
 refine⟨h.1,?_⟩;rcases h.2 with h2|⟨g,cap,cur,hv,hb,hg,r⟩
 ·exact .inl h2
 ·exact .inr ⟨g,cap,cur,hv,hb,(hk g (by rw[hv];rfl)).trans hg,r⟩
theorem RW.lt(h:RW W B v L):∀g,v.ownBlock=some g→B≤g∧g<W.heap.size:=World.ownsRow.lt h
theorem RW.kp{F:Nat→Prop}(h:RW W B v L)(k:Kp F W W')(hF:∀g,v.ownBlock=some g→¬F g):RW W' B v L:=
 h.keep fun g hg=>k.block g (h.lt g hg).2 (hF g hg)
theorem RW.below'(h:RW W B v L)(hb:Below W.heap.size W W'):RW W' B v L:=h.keep fun g hg=>hb.block g (h.lt g hg).2
theorem RW.alloc(h:RW W B v L)(o:Obj):RW (W.alloc o) B v L:=h.below' ((Below.refl _ _).alloc (Nat.le_refl _) o)
theorem RW.range{g cap n:Nat}(h:RW W B (.slice (some ⟨g,0,none⟩) n cap) L){i:Nat}(hi:i<L.length):W.rangeAt g (i*4) (cv L[i]):=fun j u hu=>by
 have hj:j<4:=by have:=(List.getElem?_eq_some_iff.1 hu).1;rwa[cv_length]at this
 have:=World.ownsRow.cells h (g:=g) rfl (i*4+j) u (by rw[rv_get hi hj];exact hu);rwa[Addr.add_mid,Nat.zero_add]at this
theorem RW.c(j:Nat){g cap n:Nat}(h:RW W B (.slice (some ⟨g,0,none⟩) n cap) L){i:Nat}(hi:i<L.length){u:Value}(hu:(cv L[i])[j]?=some u):W.cell? ⟨g,i*4+j,none⟩=some u:=h.range hi j u hu
theorem RW.elem{g cap n:Nat}(h:RW W B (.slice (some ⟨g,0,none⟩) n cap) L){i:Nat}(hi:i<L.length):∃y:Cl,L[i]?=some y∧W.cell? ⟨g,i*4,none⟩=some (.int .i64 y.fl)∧W.cell? ⟨g,i*4+1,none⟩=some (.int .i64 y.ca)∧W.cell? ⟨g,i*4+2,none⟩=some (.int .i64 y.ag)∧W.cell? ⟨g,i*4+3,none⟩=some (.bool y.up):=
 ⟨L[i],List.getElem?_eq_getElem hi,h.c 0 hi rfl,h.c 1 hi rfl,h.c 2 hi rfl,h.c 3 hi rfl⟩
theorem RW.len{a:Option Addr}{n cap:Nat}(h:RW W B (.slice a n cap) L):n=L.length:=by
 rcases h.form with⟨h1,h2⟩|⟨g,c,h1,_⟩
 ·cases h1;rw[h2];rfl
 ·cases h1;rfl
theorem RW.fr{g cap n:Nat}(h:RW W B (.slice (some ⟨g,0,none⟩) n cap) L)(j:Nat):W.frozen? ⟨g,j,none⟩=false:=by
 have hn:=h.len;subst hn;exact World.ownsRow.frozenAt h j
end
theorem quiet_val{P:Program}{C:World→Prop}{K:Act→Prop}{o:Oper}{a:Act}(v:Value)(hrun:∀w,C w→(execOp a.eval o).run P w=.ok (.value v) w)(h:K (a.put o.dst v)):o.quiet P a C K:=
 ⟨v,fun w hw=>by unfold Oper.quietAt;rw[hrun w hw];exact⟨rfl,rfl⟩,h⟩
theorem infoK:(Tryz.prog.info? 33).map (·.size)=some 4:=by kernel_rfl
theorem loadK(w:World)(b o:Nat)(c:Cl)(h:w.rangeAt b o (cv c)):(Instr.loadAt 33 (.pointer (some ⟨b,o,none⟩))).run Tryz.prog w=.ok (.agg #[.int .i64 c.fl,.int .i64 c.ca,.int .i64 c.ag,.bool c.up]) w:=
 run_loadAt_mid (P:=Tryz.prog) w b o 33 (cv c) _ h Tryz.underlying33 rfl infoK
theorem quiet_loadK{C:World→Prop}{K:Act→Prop}{o:Oper}{a:Act}(x:Operand)(b k:Nat){c:Cl}(ho:o.op=.load 33 x)(hx:a.eval x=.pointer (some ⟨b,k,none⟩))(hr:∀w,C w→w.rangeAt b k (cv c))
  (hn:K (a.put o.dst (.agg #[.int .i64 c.fl,.int .i64 c.ca,.int .i64 c.ag,.bool c.up]))):o.quiet Tryz.prog a C K:=
 quiet_val _ (fun w hw=>by unfold execOp;simp only[ho,hx,Sem.run_bind,Sem.run_pure,Result.andThen_ok,loadK w b k c (hr w hw)]) hn
def CB(W:World)(b:Nat)(c:Cl):Prop:=W.heap[b]?=some (.cells #[.int .i64 c.fl,.int .i64 c.ca,.int .i64 c.ag,.bool c.up] 33 (0,0))
section
variable {W W':World} {b:Nat} {c:Cl}
theorem CB.lt(H:CB W b c):b<W.heap.size:=(Array.getElem?_eq_some_iff.1 H).1
theorem CB.range(H:CB W b c):W.rangeAt b 0 (cv c):=fun j v hv=>by
 rw[Nat.zero_add,cell_of_row W b j _ _ _ H,←hv];simp[cv]
theorem CB.c0(H:CB W b c):W.cell? ⟨b,0,none⟩=some (.int .i64 c.fl):=H.range 0 _ rfl
theorem CB.c1(H:CB W b c):W.cell? ⟨b,1,none⟩=some (.int .i64 c.ca):=H.range 1 _ rfl
theorem CB.c2(H:CB W b c):W.cell? ⟨b,2,none⟩=some (.int .i64 c.ag):=H.range 2 _ rfl
theorem CB.c3(H:CB W b c):W.cell? ⟨b,3,none⟩=some (.bool c.up):=H.range 3 _ rfl
theorem CB.fr(H:CB W b c)(i:Nat):W.frozen? ⟨b,i,none⟩=false:=by simp[World.frozen?,show W.heap[b]?=_ from H]
theorem CB.below'(H:CB W b c)(hb:Below W.heap.size W W'):CB W' b c:=(hb.block b H.lt).trans H
theorem CB.alloc(H:CB W b c)(o:Obj):CB (W.alloc o) b c:=H.below' ((Below.refl _ _).alloc (Nat.le_refl _) o)
theorem CB.new(W:World)(c:Cl):CB (W.alloc (.cells #[.int .i64 c.fl,.int .i64 c.ca,.int .i64 c.ag,.bool c.up] 33)) W.heap.size c:=heap_alloc_new W _
theorem CB.kp{G:Nat→Prop}(H:CB W b c)(k:Kp G W W')(hG:¬G b):CB W' b c:=(k.block b H.lt hG).trans H
end
theorem quiet_load3{C:World→Prop}{K:Act→Prop}{o:Oper}{a:Act}(x:Operand)(b k:Nat){v:Value}(ho:o.op=.load 3 x)(hx:a.eval x=.pointer (some ⟨b,k,none⟩))(hr:∀w,C w→w.cell? ⟨b,k,none⟩=some v)
  (h:K (a.put o.dst v)):o.quiet Tryz.prog a C K:=
 quiet_val _ (fun w hw=>by unfold execOp;simp only[ho,hx,Sem.run_bind,Sem.run_pure,Result.andThen_ok,load3 w b k v (hr w hw)]) h
theorem ret_int'{k:IntKind}{a b:Int}(h:a=b):Ending.returned (.int k a)=.returned (.int k b):=by rw[h]
theorem ret_boo{a b:Bool}(h:a=b):Ending.returned (.bool a)=.returned (.bool b):=by rw[h]
theorem wrap_pow(k:Nat)(h:k<64):IntKind.u64.wrap (2^k)=((2^k:Nat):Int):=by
 have h1:(2:Nat)^k<2^64:=Nat.pow_lt_pow_right (by omega) h;have h2:((2:Int)^k)=((2^k:Nat):Int):=by simp
 rw[h2,IntKind.wrap_u64];generalize (2:Nat)^k=m at h1⊢;omega
theorem bits_andNot_u64_nat(a b:Nat)(ha:a<18446744073709551616)(hb:b<18446744073709551616):
  bits .andNot .u64 (a:Int) (b:Int)=((a&&&(18446744073709551615-b):Nat):Int):=by
 have hx:a&&&(18446744073709551615-b)<2^64:=Nat.and_lt_two_pow _ (by omega)
 have h1:(BitVec.ofInt 64 (a:Int)).toNat=a:=by
  rw[BitVec.ofInt_natCast,BitVec.toNat_ofNat];exact Nat.mod_eq_of_lt (by omega)
 have h2:(BitVec.ofInt 64 (b:Int)).toNat=b:=by
  rw[BitVec.ofInt_natCast,BitVec.toNat_ofNat];exact Nat.mod_eq_of_lt (by omega)
 show IntKind.u64.wrap ((BitVec.ofInt 64 (a:Int)&&&~~~BitVec.ofInt 64 (b:Int)).toNat:Int)=_;rw[BitVec.toNat_and,BitVec.toNat_not,h1,h2,IntKind.wrap_u64];have e:2^64-1-b=18446744073709551615-b:=by omega
 rw[e];omega
theorem only_any(f:Int)(w:World):
  Calls Tryz.prog 201 #[.int .i64 f] w fun e w'=>e=.returned (.int .u64 (FM.onlyN f:Nat))∧w'=w:=by
 by_cases h0:0≤f
 ·by_cases h1:f<64
  ·obtain⟨k,rfl⟩:=Int.eq_ofNat_of_zero_le h0;have e:FM.onlyN (k:Int)=2^k:=by unfold FM.onlyN;rw[if_pos ⟨h0,h1⟩];simp
   rw[e];clear e
   go_enter Tryz.func201,Tryz.ntmps201
   go_wp2;go_ret;exact⟨ret_int' (wrap_pow k (by omega)),rfl⟩
  ·have e:FM.onlyN f=0:=by unfold FM.onlyN;rw[if_neg (by omega)]
   rw[e];clear e
   go_enter Tryz.func201,Tryz.ntmps201
   go_wp2;go_ret;exact⟨rfl,rfl⟩
 ·have e:FM.onlyN f=0:=by unfold FM.onlyN;rw[if_neg (by omega)]
  rw[e];clear e;have hd:decide (f<0)=true:=by simp;omega
  go_enter Tryz.func201,Tryz.ntmps201
  go_wp2;go_ret;exact⟨rfl,rfl⟩
theorem has_fact(s:Nat)(f:Int)(hs:s<18446744073709551616):(bits BinOp.and IntKind.u64 (s:Int) ((FM.onlyN f:Nat):Int) !=0)=FM.hasN s f:=by
 rw[bits_and_u64_nat s _ hs (FM.onlyN_lt f),←FM.has_only];rw[Bool.eq_iff_iff];simp
theorem has_any(s:Nat)(f:Int)(w:World)(hs:s<18446744073709551616):
  Calls Tryz.prog 169 #[.int .u64 s,.int .i64 f] w fun e w'=>e=.returned (.bool (FM.hasN s f))∧w'=w:=by
 go_enter Tryz.func169,Tryz.ntmps169
 go_wp2_with (go_at_call 201;refine (only_any _ _).mono ?_;rintro e w' ⟨rfl,rfl⟩)
 go_ret;exact⟨ret_boo (has_fact s f hs),rfl⟩
theorem with_any(s:Nat)(f:Int)(w:World)(hs:s<18446744073709551616):
  Calls Tryz.prog 172 #[.int .u64 s,.int .i64 f] w fun e w'=>e=.returned (.int .u64 (FM.withN s f:Nat))∧w'=w:=by
 go_enter Tryz.func172,Tryz.ntmps172
 go_wp2_with (go_at_call 201;refine (only_any _ _).mono ?_;rintro e w' ⟨rfl,rfl⟩)
 go_ret;exact⟨ret_int' (bits_or_u64_nat s _ hs (FM.onlyN_lt f)),rfl⟩
theorem less_any(s:Nat)(f:Int)(w:World)(hs:s<18446744073709551616):
  Calls Tryz.prog 173 #[.int .u64 s,.int .i64 f] w fun e w'=>e=.returned (.int .u64 (FM.lessN s f:Nat))∧w'=w:=by
 go_enter Tryz.func173,Tryz.ntmps173
 go_wp2_with (go_at_call 201;refine (only_any _ _).mono ?_;rintro e w' ⟨rfl,rfl⟩)
 go_ret;exact⟨ret_int' (bits_andNot_u64_nat s _ hs (FM.onlyN_lt f)),rfl⟩
theorem below_drewN{B:Nat}{a w:World}(h:Below B a w):∀n,Below B a (w.drewN n)
 |_=>⟨h.os,h.tape,h.output,h.size,h.block⟩
theorem keyOf_any(c:Cl)(w:World):
  Calls Tryz.prog 202 #[.agg #[.int .i64 c.fl,.int .i64 c.ca,.int .i64 c.ag,.bool c.up]] w fun e w'=>e=.returned (.agg #[.int .i64 c.fl,.int .i64 c.ca,.bool c.up])∧Below w.heap.size w w':=by
 go_enter Tryz.func202,Tryz.ntmps202
 go_wp2;refine bodyPost_ret (v:=.agg #[.int .i64 c.fl,.int .i64 c.ca,.bool c.up]) (by simp[results,Tryz.results202,go_sem]) rfl ⟨rfl,?_⟩;exact((Below.refl _ w).alloc (Nat.le_refl _) _).alloc (by simp) _
theorem serves_any(car floor:Int)(u d:Bool)(c:Cl)(w:World):
  Calls Tryz.prog 101 #[.agg #[.int .i64 car,.int .i64 floor,.bool u,.bool d],.agg #[.int .i64 c.fl,.int .i64 c.ca,.int .i64 c.ag,.bool c.up]] w fun e w'=>e=.returned (.bool (KM.srv car floor u d c))∧Below w.heap.size w w':=by
 go_enter Tryz.func101,Tryz.ntmps101
 go_wp2_with (go_in)
 all_goals
  go_ret;refine⟨ret_boo ?_,?_⟩
  ·unfold KM.srv;simp_all
   try rfl
  ·first
    |exact((Below.refl _ w).alloc (Nat.le_refl _) _).alloc (by simp) _
    |exact(((Below.refl _ w).alloc (Nat.le_refl _) _).alloc (by simp) _).alloc (by simp;omega) _
    |exact((((Below.refl _ w).alloc (Nat.le_refl _) _).alloc (by simp) _).alloc (by simp;omega) _).alloc (by simp;omega) _
def PB(W:World)(b:Nat)(F C:Int)(v:Value)(s:Nat):Prop:=W.heap[b]?=some (.cells #[.int .i64 F,.int .i64 C,v,.int .u64 (s:Int)] 109 (0,0))
section
variable {W W':World} {b:Nat} {F C:Int} {v:Value} {s:Nat}
theorem PB.lt(H:PB W b F C v s):b<W.heap.size:=(Array.getElem?_eq_some_iff.1 H).1
theorem PB.c0(H:PB W b F C v s):W.cell? ⟨b,0,none⟩=some (.int .i64 F):=by simp[World.cell?,show W.heap[b]?=_ from H]
theorem PB.c1(H:PB W b F C v s):W.cell? ⟨b,1,none⟩=some (.int .i64 C):=by simp[World.cell?,show W.heap[b]?=_ from H]
theorem PB.c2(H:PB W b F C v s):W.cell? ⟨b,2,none⟩=some v:=by simp[World.cell?,show W.heap[b]?=_ from H]
theorem PB.c3(H:PB W b F C v s):W.cell? ⟨b,3,none⟩=some (.int .u64 (s:Int)):=by simp[World.cell?,show W.heap[b]?=_ from H]
theorem PB.fr(H:PB W b F C v s)(i:Nat):W.frozen? ⟨b,i,none⟩=false:=by simp[World.frozen?,show W.heap[b]?=_ from H]
theorem PB.keep(H:PB W b F C v s)(hk:W'.heap[b]?=W.heap[b]?):PB W' b F C v s:=hk.trans H
theorem PB.below'(H:PB W b F C v s)(hb:Below W.heap.size W W'):PB W' b F C v s:=H.keep (hb.block b H.lt)
theorem PB.alloc(H:PB W b F C v s)(o:Obj):PB (W.alloc o) b F C v s:=H.below' ((Below.refl _ _).alloc (Nat.le_refl _) o)
theorem PB.kp{G:Nat→Prop}(H:PB W b F C v s)(k:Kp G W W')(hG:¬G b):PB W' b F C v s:=H.keep (k.block b H.lt hG)
theorem PB.set2(H:PB W b F C v s)(u:Value):PB (W.setCell ⟨b,2,none⟩ u) b F C u s:=heap_setCell_same W b 2 _ _ u H
theorem PB.set3(H:PB W b F C v s)(u:Nat):PB (W.setCell ⟨b,3,none⟩ (.int .u64 (u:Int))) b F C v u:=heap_setCell_same W b 3 _ _ _ H
end
theorem new_any(a:Array Value)(F C:Int)(h0:a[0]?=some (.int .i64 F))(h1:a[1]?=some (.int .i64 C))(w:World):
  Calls Tryz.prog 35 #[.agg a] w fun e w'=>∃b,e=.returned (.pointer (some ⟨b,0,none⟩))∧w.heap.size≤b∧Below w.heap.size w w'∧PB w' b F C (.slice none 0 0) 0:=by
 go_enter Tryz.func35,Tryz.ntmps35
 go_wp2;go_ret;refine⟨_,rfl,?_,((Below.refl _ w).alloc (Nat.le_refl _) _).alloc (by simp) _,heap_alloc2_new w _ _⟩;omega
theorem hasFloor_any(b:Nat)(F C:Int)(v:Value)(s:Nat)(f:Int)(w:World)(H:PB w b F C v s):
  Calls Tryz.prog 167 #[.pointer (some ⟨b,0,none⟩),.int .i64 f] w fun e w'=>e=.returned (.bool (decide (0≤f)&&decide (f<F)))∧w'=w:=by
 have c0:=H.c0;clear H
 go_enter Tryz.func167,Tryz.ntmps167
 go_wp2
 all_goals
  go_ret;refine⟨ret_boo ?_,rfl⟩;simp_all<;>omega
theorem canBe_any(b:Nat)(F C:Int)(v:Value)(s:Nat)(c:Cl)(w:World)(H:PB w b F C v s)(h1:2≤F)(h2:F≤64):
  Calls Tryz.prog 168 #[.pointer (some ⟨b,0,none⟩),.agg #[.int .i64 c.fl,.int .i64 c.ca,.int .i64 c.ag,.bool c.up]] w fun e w'=>e=.returned (.bool (KM.can F c))∧Below w.heap.size w w':=by
 have c0:=H.c0;have hlt:=H.lt;clear H
 go_enter Tryz.func168,Tryz.ntmps168
 go_wp2_with (go_in)
 all_goals try (go_quiet (fail);go_wp2)
 all_goals
  go_ret;refine⟨ret_boo ?_,?_⟩
  ·unfold KM.can;simp_all
   try rfl
  ·first
    |exact((Below.refl _ w).alloc (Nat.le_refl _) _).alloc (by simp) _
    |exact below_drewN (((Below.refl _ w).alloc (Nat.le_refl _) _).alloc (by simp) _) _
def KB(W:World)(b:Nat)(c:Cl):Prop:=W.heap[b]?=some (.cells #[.int .i64 c.fl,.int .i64 c.ca,.bool c.up] 294 (0,0))
section
variable {W W':World} {b:Nat} {c:Cl}
theorem KB.lt(H:KB W b c):b<W.heap.size:=(Array.getElem?_eq_some_iff.1 H).1
theorem KB.c0(H:KB W b c):W.cell? ⟨b,0,none⟩=some (.int .i64 c.fl):=by simp[World.cell?,show W.heap[b]?=_ from H]
theorem KB.c1(H:KB W b c):W.cell? ⟨b,1,none⟩=some (.int .i64 c.ca):=by simp[World.cell?,show W.heap[b]?=_ from H]
theorem KB.c2(H:KB W b c):W.cell? ⟨b,2,none⟩=some (.bool c.up):=by simp[World.cell?,show W.heap[b]?=_ from H]
theorem KB.below'(H:KB W b c)(hb:Below W.heap.size W W'):KB W' b c:=(hb.block b H.lt).trans H
end
theorem alike_any(c:Cl)(w:World):
  Calls Tryz.prog 171 #[.agg #[.int .i64 c.fl,.int .i64 c.ca,.int .i64 c.ag,.bool c.up]] w fun e w'=>∃B,e=.returned (.func (.func 203) #[] #[.pointer (some ⟨B,0,none⟩)])∧w.heap.size≤B∧Below w.heap.size w w'∧KB w' B c:=by
 go_enter Tryz.func171,Tryz.ntmps171
 go_wp2_with (go_at_call 202;refine (keyOf_any _ _).mono ?_;rintro e w' ⟨rfl,hb⟩)
 go_ret;have h1:=hb.size;simp only[World.size_alloc]at h1;refine⟨_,rfl,by omega,?_,heap_alloc_new w' _⟩;exact((((Below.refl _ w).alloc (Nat.le_refl _) _).trans (hb.mono (by simp)))).alloc (by omega) _
theorem infoKey:(Tryz.prog.info? 294).map (·.size)=some 3:=by kernel_rfl
theorem loadKey(w:World)(b:Nat)(c:Cl)(h:KB w b c):(Instr.loadAt 294 (.pointer (some ⟨b,0,none⟩))).run Tryz.prog w=.ok (.agg #[.int .i64 c.fl,.int .i64 c.ca,.bool c.up]) w:=by
 simp only[Instr.loadAt,Instr.sureAddr,Sem.run_bind,Sem.run_pure,Result.andThen_ok,run_loadVar_row (P:=Tryz.prog) w b 294 294 _ _ _ h Tryz.underlying294 rfl infoKey]
theorem quiet_loadKey{C:World→Prop}{K:Act→Prop}{o:Oper}{a:Act}(x:Operand)(b:Nat){c:Cl}(ho:o.op=.load 294 x)(hx:a.eval x=.pointer (some ⟨b,0,none⟩))(hr:∀w,C w→KB w b c)
  (hn:K (a.put o.dst (.agg #[.int .i64 c.fl,.int .i64 c.ca,.bool c.up]))):o.quiet Tryz.prog a C K:=
 quiet_val _ (fun w hw=>by unfold execOp;simp only[ho,hx,Sem.run_bind,Sem.run_pure,Result.andThen_ok,loadKey w b c (hr w hw)]) hn
theorem eqKey(w:World)(c x:Cl):(binOp .eql 294 (.agg #[.int .i64 x.fl,.int .i64 x.ca,.bool x.up]) (.agg #[.int .i64 c.fl,.int .i64 c.ca,.bool c.up])).run Tryz.prog w=.ok (.bool (KM.like c x)) w:=by
 have u3:=Tryz.underlying3;have u4:=Tryz.underlying4;have a3:=Tryz.isAgg3;have a4:=Tryz.isAgg4;have z3:=Tryz.sizeOf3;have z4:=Tryz.sizeOf4;have hS:Tryz.prog.underlying 294=some (.struct (Tryz.prog.fieldsOf 294)):=by kernel_rfl
 have hp:Tryz.prog.stoodInHeld 294=false:=by kernel_rfl
 rw[run_eql_struct,show(10000:Nat)=9999+1 from rfl,run_equalIn_agg w 9999 294 _ _ hS hp];simp only[Program.fieldsOf,Tryz.underlying294];go_simp;unfold KM.like;by_cases h1:x.fl=c.fl<;>by_cases h2:x.ca=c.ca<;>cases x.up<;>cases c.up<;>simp[h1,h2,Ne.symm]
 all_goals simp[Ne.symm h1]
theorem eqCall(w:World)(x y:Cl):(Op.equalIn 10000 33 (.agg #[.int .i64 x.fl,.int .i64 x.ca,.int .i64 x.ag,.bool x.up]) (.agg #[.int .i64 y.fl,.int .i64 y.ca,.int .i64 y.ag,.bool y.up])).run Tryz.prog w=.ok (KM.same x y) w:=by
 have u3:=Tryz.underlying3;have u4:=Tryz.underlying4;have a3:=Tryz.isAgg3;have a4:=Tryz.isAgg4;have z3:=Tryz.sizeOf3;have z4:=Tryz.sizeOf4;have hS:Tryz.prog.underlying 33=some (.struct (Tryz.prog.fieldsOf 33)):=by kernel_rfl
 have hp:Tryz.prog.stoodInHeld 33=false:=by kernel_rfl
 rw[show(10000:Nat)=9999+1 from rfl,run_equalIn_agg w 9999 33 _ _ hS hp];simp only[Program.fieldsOf,Tryz.underlying33];go_simp;unfold KM.same;by_cases h1:x.fl=y.fl<;>by_cases h2:x.ca=y.ca<;>by_cases h3:x.ag=y.ag<;>cases x.up<;>cases y.up<;>simp[h1,h2,h3]
theorem alike1_any(c x:Cl)(B:Nat)(w:World)(H:KB w B c):
  Calls Tryz.prog 203 #[.agg #[.int .i64 x.fl,.int .i64 x.ca,.int .i64 x.ag,.bool x.up],.pointer (some ⟨B,0,none⟩)] w fun e w'=>e=.returned (.bool (KM.like c x))∧Below w.heap.size w w':=by
 have W1:=CB.new w x;have h0:Below w.heap.size w (w.alloc (.cells #[.int .i64 x.fl,.int .i64 x.ca,.int .i64 x.ag,.bool x.up] 33)):=(Below.refl _ w).alloc (Nat.le_refl _) _;have H1:=H.below' h0;have HB0:Hid (Below w.heap.size w (w.alloc (.cells #[.int .i64 x.fl,.int .i64 x.ca,.int .i64 x.ag,.bool x.up] 33))):=h0;have hx:∀w',Below (w.alloc (.cells #[.int .i64 x.fl,.int .i64 x.ca,.int .i64 x.ag,.bool x.up] 33)).heap.size (w.alloc (.cells #[.int .i64 x.fl,.int .i64 x.ca,.int .i64 x.ag,.bool x.up] 33)) w'→w'.rangeAt w.heap.size 0 (cv x):=fun w' h=>(W1.below' h).range;have hk:∀w',Below (w.alloc (.cells #[.int .i64 x.fl,.int .i64 x.ca,.int .i64 x.ag,.bool x.up] 33)).heap.size (w.alloc (.cells #[.int .i64 x.fl,.int .i64 x.ca,.int .i64 x.ag,.bool x.up] 33)) w'→KB w' B c:=fun w' h=>H1.below' h;have HX:=Hd hx;have HK:=Hd hk;clear H H1 W1 h0 hx hk
 go_enter Tryz.func203,Tryz.ntmps203
 go_wp2_with fail
 generalize w.alloc (.cells #[.int .i64 x.fl,.int .i64 x.ca,.int .i64 x.ag,.bool x.up] 33)=W1 at HB0 HX HK⊢;refine wp_region_quiet (C:=fun w'=>Below W1.heap.size W1 w') (by kernel_rfl) (by kernel_rfl) ((Below.refl _ _).drew) ?_;simp only[];have hq:=eqKey;unfold wpQuiet;generalize hK:wpQuiet _ _ _ _ _=K;rw[if_pos (by go_simp)];refine quiet_loadK _ w.heap.size 0 rfl rfl HX.out ?_;go_simp;subst hK;unfold wpQuiet;generalize hK:wpQuiet _ _ _ _ _=K;go_simp;refine⟨_,fun w' hw=>(keyOf_any x _).mono fun e w'' hh=>⟨hh.1,below_class hw hh.2⟩,?_⟩;subst hK;unfold wpQuiet;generalize hK:wpQuiet _ _ _ _ _=K;rw[if_pos (by go_simp)];refine quiet_loadKey _ B rfl rfl HK.out ?_;go_simp;subst hK
 iterate 2 (unfold wpQuiet;generalize hK:wpQuiet _ _ _ _ _=K;go_simp;refine⟨_,fun _ _=>rfl,?_⟩;subst hK)
 refine wpQuiet_nil ?_;intro w' hw;go_wp2;go_ret;exact⟨rfl,HB0.out.trans (hw.mono HB0.out.size)⟩
def Pr(g:Nat)(rb lb:Array Value)(p:Cl→Bool)(w:World):Prop:=
 ∀(W:World) (x:Cl),Below w.heap.size w W→Calls Tryz.prog g (rb++ #[.agg #[.int .i64 x.fl,.int .i64 x.ca,.int .i64 x.ag,.bool x.up]]++lb) W fun e w'=>e=.returned (.bool (p x))∧Below W.heap.size W w'
def Ix(p:Cl→Bool)(L:List Cl)(i:Int):Prop:=
 (i= -1∧∀(j:Nat) x,L[j]?=some x→p x=false)∨∃(k:Nat) (x:Cl),L[k]?=some x∧i=(k:Int)∧p x=true∧∀(j:Nat) y,j<k→L[j]?=some y→p y=false
theorem indexFunc_any(g:Nat)(rb lb:Array Value)(p:Cl→Bool)(eg:∀args w,(callFunc g args).run Tryz.prog w=.ok (.enter g args) w)(B:Nat)(v:Value)(L:List Cl)(w:World)(hR:RW w B v L)(hL:L.length≤128)(hp:Pr g rb lb p w):
  Calls Tryz.prog 137 #[v,.func (.func g) rb lb] w fun e w'=>∃i:Int,e=.returned (.int .i64 i)∧Below w.heap.size w w'∧Ix p L i:=by
 rcases hR.form with⟨rfl,rfl⟩|⟨b,cap,rfl,hB,hlt,hcap⟩
 ·go_enter Tryz.func137,Tryz.ntmps137
  go_wp2;refine wp_loop_rounds 1 ?_;rw[rounds_succ];go_wp2;go_ret;exact⟨-1,rfl,Below.refl _ _,.inl ⟨rfl,fun j x h=>by simp at h⟩⟩
 ·generalize hn:L.length=n at hcap hL;have HN:Hid (L.length=n):=hn;have HR:Hid (RW w B (.slice (some ⟨b,0,none⟩) L.length cap) L):=hR;have HP:Hid (Pr g rb lb p w):=hp;clear hn hR hp
  go_enter Tryz.func137,Tryz.ntmps137
  go_wp2
  go_loopw [5,8] (fun _ i wr=>∃k:Nat,k≤n∧i=.int .i64 k∧Below w.heap.size w wr∧Hid (∀(j:Nat) y,j<k→L[j]?=some y→p y=false)) (fun _ i _=>n-(intOf i).toNat)
  case atStart=>exact⟨0,Nat.zero_le _,rfl,Below.refl _ _,fun j _ h=>absurd h (by omega)⟩
  case round=>
   obtain⟨k,hk,rfl,hbel,HNO⟩:=hrel;by_cases hlt2:k<n
   ·have hkz:(k:Int)<(n:Int):=by omega
    have hkL:k<L.length:=by have:=HN.out;omega
    obtain⟨y,hy,c0,c1,c2,c3⟩:=(HR.out.below' hbel).elem hkL;have hc:=HP.out wr y hbel;have HBEL:=Hd hbel;have HY:=Hd hy;clear hkL hbel hy;cases hq:p y with
    |true=>
     rw[hq]at hc
     go_wp2_with (go_at_fn g;refine hc.mono ?_;rintro e w' ⟨rfl,hb'⟩)
     go_ret;exact⟨k,rfl,below_class HBEL.out hb',.inr ⟨k,y,HY.out,rfl,hq,HNO.out⟩⟩
    |false=>
     rw[hq]at hc
     go_wp2_with (go_at_fn g;refine hc.mono ?_;rintro e w' ⟨rfl,hb'⟩)
     go_roundw
     case rel=>
      refine⟨k+1,by omega,by go_num,below_class HBEL.out hb',(show Hid _ from fun j z hj hz=> ?_)⟩;by_cases e:j=k
      ·subst e;rw[HY.out]at hz;cases hz;exact hq
      ·exact HNO.out j z (by omega) hz
     case measure=>simp[intOf];omega
   ·have hkn:k=n:=by omega
    have HNO2:Hid (∀(j:Nat) y,j<n→L[j]?=some y→p y=false):=hkn▸HNO;have hkz:¬(k:Int)<(n:Int):=by omega
    have HBEL:=Hd hbel;clear hkn HNO hbel;go_wp2;go_ret;refine⟨-1,rfl,HBEL.out,.inl ⟨rfl,fun j x hx=>HNO2.out j x ?_ hx⟩⟩;have:=(List.getElem?_eq_some_iff.1 hx).1;have:=HN.out;omega
theorem Ix.any{p:Cl→Bool}{L:List Cl}{i:Int}(h:Ix p L i):decide (0≤i)=L.any p:=by
 rcases h with⟨rfl,h⟩|⟨k,x,hx,rfl,hp,_⟩
 ·have:L.any p=false:=by
   rw[List.any_eq_false];intro x hx;obtain⟨j,hj⟩:=List.getElem?_of_mem hx;rw[h j x hj];simp
  rw[this];rfl
 ·have:L.any p=true:=List.any_eq_true.2 ⟨x,List.mem_of_getElem? hx,hp⟩;rw[this];simp
theorem containsFunc_any(g:Nat)(rb lb:Array Value)(p:Cl→Bool)(eg:∀args w,(callFunc g args).run Tryz.prog w=.ok (.enter g args) w)(B:Nat)(v:Value)(L:List Cl)(w:World)(hR:RW w B v L)(hL:L.length≤128)(hp:Pr g rb lb p w):
  Calls Tryz.prog 170 #[v,.func (.func g) rb lb] w fun e w'=>e=.returned (.bool (L.any p))∧Below w.heap.size w w':=by
 have HC:=Hd (indexFunc_any g rb lb p eg B v L w hR hL hp);clear hR hL hp eg
 go_enter Tryz.func170,Tryz.ntmps170
 go_wp2_with fail
 refine HC.out.mono ?_;rintro e w' ⟨i,rfl,hb,hi⟩;have HI:=Hd hi;clear hi HC;go_wp2;go_ret;exact⟨ret_boo HI.out.any,hb⟩
theorem rv_set(L:List Cl)(i:Nat)(y:Cl)(h:i<L.length):((((rv L).set (i*4) (.int .i64 y.fl)).set (i*4+1) (.int .i64 y.ca)).set (i*4+2) (.int .i64 y.ag)).set (i*4+3) (.bool y.up)=rv (L.set i y):=by
 induction L generalizing i with
 |nil=>simp at h
 |cons c r ih=>
  cases i with
  |zero=>simp[rv,cv]
  |succ i=>
   have:=ih i (by simpa using h);show((((cv c++rv r).set _ _).set _ _).set _ _).set _ _=cv c++rv (r.set i y);rw[←this];simp only[cv,List.cons_append,List.nil_append,show(i+1)*4=(i*4)+1+1+1+1 by omega,show(i*4)+1+1+1+1+1=(i*4+1)+1+1+1+1 by omega,show(i*4)+1+1+1+1+2=(i*4+2)+1+1+1+1 by omega,show(i*4)+1+1+1+1+3=(i*4+3)+1+1+1+1 by omega,List.set_cons_succ]
theorem rv_setAge(L:List Cl)(i:Nat)(y:Cl)(g:Int)(h:L[i]?=some y):(rv L).set (i*4+2) (.int .i64 g)=rv (L.set i ⟨y.fl,y.ca,g,y.up⟩):=by
 induction L generalizing i with
 |nil=>simp at h
 |cons c r ih=>
  cases i with
  |zero=>simp at h;subst h;simp[rv,cv]
  |succ i=>
   have:=ih i (by simpa using h);show(cv c++rv r).set _ _=cv c++rv (r.set i _);rw[←this];simp only[cv,List.cons_append,List.nil_append,show(i+1)*4+2=(i*4+2)+1+1+1+1 by omega,List.set_cons_succ]
section
variable {W:World} {B:Nat} {L:List Cl} {g cap n:Nat}
theorem RW.one(h:RW W B (.slice (some ⟨g,0,none⟩) n cap) L)(j:Nat)(u:Value):
  (W.setCell ⟨g,j,none⟩ u).ownsRow B 33 4 (.slice (some ⟨g,0,none⟩) n cap) n ((rv L).set j u):=by
 have hn:=h.len;subst hn;exact(World.ownsRow.stored h j u).1
theorem RW.put(h:RW W B (.slice (some ⟨g,0,none⟩) n cap) L){i:Nat}(hi:i<L.length)(y:Cl):RW (W.setCells g (i*4) (cv y)) B (.slice (some ⟨g,0,none⟩) n cap) (L.set i y):=by
 have hn:=h.len;have h1:=h.one (i*4) (.int .i64 y.fl);have h2:=(World.ownsRow.stored h1 (i*4+1) (.int .i64 y.ca)).1;have h3:=(World.ownsRow.stored h2 (i*4+2) (.int .i64 y.ag)).1;have h4:=(World.ownsRow.stored h3 (i*4+3) (.bool y.up)).1;rw[rv_set L i y hi]at h4;unfold RW;rw[List.length_set,←hn];exact h4
theorem RW.aged(h:RW W B (.slice (some ⟨g,0,none⟩) n cap) L){i:Nat}{y:Cl}(hi:L[i]?=some y)(a:Int):RW (W.setCell ⟨g,i*4+2,none⟩ (.int .i64 a)) B (.slice (some ⟨g,0,none⟩) n cap) (L.set i ⟨y.fl,y.ca,a,y.up⟩):=by
 have hn:=h.len;have h1:=h.one (i*4+2) (.int .i64 a);rw[rv_setAge L i y a hi]at h1;unfold RW;rw[List.length_set,←hn];exact h1
end
theorem setCells_block(b:Nat)(t:TypeId):∀(vs:List Value) (o:Nat) (w:World) (cur:Array Value),w.heap[b]?=some (.cells cur t (0,0))→
  ∃cur',(w.setCells b o vs).heap[b]?=some (.cells cur' t (0,0))∧cur'.size=cur.size∧cur'.toList.take o=cur.toList.take o
 |[],_,_,cur,h=>⟨cur,h,rfl,rfl⟩
 |v::r,o,w,cur,h=>by
  obtain⟨c',h1,h2,h3⟩:=setCells_block b t r (o+1) (w.setCell ⟨b,o,none⟩ v) (cur.setIfInBounds o v) (heap_setCell_same w b o cur t v h);refine⟨c',h1,by rw[h2];simp,?_⟩;have h4:=congrArg (List.take o) h3;rw[List.take_take,List.take_take,Nat.min_eq_left (Nat.le_succ o),Array.toList_setIfInBounds,List.take_set]at h4;rw[h4,List.set_eq_of_length_le (by simp;omega)]
theorem setCells_other(b:Nat):∀(vs:List Value) (o:Nat) (w:World) (k:Nat),k≠b→(w.setCells b o vs).heap[k]?=w.heap[k]?
 |[],_,_,_,_=>rfl
 |v::r,o,w,k,h=>by
  rw[World.setCells,setCells_other b r (o+1) _ k h];exact Below.heap_setCell w ⟨b,o,none⟩ v k h
theorem setCells_size(b:Nat):∀(vs:List Value) (o:Nat) (w:World),(w.setCells b o vs).heap.size=w.heap.size
 |[],_,_=>rfl
 |v::r,o,w=>by rw[World.setCells,setCells_size b r];simp[World.setCell]
theorem setCells_still(b:Nat):∀(vs:List Value) (o:Nat) (w:World),(w.setCells b o vs).os=w.os∧(w.setCells b o vs).tape=w.tape∧(w.setCells b o vs).output=w.output
 |[],_,_=>⟨rfl,rfl,rfl⟩
 |v::r,o,w=>by rw[World.setCells];exact setCells_still b r (o+1) _
theorem Kp.setCells{F:Nat→Prop}{w w':World}(h:Kp F w w')(b o:Nat)(vs:List Value)(hF:b<w.heap.size→F b):Kp F w (w'.setCells b o vs):=
 h.trans (G:=fun k=>k=b) ⟨(setCells_still b vs o w').1,(setCells_still b vs o w').2.1,(setCells_still b vs o w').2.2,by rw[setCells_size];exact Nat.le_refl _,fun k _ hk=>setCells_other b vs o w' k hk⟩ (fun k hk e=>by subst e;exact hF hk)
theorem RW.cut{W:World}{B:Nat}{L:List Cl}{g cap n:Nat}(h:RW W B (.slice (some ⟨g,0,none⟩) n cap) L)(k:Nat)(hk:k≤L.length)(vs:List Value):RW (W.setCells g (k*4) vs) B (.slice (some ⟨g,0,none⟩) k cap) (L.take k):=by
 have hn:=h.len;subst hn;have hl:(L.take k).length=k:=by rw[List.length_take];omega
 refine⟨rv_length _,.inr ?_⟩;rcases h.2 with⟨h',_⟩|⟨g',cap',cur,h',hb,hg,hnc,hcm,hcs,htake⟩
 ·simp at h'
 ·simp only[Value.slice.injEq,Option.some.injEq,Addr.mk.injEq,and_true,true_and]at h';obtain⟨rfl,rfl⟩:=h';obtain⟨c',h1,h2,h3⟩:=setCells_block g 33 vs (k*4) W cur hg;refine⟨g,cap,c',by rw[hl],hb,h1,by rw[hl];omega,hcm,by rw[h2];exact hcs,?_⟩;rw[hl,h3,←rv_take,←htake,List.take_take,Nat.min_eq_left (by omega)]
theorem RW.there{W:World}{B:Nat}{L:List Cl}{g cap n:Nat}(h:RW W B (.slice (some ⟨g,0,none⟩) n cap) L)(o m:Nat)(hm:o+m≤L.length*4):W.there g o m:=fun j hj=>by
 refine⟨?_,h.fr _⟩;have hlt:(o+j)/4<L.length:=by omega
 have hmod:(o+j)%4<4:=Nat.mod_lt _ (by omega);have:=h.c _ hlt (List.getElem?_eq_getElem (l:=cv (L[(o+j)/4]'hlt)) (i:=(o+j)%4) (by rw[cv_length];exact hmod));rw[show(o+j)/4*4+(o+j)%4=o+j by omega]at this;rw[this];rfl
theorem clearK(w:World)(ty:TypeId)(b o n c:Nat)(hn:0<n)(ht:w.there b o (n*4)):
  ∃vs,(Builtin.clear_ #[38] ty #[.slice (some ⟨b,o,none⟩) n c]).run Tryz.prog w=.ok (.tuple #[]) (w.setCells b o vs):=by
 have hv:∀w,(zeroValue 33).run Tryz.prog w=.ok (.agg #[.int .i64 0,.int .i64 0,.int .i64 0,.bool false]) w:=Tryz.zeroValue33;have hsz:(Builtin.zeroCells (Value.agg #[.int .i64 0,.int .i64 0,.int .i64 0,.bool false]).cells n).size=n*4:=by rw[size_zeroCells];rfl
 have h1:∀v∈(Builtin.zeroCells (Value.agg #[.int .i64 0,.int .i64 0,.int .i64 0,.bool false]).cells n).toList,v.oneCell'=true:=by
  intro v hv;simp only[Builtin.zeroCells,Value.cells]at hv;simp at hv;obtain⟨i,_,rfl⟩:=hv;have:i%4<4:=Nat.mod_lt _ (by omega);generalize i%4=k at this⊢
  match k,this with
  |0,_=>rfl
  |1,_=>rfl
  |2,_=>rfl
  |3,_=>rfl
 have hst:=run_storeCells_cells (P:=Tryz.prog) b o (Builtin.zeroCells (Value.agg #[.int .i64 0,.int .i64 0,.int .i64 0,.bool false]).cells n).toList 0 w (fun j hj=>by simpa using (ht j (by simpa[hsz]using hj)).1) (fun j hj=>by simpa using (ht j (by simpa[hsz]using hj)).2) h1;simp only[Nat.add_zero]at hst;obtain⟨m,rfl⟩:∃m,n=m+1:=⟨n-1,by omega⟩;refine⟨(Builtin.zeroCells (Value.agg #[.int .i64 0,.int .i64 0,.int .i64 0,.bool false]).cells (m+1)).toList,?_⟩;simp[Builtin.clear_,run_underlying Tryz.underlying38,hv,hst]
structure Ki(q:Cl→Bool)(L M:List Cl)(i j:Nat):Prop where
 len:M.length=L.length
 ij:i<j
 jl:j≤L.length
 tk:M.take i=(L.take j).filter q
 dr:M.drop j=L.drop j
section
variable {q:Cl→Bool} {L M:List Cl} {i j:Nat} {y:Cl}
theorem Ki.at(h:Ki q L M i j):M[j]?=L[j]?:=by
 have:=congrArg (fun l=>l[0]?) h.dr;simpa using this
theorem take_get{L:List Cl}{j:Nat}{y:Cl}(h:L[j]?=some y):L.take (j+1)=L.take j++[y]:=by
 rw[List.take_add_one,h];rfl
theorem Ki.keep(h:Ki q L M i j)(hy:L[j]?=some y)(hq:q y=true):Ki q L (M.set i y) (i+1) (j+1):=by
 have hj:j<L.length:=(List.getElem?_eq_some_iff.1 hy).1;have hij:=h.ij;have hl:=h.len;refine⟨by simpa using h.len,by omega,by omega,?_,?_⟩
 ·rw[take_get hy,List.filter_append,List.filter_cons_of_pos hq,←h.tk];rw[take_get (L:=M.set i y) (j:=i) (y:=y) (by rw[List.getElem?_set_self (by omega)]),List.take_set,List.set_eq_of_length_le (by simp;omega)]
  rfl
 ·rw[List.drop_set_of_lt (by omega)];have:=congrArg (List.drop 1) h.dr;rwa[List.drop_drop,List.drop_drop]at this
theorem Ki.skip(h:Ki q L M i j)(hy:L[j]?=some y)(hq:q y=false):Ki q L M i (j+1):=by
 have hj:j<L.length:=(List.getElem?_eq_some_iff.1 hy).1;have hij:=h.ij;refine⟨h.len,by omega,by omega,?_,?_⟩
 ·rw[take_get hy,List.filter_append,List.filter_cons_of_neg (by simp[hq]),h.tk];simp
 ·have:=congrArg (List.drop 1) h.dr;rwa[List.drop_drop,List.drop_drop]at this
theorem Ki.done(h:Ki q L M i L.length):M.take i=L.filter q:=by rw[h.tk,List.take_length]
theorem Ki.start(hy:L[i]?=some y)(hq:q y=false)(hall:∀(j:Nat) z,j<i→L[j]?=some z→q z=true):Ki q L L i (i+1):=by
 have hj:i<L.length:=(List.getElem?_eq_some_iff.1 hy).1;refine⟨rfl,by omega,by omega,?_,rfl⟩;rw[take_get hy,List.filter_append,List.filter_cons_of_neg (by simp[hq])];simp only[List.filter_nil,List.append_nil]
 symm
 rw[List.filter_eq_self];intro z hz;obtain⟨k,hk⟩:=List.getElem?_of_mem hz;rw[List.getElem?_take]at hk;split at hk
 ·exact hall k z (by assumption) hk
 ·cases hk
end
def PrA(g:Nat)(rb lb:Array Value)(p:Cl→Bool):Prop:=
 ∀(W:World) (x:Cl),Calls Tryz.prog g (rb.push (.agg #[.int .i64 x.fl,.int .i64 x.ca,.int .i64 x.ag,.bool x.up])++lb) W fun e w'=>e=.returned (.bool (p x))∧Below W.heap.size W w'
theorem PrA.pr{g:Nat}{rb lb:Array Value}{p:Cl→Bool}(h:PrA g rb lb p)(w:World):Pr g rb lb p w:=fun W x _=>by simpa using h W x
theorem wpList_storeK{ops:Array Oper}{rest:List Oper}{op:Oper}{a:Act}{w:World}{Q:Exit→Act→World→Prop}(hgd:op.guard=none)(x y:Operand)(ho:op.op=.store 33 x y)
  (b o:Nat) (c:Cl) (hx:a.eval x=.pointer (some ⟨b,o,none⟩)) (hy:a.eval y=.agg #[.int .i64 c.fl,.int .i64 c.ca,.int .i64 c.ag,.bool c.up]) (ht:w.there b o 4)
  (h:wpList Tryz.prog ops Q rest (a.put op.dst undef) (w.setCells b o (cv c))):wpList Tryz.prog ops Q (op::rest) a w:=
 wpList_store_mid hgd 33 x y ho b o _ hx hy ht infoK (by simp[Value.oneCell']) h
theorem deleteFunc_any(g:Nat)(rb lb:Array Value)(p:Cl→Bool)(eg:∀args w,(callFunc g args).run Tryz.prog w=.ok (.enter g args) w)(B:Nat)(v:Value)(L:List Cl)(w:World)(hR:RW w B v L)(hL:L.length≤128)(hp:PrA g rb lb p):
  Calls Tryz.prog 102 #[v,.func (.func g) rb lb] w fun e w'=>∃v',e=.returned v'∧RW w' B v' (L.filter fun x=> !p x)∧v'.ownBlock=v.ownBlock∧Kp (fun k=>v.ownBlock=some k) w w':=by
 have HC:=Hd (indexFunc_any g rb lb p eg B v L w hR hL (hp.pr w));have HR:=Hd hR;have HP:=Hd hp;clear hp
 go_enter Tryz.func102,Tryz.ntmps102
 go_wp2_with fail
 refine HC.out.mono ?_;rintro e W1 ⟨i,rfl,hb,hi⟩;have HB:=Hd hb;clear HC hb hR;rcases hi with⟨rfl,hno⟩|⟨k,y,hy,rfl,hpy,hall⟩
 ·have HNO:=Hd hno;clear hno;go_wp2;go_ret;refine⟨v,rfl,?_,rfl,Kp.ofBelow _ HB.out⟩
  have e:(L.filter fun x=> !p x)=L:=by
   rw[List.filter_eq_self];intro z hz;obtain⟨j,hj⟩:=List.getElem?_of_mem hz;rw[HNO.out j z hj];rfl
  rw[e];exact HR.out.below' HB.out
 ·have hkL:k<L.length:=(List.getElem?_eq_some_iff.1 hy).1;have HI:=Hd (Ki.start (q:=fun x=> !p x) hy (by rw[hpy];rfl) (fun j z hj hz=>by rw[hall j z hj hz];rfl));have hne:((k:Int)== -1)=false:=beq_eq_false_iff_ne.2 (by omega);rcases HR.out.form with⟨rfl,rfl⟩|⟨b,cap,rfl,hB,hlt,hcap⟩
  ·exact absurd hkL (by simp)
  have HR1:=Hd (HR.out.below' HB.out);have HK1:=Hd (Kp.ofBelow (fun k=>(Value.slice (some ⟨b,0,none⟩) L.length cap).ownBlock=some k) HB.out);generalize hn:L.length=n at hcap hL hkL;have HN:Hid (L.length=n):=hn;clear HR HB hy hall hn;go_wp2
  go_loopw [5,6,7] (fun si sj _ wr=>∃(i j:Nat) (M:List Cl),j≤n∧si=.int .i64 i∧sj=.int .i64 j∧Hid (Ki (fun x=> !p x) L M i j)∧Hid (RW wr B (.slice (some ⟨b,0,none⟩) L.length cap) M)∧Hid (Kp (fun k=>(Value.slice (some ⟨b,0,none⟩) L.length cap).ownBlock=some k) w wr)) (fun _ sj _ _=>n-(intOf sj).toNat)
  case atStart=>exact⟨k,k+1,L,by omega,rfl,by go_num,HI,HR1,HK1⟩
  case round=>
   obtain⟨i,j,M,hjn,rfl,rfl,HKi,HRr,HKr⟩:=hrel;by_cases hj:j<n
   ·have hjz:(j:Int)<(n:Int):=by omega
    have hjM:j<M.length:=by have:=HKi.out.len;have:=HN.out;omega
    obtain⟨z,hz,c0,c1,c2,c3⟩:=HRr.out.elem hjM;have hij:=HKi.out.ij;have hiM:i<M.length:=by omega
    have hin:(i:Int)<(n:Int):=by omega
    have HZ:=Hd (HKi.out.at.symm.trans hz);clear hz
    go_wp2_with fail
    refine (HP.out _ z).mono ?_;rintro e W2 ⟨rfl,hb2⟩;have hbx:=(CB.new wr z).below' hb2;have HR2:=Hd ((HRr.out.alloc _).below' hb2);have HK2:=Hd ((HKr.out.alloc _).thenBelow hb2);have d0:=hbx.c0;have d1:=hbx.c1;have d2:=hbx.c2;have d3:=hbx.c3;clear hb2 hbx c0 c1 c2 c3 HRr HKr;cases hq:p z with
    |false=>
     obtain⟨o,_,e0,e1,e2,e3⟩:=HR2.out.elem hiM;have f0:=HR2.out.fr (i*4);have f1:=HR2.out.fr (i*4+1);have f2:=HR2.out.fr (i*4+2);have f3:=HR2.out.fr (i*4+3);go_wp2;go_roundw
     case rel=>exact⟨i+1,j+1,M.set i z,by omega,by go_num,by go_num,HKi.out.keep HZ.out (by rw[hq];rfl),HR2.out.put hiM z,HK2.out.setCells b (i*4) (cv z) (fun _=>rfl)⟩
     case measure=>simp[intOf];omega
    |true=>
     go_wp2;go_roundw
     case rel=>exact⟨i,j+1,M,by omega,rfl,by go_num,HKi.out.skip HZ.out (by rw[hq];rfl),HR2,HK2⟩
     case measure=>simp[intOf];omega
   ·obtain rfl:j=n:=by omega
    have hjz:¬(j:Int)<(j:Int):=by omega
    have hij:=HKi.out.ij;have hMl:M.length=j:=by rw[HKi.out.len];exact HN.out
    obtain⟨vs,hcl⟩:=clearK wr 0 b (i*4) (j-i) (cap-i) (by omega) (HRr.out.there _ _ (by omega));have HF:=Hd (HRr.out.cut i (by omega) vs);have HKF:=Hd (HKr.out.setCells b (i*4) vs (fun _=>rfl));go_wp2;go_ret;refine⟨_,rfl,?_,rfl,HKF.out⟩;rw[←HN.out]at HKi;rw[←HKi.out.done];exact HF.out
theorem infoKz:(Tryz.prog.info? 33).map (fun i=>(i.zero,i.size,i.bytes))=some (some (.agg #[.int .i64 0,.int .i64 0,.int .i64 0,.bool false]),4,32):=by kernel_rfl
theorem clone_any(B:Nat)(v:Value)(L:List Cl)(w:World)(hR:RW w B v L)(hL:L.length≤128):
  Calls Tryz.prog 46 #[v] w fun e w'=>∃v',e=.returned v'∧RW w' w.heap.size v' L∧Below w.heap.size w w':=by
 obtain⟨i0,hi,hz0,hz1,hz2⟩:=info_parts infoKz;have q30:∀(w:World) (a:Option Addr) (n c n' c':Nat),(binOp .eql 38 (.slice a n c) (.slice none n' c')).run Tryz.prog w=.ok (.bool a.isNone) w:=fun w a n c n' c'=>Lib.run_eql_slice_nil w _ _ a n c n' c' Tryz.underlying38;rcases hR.form with⟨rfl,rfl⟩|⟨b,cap,rfl,hB,hlt,hcap⟩
 ·go_enter Tryz.func46,Tryz.ntmps46
  go_wp2;go_ret;exact⟨_,rfl,RW.nil _ _,Below.refl _ _⟩
 ·have HR:=Hd hR;generalize hn:L.length=n at hcap hL;have HN:=Hd hn;clear hR hn
  go_enter Tryz.func46,Tryz.ntmps46
  go_wp2_with (at_builtin;refine wpList_append_own _ rfl _ _ 38 rfl w.heap.size 33 i0 _ 4 32 Tryz.underlying38 hi hz0 hz1 hz2 rfl (by decide) _ _ _ rfl (World.ownsRow_made w #[] 0 (Nat.le_refl _) (Nat.zero_le _) (by simp)) ⟨b,0,none⟩ n cap (rv L) rfl ?qc1 ?qc2 ?qc3 ?qc4 ?qc5 ?qc6 ?_)
  case qc1=>rw[rv_length,HN.out]
  case qc2=>exact World.ownsRow.cells (HR.out.alloc _) rfl
  case qc3=>exact rv_one L
  case qc4=>unfold maxLen;omega
  case qc5=>omega
  case qc6=>simp
  intro v' w1 hown hgrow hnil;have HO:=Hd hown;clear hown hnil;go_wp2;go_ret;refine⟨v',rfl,?_,?_⟩
  ·have:=HO.out;unfold RW;rw[HN.out];simpa using this
  ·exact((Below.refl _ w).alloc (Nat.le_refl _) _).grown hgrow (by simp) (by intro k hk;simp[Value.ownBlock]at hk;omega)
theorem within_any(a:Int)(w:World):
  Calls Tryz.prog 130 #[.int .i64 a] w fun e w'=>e=.returned (.int .i64 (NumM.cl a))∧w'=w:=by
 go_enter Tryz.func130,Tryz.ntmps130
 go_wp2
 all_goals
  go_ret;exact⟨ret_int (by unfold NumM.cl;(repeat' split);all_goals omega),rfl⟩
theorem add_any(a b:Int)(w:World):
  Calls Tryz.prog 94 #[.int .i64 a,.int .i64 b] w fun e w'=>e=.returned (.int .i64 (NumM.cl (NumM.cl a+NumM.cl b)))∧w'=w:=by
 obtain⟨a1,a2⟩:=NumM.cl_bd a;obtain⟨b1,b2⟩:=NumM.cl_bd b
 go_enter Tryz.func94,Tryz.ntmps94
 go_wp2_with (go_at_call 130;refine (within_any _ _).mono ?_;rintro e w' ⟨rfl,rfl⟩)
 go_ret;exact⟨rfl,rfl⟩
structure BK(W:World)(B b:Nat)(F C:Int)(v:Value)(s:Nat)(L:List Cl):Prop where
 pb:PB W b F C v s
 rw:RW W B v L
 ne:v.ownBlock≠some b
 bb:B≤b
 sl:s<18446744073709551616
def Fp(b:Nat)(v:Value)(k:Nat):Prop:=k=b∨v.ownBlock=some k
def Nx(w:World)(v v':Value):Prop:=∀k,v'.ownBlock=some k→v.ownBlock=some k∨w.heap.size≤k
section
variable {W W':World} {B b:Nat} {F C:Int} {v:Value} {s:Nat} {L:List Cl}
theorem BK.below'(h:BK W B b F C v s L)(hb:Below W.heap.size W W'):BK W' B b F C v s L:=⟨h.pb.below' hb,h.rw.below' hb,h.ne,h.bb,h.sl⟩
theorem BK.kp{G:Nat→Prop}(h:BK W B b F C v s L)(k:Kp G W W')(hG:∀i,Fp b v i→¬G i):BK W' B b F C v s L:=
 ⟨h.pb.kp k (hG b (.inl rfl)),h.rw.kp k (fun g hg=>hG g (.inr hg)),h.ne,h.bb,h.sl⟩
theorem BK.lo(h:BK W B b F C v s L):∀i,Fp b v i→B≤i∧i<W.heap.size:=by
 rintro i (rfl|hi)
 ·exact⟨h.bb,h.pb.lt⟩
 ·exact h.rw.lt i hi
end
theorem all_any(B b:Nat)(F C:Int)(v:Value)(s:Nat)(L:List Cl)(w:World)(H:BK w B b F C v s L)(hL:L.length≤128):
  Calls Tryz.prog 30 #[.pointer (some ⟨b,0,none⟩)] w fun e w'=>∃v',e=.returned v'∧RW w' w.heap.size v' L∧Below w.heap.size w w':=by
 have c2:=H.pb.c2;have HC:=Hd (clone_any B v L w H.rw hL);clear H
 go_enter Tryz.func30,Tryz.ntmps30
 go_wp2_with fail
 refine HC.out.mono ?_;rintro e w' ⟨v',rfl,hr,hb⟩;have HRN:=Hd hr;clear hr c2;go_wp2;go_ret;exact⟨v',rfl,HRN.out,hb⟩
def barN(F f:Int)(y:Bool)(s:Nat):Nat:=if(decide (0≤f)&&decide (f<F))=true then(if y=true then FM.withN s f else FM.lessN s f)else s
def barE(F f:Int):Int:=if(decide (0≤f)&&decide (f<F))=true then 0 else 2
theorem BK.set3{W:World}{B b:Nat}{F C:Int}{v:Value}{s:Nat}{L:List Cl}(h:BK W B b F C v s L)(u:Nat)(hu:u<18446744073709551616):BK (W.setCell ⟨b,3,none⟩ (.int .u64 (u:Int))) B b F C v u L:=
 ⟨h.pb.set3 u,h.rw.keep (fun g hg=>Below.heap_setCell W ⟨b,3,none⟩ _ g (fun e=>h.ne (by rw[hg,e]))),h.ne,h.bb,hu⟩
theorem bar_any(B b:Nat)(F C:Int)(v:Value)(s:Nat)(L:List Cl)(f:Int)(y:Bool)(w:World)(H:BK w B b F C v s L):
  Calls Tryz.prog 135 #[.pointer (some ⟨b,0,none⟩),.int .i64 f,.bool y] w fun e w'=>e=.returned (.int .i64 (barE F f))∧BK w' B b F C v (barN F f y s) L∧Kp (Fp b v) w w':=by
 have c3:=H.pb.c3;have f3:=H.pb.fr 3;have HP:=Hd H.pb;have HB:=Hd H;have hs:=H.sl;have e1:∀z,z=(decide (0≤f)&&decide (f<F))→barN F f y s=if z=true then(if y=true then FM.withN s f else FM.lessN s f)else s:=fun z hz=>by rw[hz];rfl
 have e2:∀z,z=(decide (0≤f)&&decide (f<F))→barE F f=if z=true then 0 else 2:=fun z hz=>by rw[hz];rfl
 have HC:=Hd (hasFloor_any b F C v s f w H.pb);clear H;generalize (decide (0≤f)&&decide (f<F))=z at e1 e2 HC;rw[e1 z rfl,e2 z rfl];clear e1 e2;cases z with
 |false=>
  simp only[Bool.false_eq_true,if_false]
  go_enter Tryz.func135,Tryz.ntmps135
  go_wp2_with (go_at_call 167;refine HC.out.mono ?_;rintro e w' ⟨rfl,rfl⟩)
  go_ret;exact⟨rfl,HB.out,Kp.refl _ _⟩
 |true=>
  simp only[if_true];cases y with
  |true=>
   simp only[if_true]
   go_enter Tryz.func135,Tryz.ntmps135
   go_wp2_with (first|(go_at_call 167;refine HC.out.mono ?_;rintro e w' ⟨rfl,rfl⟩)|(go_at_call 172;refine (with_any _ _ _ hs).mono ?_;rintro e w' ⟨rfl,rfl⟩))
   go_ret;exact⟨rfl,HB.out.set3 _ (FM.withN_lt f hs),(Kp.refl _ _).set b 3 _ (fun _=>.inl rfl)⟩
  |false=>
   simp only[Bool.false_eq_true,if_false]
   go_enter Tryz.func135,Tryz.ntmps135
   go_wp2_with (first|(go_at_call 167;refine HC.out.mono ?_;rintro e w' ⟨rfl,rfl⟩)|(go_at_call 173;refine (less_any _ _ _ hs).mono ?_;rintro e w' ⟨rfl,rfl⟩))
   go_ret;exact⟨rfl,HB.out.set3 _ (FM.lessN_lt f hs),(Kp.refl _ _).set b 3 _ (fun _=>.inl rfl)⟩
theorem older_cl{c:Cl}(h1:0≤c.ag)(h2:c.ag≤1099511627776):NumM.cl (NumM.cl c.ag+NumM.cl 1)=(KM.older c).ag:=by
 unfold KM.older NumM.cl;show _=if c.ag<1099511627776 then c.ag+1 else c.ag
 repeat' split
 all_goals omega
def tk(L:List Cl)(k:Nat):List Cl:=(L.take k).map KM.older++L.drop k
theorem tk_zero(L:List Cl):tk L 0=L:=by simp[tk]
theorem tk_length(L:List Cl)(k:Nat)(h:k≤L.length):(tk L k).length=L.length:=by simp[tk];omega
theorem tk_at(L:List Cl)(k:Nat):(tk L k)[k]?=L[k]?:=by
 unfold tk;by_cases h:k≤L.length
 ·rw[List.getElem?_append_right (by simp;omega)];simp[Nat.min_eq_left h]
 ·rw[List.getElem?_eq_none (by simp;omega),List.getElem?_eq_none (by omega)]
theorem tk_succ{L:List Cl}{k:Nat}{y:Cl}(h:L[k]?=some y):(tk L k).set k (KM.older y)=tk L (k+1):=by
 have hk:k<L.length:=(List.getElem?_eq_some_iff.1 h).1;unfold tk;rw[List.set_append_right k _ (by simp;omega),take_get h];simp only[List.length_map,List.length_take,Nat.min_eq_left (Nat.le_of_lt hk),Nat.sub_self,List.map_append,List.append_assoc];rw[List.drop_eq_getElem_cons hk]
 rfl
theorem tk_all(L:List Cl):tk L L.length=L.map KM.older:=by simp[tk]
theorem tick_any(B b:Nat)(F C n0:Int)(v:Value)(s:Nat)(L:List Cl)(w:World)(H:BK w B b F C v s L)(G:KM.Gd F C n0 L)(hn0:n0≤1000):
  Calls Tryz.prog 77 #[.pointer (some ⟨b,0,none⟩)] w fun e w'=>e=.returned (.tuple #[])∧BK w' B b F C v s (L.map KM.older)∧Kp (Fp b v) w w':=by
 have c2:=H.pb.c2;have HB:=Hd H;have HG:=Hd G;have hL:=G.len;rcases H.rw.form with⟨rfl,rfl⟩|⟨g,cap,rfl,hB,hlt,hcap⟩
 ·clear H G
  go_enter Tryz.func77,Tryz.ntmps77
  go_wp2;refine wp_loop_rounds 1 ?_;rw[rounds_succ];go_wp2
  go_end0
  exact⟨rfl,HB.out,Kp.refl _ _⟩
 ·generalize hn:L.length=n at hcap hL c2;have HN:=Hd hn;clear H G hn
  go_enter Tryz.func77,Tryz.ntmps77
  go_wp2
  go_loopw [2,8] (fun _ i wr=>∃k:Nat,k≤n∧i=.int .i64 k∧Hid (BK wr B b F C (.slice (some ⟨g,0,none⟩) L.length cap) s (tk L k))∧Hid (Kp (Fp b (.slice (some ⟨g,0,none⟩) L.length cap)) w wr)) (fun _ i _=>n-(intOf i).toNat)
  case atStart=>exact⟨0,Nat.zero_le _,rfl,by rw[tk_zero];exact HB,Kp.refl _ _⟩
  case round=>
   obtain⟨k,hk,rfl,HBr,HKr⟩:=hrel;by_cases hlt2:k<n
   ·have hkz:(k:Int)<(n:Int):=by omega
    have hkL:k<(tk L k).length:=by have:=HN.out;rw[tk_length L k (by omega)];omega
    obtain⟨y,hy,_,_,d2,_⟩:=HBr.out.rw.elem hkL;have HY:=Hd hy;have d2r:=HBr.out.rw.fr (k*4+2);have e2:=HBr.out.pb.c2;rw[HN.out]at e2;have hyL:L[k]?=some y:=(tk_at L k).symm.trans hy;have hag:=HG.out.age y (List.mem_of_getElem? hyL);obtain⟨a,ha⟩:∃a,a=(KM.older y).ag:=⟨_,rfl⟩
    have HA:Hid (∀W,Calls Tryz.prog 94 #[.int .i64 y.ag,.int .i64 1] W fun e w''=>e=.returned (.int .i64 a)∧w''=W):=fun W=>by
     have:=add_any y.ag 1 W;rwa[older_cl hag.1 (by omega),←ha]at this
    have HAE:=Hd ha;have HYL:=Hd hyL;clear hkL hy ha hyL hag
    go_wp2_with fail
    refine wp_region_still_tail 16 (by kernel_rfl) (by kernel_rfl) ?_;simp only[List.take_succ_cons,List.take_zero,List.drop_succ_cons,List.drop_zero]
    iterate 13 (unfold wpStill;generalize hK:wpStill _ _ _ _ _=K;go_simp;subst hK)
    unfold wpStill;generalize hK:wpStill _ _ _ _ _=K;go_simp;refine⟨_,HA.out _,?_⟩;subst hK
    iterate 2 (unfold wpStill;generalize hK:wpStill _ _ _ _ _=K;go_simp;subst hK)
    refine wpStill_nil ?_;go_wp2;have hne:b≠g:=fun e=>HBr.out.ne (by rw[e];rfl);go_roundw
    case rel=>
     refine⟨k+1,by omega,by go_num,(show Hid _ from ?_),(show Hid _ from ?_)⟩
     ·rw[←tk_succ HYL.out];have h1:=HBr.out.rw.aged HY.out a;rw[HAE.out]at h1;have h2:PB (wr.setCell ⟨g,k*4+2,none⟩ (.int .i64 (KM.older y).ag)) b F C (.slice (some ⟨g,0,none⟩) L.length cap) s:=HBr.out.pb.keep (Below.heap_setCell wr ⟨g,k*4+2,none⟩ _ b hne);rw[HAE.out];exact⟨h2,h1,HBr.out.ne,HBr.out.bb,HBr.out.sl⟩
     ·exact(HKr.out.set g _ _ (fun _=>.inr rfl)).drew
    case measure=>simp[intOf];omega
   ·obtain rfl:k=n:=by omega
    have hkz:¬(k:Int)<(k:Int):=by omega
    go_wp2
    go_end0
    have e:=HN.out;subst e;have:=HBr.out;rw[tk_all]at this;exact⟨rfl,this,HKr.out⟩
theorem RW.slice{W:World}{B:Nat}{v:Value}{L:List Cl}(h:RW W B v L):∃a n c,v=.slice a n c:=by
 rcases h.form with⟨h1,_⟩|⟨g,cap,h1,_⟩
 ·exact⟨_,_,_,h1⟩
 ·exact⟨_,_,_,h1⟩
theorem serves_pr(car floor:Int)(u d:Bool):PrA 101 #[.agg #[.int .i64 car,.int .i64 floor,.bool u,.bool d]] #[] (KM.srv car floor u d):=fun W x=>serves_any car floor u d x W
theorem serves_eg:∀args w,(callFunc 101 args).run Tryz.prog w=.ok (.enter 101 args) w:=enters_of Tryz.func101 (by kernel_rfl) rfl
theorem RW.set{W:World}{B b i:Nat}{v:Value}{L:List Cl}(h:RW W B v L)(hne:v.ownBlock≠some b)(u:Value):RW (W.setCell ⟨b,i,none⟩ u) B v L:=
 h.keep fun g hg=>Below.heap_setCell W ⟨b,i,none⟩ u g (fun e=>hne (by rw[hg,e]))
theorem wpList_appendK{ops:Array Oper}{rest:List Oper}{o:Oper}{a:Act}{W:World}{Q:Exit→Act→World→Prop}(hgd:o.guard=none)(s x:Operand)
  (ho:o.op=.call {callee:=.builtin .append,args:= #[s,x],argTypes:= #[38,38]}) (B:Nat) {v:Value} {M:List Cl} {y:Cl} {b c:Nat} (hs:a.eval s=v) (hR:RW W B v M) (hM:M.length≤1000)
  (hx:a.eval x=.slice (some ⟨b,0,none⟩) 1 c) (hy:CB W b y) (hB:B≤W.heap.size)
  (h:∀g cap W',RW W' B (.slice (some ⟨g,0,none⟩) (M.length+1) cap) (M++[y])→W.grownBy W' v.ownBlock→(v.ownBlock=some g∨g=W.heap.size)→wpList Tryz.prog ops Q rest (a.put o.dst (.slice (some ⟨g,0,none⟩) (M.length+1) cap)) W'):
  wpList Tryz.prog ops Q (o::rest) a W:=by
 obtain⟨i0,hi,hz0,hz1,hz2⟩:=info_parts infoKz;refine wpList_append_lies W hgd s x 38 ho B 33 i0 _ 4 32 Tryz.underlying38 hi hz0 hz1 hz2 rfl (by decide) v M.length (rv M) hs hR ⟨b,0,none⟩ 1 c (cv y) hx rfl ?_ ?_ (by omega) (by unfold maxLen;omega) (by omega) hB W.heap.size rfl ?_
 ·intro j u hj;rw[Addr.add_mid];exact hy.range j u hj
 ·intro u hu;exact rv_one [y] u (by simpa[rv]using hu)
 ·intro g cap W' hown hg hat _;refine h g cap W' ?_ hg hat;unfold RW;rw[List.length_append,rv_append];simpa[rv]using hown
theorem serve_any(B b:Nat)(F C:Int)(v:Value)(s:Nat)(L:List Cl)(car floor:Int)(u d:Bool)(w:World)(H:BK w B b F C v s L)(hL:L.length≤128):
  Calls Tryz.prog 79 #[.pointer (some ⟨b,0,none⟩),.int .i64 car,.int .i64 floor,.bool u,.bool d] w fun e w'=>∃vo v',e=.returned vo∧RW w' w.heap.size vo (L.filter (KM.srv car floor u d))∧
   BK w' B b F C v' s (L.filter fun c=> !KM.srv car floor u d c)∧v'.ownBlock=v.ownBlock∧Kp (Fp b v) w w':=by
 obtain⟨i0,hi,hz0,hz1,hz2⟩:=info_parts infoKz;have c2:=H.pb.c2;have HB:=Hd H;obtain⟨p,hp⟩:∃p,p=KM.srv car floor u d:=⟨_,rfl⟩;have HS:Hid (∀x W,Calls Tryz.prog 101 #[.agg #[.int .i64 car,.int .i64 floor,.bool u,.bool d],.agg #[.int .i64 x.fl,.int .i64 x.ca,.int .i64 x.ag,.bool x.up]] W fun e w'=>e=.returned (.bool (p x))∧Below W.heap.size W w'):=by rw[hp];exact fun x W=>serves_any car floor u d x W
 have HPA:Hid (PrA 101 #[.agg #[.int .i64 car,.int .i64 floor,.bool u,.bool d]] #[] p):=by rw[hp];exact serves_pr car floor u d
 rw[←hp];clear hp;rcases H.rw.form with⟨rfl,rfl⟩|⟨g,cap,rfl,hB,hlt,hcap⟩
 ·have HBr:=Hd (Below.refl w.heap.size w);have HV:=Hd (RW.nil w w.heap.size);have L:List Cl:=[];have HN:=Hd (show([]:List Cl).length=0 from rfl);clear H hL L
  go_enter Tryz.func79,Tryz.ntmps79
  go_wp2;refine wp_loop_rounds 1 ?_;rw[rounds_succ]
  go_wp2_with fail
  refine (deleteFunc_any 101 #[.agg #[.int .i64 car,.int .i64 floor,.bool u,.bool d]] #[] p serves_eg B _ [] _ (HB.out.rw.below' HBr.out) (by have:=HN.out;omega) HPA.out).mono ?_;rintro e W2 ⟨v2,rfl,hr2,ho2,hk2⟩;obtain⟨a2,n2,cap2,rfl⟩:=hr2.slice;have hpb:=(HB.out.pb.below' HBr.out).kp hk2 HB.out.ne;have e2:=hpb.c2;have f2:=hpb.fr 2;have hvs:=HV.out.kp hk2 (fun g' h1 h2=>by have a:=(HV.out.lt g' h1).1;have b':=(HB.out.rw.lt g' h2).2;omega);have HR2:=Hd hr2;have HK2:=Hd hk2;have HO2:=Hd ho2;have HPB:=Hd hpb;have HVS:=Hd hvs;clear hr2 hk2 ho2 hpb hvs;go_wp2;go_ret;have hblt:=HB.out.pb.lt;have hne2:(Value.slice a2 n2 cap2).ownBlock≠some b:=by rw[HO2.out];exact HB.out.ne
  refine⟨_,_,rfl,HVS.out.set (fun h=>by have:=(HVS.out.lt b h).1;omega) _,⟨HPB.out.set2 _,HR2.out.set hne2 _,hne2,HB.out.bb,HB.out.sl⟩,HO2.out,?_⟩;exact((Kp.ofBelow (Fp b _) HBr.out).trans HK2.out (fun _ _ h=>.inr h)).set b 2 _ (fun _=>.inl rfl)
 ·generalize hn:L.length=n at hcap hL c2 HB;have HN:=Hd hn;clear H hn
  go_enter Tryz.func79,Tryz.ntmps79
  go_wp2
  go_loopw [12,14,26] (fun sv _ i wr=>∃k:Nat,k≤n∧i=.int .i64 k∧Hid (RW wr w.heap.size sv ((L.take k).filter p))∧Hid (Below w.heap.size w wr)) (fun _ _ i _=>n-(intOf i).toNat)
  case atStart=>exact⟨0,Nat.zero_le _,rfl,RW.nil _ _,Below.refl _ _⟩
  case round=>
   obtain⟨k,hk,rfl,HV,HBr⟩:=hrel;by_cases hlt2:k<n
   ·have hkz:(k:Int)<(n:Int):=by omega
    have hkL:k<L.length:=by have:=HN.out;omega
    obtain⟨y,hy,d0,d1,d2,d3⟩:=(HB.out.rw.below' HBr.out).elem hkL;have HY:=Hd hy;clear hkL hy
    go_wp2_with fail
    refine (HS.out y _).mono ?_;rintro e W2 ⟨rfl,hb2⟩;have hbx:=(CB.new wr y).below' hb2;have hsz:=HBr.out.size;have HV2:=Hd ((HV.out.alloc _).below' hb2);have HB2:=Hd (below_class (HBr.out.alloc hsz (.cells #[.int .i64 y.fl,.int .i64 y.ca,.int .i64 y.ag,.bool y.up] 33)) hb2);have e0:=hbx.c0;have e1:=hbx.c1;have e2:=hbx.c2;have e3:=hbx.c3;have hsz2:=HB2.out.size;have htl:((L.take k).filter p).length≤128:=Nat.le_trans (List.length_filter_le _ _) (by rw[List.length_take];omega);clear hb2 hbx d0 d1 d2 d3 HV HBr hsz;cases hq:p y with
    |true=>
     go_wp2_with (at_builtin;refine wpList_appendK rfl _ _ rfl w.heap.size (y:=y) rfl (HV2.out.alloc _) (by omega) rfl (CB.new W2 y) (by simp;omega) ?_)
     intro g' cap' W3 hr3 hg3 hat;have HR3:=Hd hr3;have HB3:=Hd ((HB2.out.alloc hsz2 _).grown hg3 (by simp;omega) (fun k hk=>(HV2.out.lt k hk).1));clear hr3 hg3 hat;go_wp2;go_roundw
     case rel=>
      refine⟨k+1,by omega,by go_num,(show Hid _ from ?_),HB3⟩;rw[take_get HY.out,List.filter_append,List.filter_cons_of_pos hq];exact HR3.out
     case measure=>simp[intOf];omega
    |false=>
     go_wp2;go_roundw
     case rel=>
      refine⟨k+1,by omega,by go_num,(show Hid _ from ?_),HB2⟩;rw[take_get HY.out,List.filter_append,List.filter_cons_of_neg (by simp[hq]),List.filter_nil,List.append_nil];exact HV2.out
     case measure=>simp[intOf];omega
   ·obtain rfl:k=n:=by omega
    have hkz:¬(k:Int)<(k:Int):=by omega
    have ht:L.take k=L:=List.take_of_length_le (by have:=HN.out;omega);rw[ht]at HV;have c2r:=(HB.out.pb.below' HBr.out).c2;clear ht
    go_wp2_with fail
    refine (deleteFunc_any 101 #[.agg #[.int .i64 car,.int .i64 floor,.bool u,.bool d]] #[] p serves_eg B _ L _ (HB.out.rw.below' HBr.out) (by have:=HN.out;omega) HPA.out).mono ?_;rintro e W2 ⟨v2,rfl,hr2,ho2,hk2⟩;obtain⟨a2,n2,cap2,rfl⟩:=hr2.slice;have hpb:=(HB.out.pb.below' HBr.out).kp hk2 HB.out.ne;have e2:=hpb.c2;have f2:=hpb.fr 2;have hvs:=HV.out.kp hk2 (fun g' h1 h2=>by have a:=(HV.out.lt g' h1).1;have b':=(HB.out.rw.lt g' h2).2;omega);have HR2:=Hd hr2;have HK2:=Hd hk2;have HO2:=Hd ho2;have HPB:=Hd hpb;have HVS:=Hd hvs;clear hr2 hk2 ho2 hpb hvs;go_wp2;go_ret;have hblt:=HB.out.pb.lt;have hne2:(Value.slice a2 n2 cap2).ownBlock≠some b:=by rw[HO2.out];exact HB.out.ne
    refine⟨_,_,rfl,HVS.out.set (fun h=>by have:=(HVS.out.lt b h).1;omega) _,⟨HPB.out.set2 _,HR2.out.set hne2 _,hne2,HB.out.bb,HB.out.sl⟩,HO2.out,?_⟩;exact((Kp.ofBelow (Fp b _) HBr.out).trans HK2.out (fun _ _ h=>.inr h)).set b 2 _ (fun _=>.inl rfl)
end Go.Proofs.YtlajleogofmkcaaGreat.CC
