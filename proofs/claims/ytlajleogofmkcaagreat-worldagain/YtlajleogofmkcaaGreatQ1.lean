import Derived.Test.YtlajleogofmkcaaGreatQ0
import Derived.Deep.Quiet
import Derived.Deep.QuietTactic
import Derived.BigQuiet
import Derived.Shelf.Abstract
import Derived.Laws.BitsLemmas
import Derived.StillTail
import Derived.WalkMore
import Derived.Test.YtlajleogofmkcaaGreatRows
import Derived.WalkKit
import Derived.WalkSpells
import Derived.WalkLawsBesides
import Derived.Deep.RegionHeld3
import Derived.Deep.DrawnRows
import Derived.Laws.EntriesVeiled
import Derived.Laws.MakeOwn
import Derived.Deep.RegionLaw
set_option maxHeartbeats 8000000
set_option maxRecDepth 100000
namespace Go.Proofs.YtlajleogofmkcaaGreat
open Go.RowKit Go.Shelf
attribute [local go_sem] Oper.semAt_some
def allOk(l:List (Int×Int×Int)):Bool:=l.all okB
theorem allOk_snoc(l:List (Int×Int×Int))(x:Int×Int×Int):allOk (l++[x])=(allOk l&&okB x):=by unfold allOk;rw[List.all_append];simp
theorem keepA_refl(W:World):KeepA W W:=fun _ _ _ _ h=>h
theorem keepA_t{A B C:World}(h:KeepA A B)(k:KeepA B C):KeepA A C:=fun i c t fr hi=>k i c t fr (h i c t fr hi)
theorem keepA_below{A B:World}(h:Below A.heap.size A B):KeepA A B:=fun i _ _ _ hi=>(h.block i (Array.getElem?_eq_some_iff.1 hi).1).trans hi
theorem keepA_b(W:World)(l:Nat)(o o':Obj)(h:W.heap[l]?=some o)(h1:o.isCells=false):KeepA W (W.putObj l o'):=fun i c t fr hi=>
 ((grownBy_putObj' W l o').block i (Array.getElem?_eq_some_iff.1 hi).1 (fun e=>by
  cases e;rw[hi]at h;cases h
  cases h1)).trans hi
def RA(w0:World)(s:St)(n0:Nat)(x:Int×Int×Int)(a':Act)(W:World):Prop:=∃B:Nat,n0≤B∧W.heap[B]?=some (.cells #[.int .i64 x.2.1,.int .i64 x.2.2] 112 (0,0))∧
 a'={tmps:= #[.agg (sv s).toArray,.pointer (some ⟨w0.heap.size,0,none⟩),.pointer (some ⟨w0.heap.size+1,0,none⟩),.int .i64 x.1,.pointer (some ⟨B,0,none⟩),.agg (sv s).toArray,.func (.func 68) #[] #[.pointer (some ⟨w0.heap.size+1+1,0,none⟩)],.int .i64 x.1,.agg #[.int .i64 x.2.1,.int .i64 x.2.2],undef,undef,undef,undef,undef,undef,undef,undef,undef,undef],defers:=[]}
theorem ra_own(w0:World)(s:St)(n0 m:Nat)(x:Int×Int×Int)(a':Act):OwnFrom m (fun (_:Unit) W=>RA w0 s n0 x a' W):=by
 rintro _ X Y row ⟨B,hn,hB,he⟩ hg hr;refine⟨B,hn,(hg.block B (Array.getElem?_eq_some_iff.1 hB).1 (fun e=> ?_)).trans hB,he⟩;obtain⟨_,o,ho,hc⟩:=hr B e.symm;rw[hB]at ho;cases ho;cases hc
theorem right_any(s:St)(w:World):
  Calls Tryz.prog 34 #[.agg (sv s).toArray] w fun e w'=>e=.returned (.bool (rightB s))∧Below w.heap.size w w':=by
 refine (callsIn_wide (n:=9)).1 ?_;refine callsIn_of_wp_marks Tryz.func34 rfl trivial ?_ rfl;simp only[Tryz.ntmps34,List.size_toArray,List.length_cons,List.length_nil,Nat.reduceAdd,Nat.reduceSub,Array.replicate_succ,Array.replicate_zero,List.push_toArray,List.append_toArray,List.nil_append,List.cons_append];have n1:=(SB.new w s).alloc (.cells #[.bool false] 4);have hc0:((w.alloc (.cells (sv s).toArray 23)).alloc (.cells #[.bool false] 4)).cell? ⟨w.heap.size,0,none⟩=some (.int .i64 s.fl):=n1.cell 0;have hc1:((w.alloc (.cells (sv s).toArray 23)).alloc (.cells #[.bool false] 4)).cell? ⟨w.heap.size,1,none⟩=some (.int .i64 s.ca):=n1.cell 1;have hc2:((w.alloc (.cells (sv s).toArray 23)).alloc (.cells #[.bool false] 4)).cell? ⟨w.heap.size,2,none⟩=some (.int .i64 s.sta):=n1.cell 2;have hc3:((w.alloc (.cells (sv s).toArray 23)).alloc (.cells #[.bool false] 4)).cell? ⟨w.heap.size,3,none⟩=some (.int .i64 s.ste):=n1.cell 3;have hc4:((w.alloc (.cells (sv s).toArray 23)).alloc (.cells #[.bool false] 4)).cell? ⟨w.heap.size,4,none⟩=some (.int .i64 s.sto):=n1.cell 4;have hc5:((w.alloc (.cells (sv s).toArray 23)).alloc (.cells #[.bool false] 4)).cell? ⟨w.heap.size,5,none⟩=some (.int .i64 s.opn):=n1.cell 5;have hc6:((w.alloc (.cells (sv s).toArray 23)).alloc (.cells #[.bool false] 4)).cell? ⟨w.heap.size,6,none⟩=some (.int .i64 s.wai):=n1.cell 6;have hc7:((w.alloc (.cells (sv s).toArray 23)).alloc (.cells #[.bool false] 4)).cell? ⟨w.heap.size,7,none⟩=some (.int .i64 s.clo):=n1.cell 7;have hc8:((w.alloc (.cells (sv s).toArray 23)).alloc (.cells #[.bool false] 4)).cell? ⟨w.heap.size,8,none⟩=some (.int .i64 s.nud):=n1.cell 8;have hc9:((w.alloc (.cells (sv s).toArray 23)).alloc (.cells #[.bool false] 4)).cell? ⟨w.heap.size,9,none⟩=some (.int .i64 s.age):=n1.cell 9;have hc10:((w.alloc (.cells (sv s).toArray 23)).alloc (.cells #[.bool false] 4)).cell? ⟨w.heap.size,10,none⟩=some (.int .i64 s.sil):=n1.cell 10;have hc11:((w.alloc (.cells (sv s).toArray 23)).alloc (.cells #[.bool false] 4)).cell? ⟨w.heap.size,11,none⟩=some (.int .i64 s.bud):=n1.cell 11;have hc12:((w.alloc (.cells (sv s).toArray 23)).alloc (.cells #[.bool false] 4)).cell? ⟨w.heap.size,12,none⟩=some (.int .i64 s.per):=n1.cell 12;have hwf:∀k,Fence.wide.fn k:=fun _=>trivial;clear n1
 gi_wp2_with (gi_at_call 47;refine (callsIn_wide.2 (bounds_any s _)).mono ?_;rintro e w' ⟨rfl,rfl⟩)
 clear hc0 hc1 hc2 hc3 hc4 hc5 hc6 hc7 hc8 hc9 hc10 hc11 hc12;have bR0:=(Boxed.new (w.alloc (.cells (sv s).toArray 23)) 4 (.bool false)).alloc (.cells (sv s).toArray 23);rw[World.size_alloc]at bR0;have hs0:=SB.new ((w.alloc (.cells (sv s).toArray 23)).alloc (.cells #[.bool false] 4)) s;rw[World.size_alloc,World.size_alloc]at hs0
 have hB0:Below w.heap.size w (((w.alloc (.cells (sv s).toArray 23)).alloc (.cells #[.bool false] 4)).alloc (.cells (sv s).toArray 23)):=
  (((Below.refl _ w).alloc (Nat.le_refl _) _).alloc (by simp) _).alloc (by simp;omega) _
 generalize (((w.alloc (.cells (sv s).toArray 23)).alloc (.cells #[.bool false] 4)).alloc (.cells (sv s).toArray 23))=W0 at bR0 hs0 hB0⊢;have eg:∀args w,(callFunc 68 args).run Tryz.prog w=.ok (.enter 68 args) w:=by intro args w;simp[go_sem]
 refine wpIn_rangeFunc_ownH rfl (by decide) (gf:=68) (lb:= #[.pointer (some ⟨w.heap.size+1+1,0,none⟩)]) rfl trivial eg (bounds_stops 8 _ s W0 hs0) keepA_t (fun W l o o' _ h h1 _=>keepA_b W l o o' h h1) (Below.refl _ W0) (fun _=>rfl)
  (fun pre W=>allOk pre=true∧Boxed W (w.heap.size+1) 4 (.bool false)∧Below w.heap.size w W)
  (fun c pre W=>(c=.ret∧allOk pre=false)∧Boxed W (w.heap.size+1) 4 (.bool false)∧Below w.heap.size w W)
  (OwnFrom.and (ownFrom_pure _ _) (OwnFrom.and (Own.from (boxed_own _ _ _) _) (ownFrom_below (Nat.le_refl _) hB0.size)))
  (fun c=>OwnFrom.and (ownFrom_pure _ _) (OwnFrom.and (Own.from (boxed_own _ _ _) _) (ownFrom_below (Nat.le_refl _) hB0.size)))
  ⟨rfl,bR0,hB0⟩ (RA w s w.heap.size) (fun x a'=>ra_own w s _ _ x a') ?assign ?body ?done ?stop
 case assign=>
  rintro l pre x W K ⟨hp,hb,hB⟩ hK;have hal:Below W.heap.size W (W.alloc (.cells #[.int .i64 x.2.1,.int .i64 x.2.2] 112)):=(Below.refl _ W).alloc (Nat.le_refl _) _
  have HK:=Hd (hK {tmps:= #[.agg (sv s).toArray,.pointer (some ⟨w.heap.size,0,none⟩),.pointer (some ⟨w.heap.size+1,0,none⟩),.int .i64 x.1,.pointer (some ⟨W.heap.size,0,none⟩),.agg (sv s).toArray,.func (.func 68) #[] #[.pointer (some ⟨w.heap.size+1+1,0,none⟩)],.int .i64 x.1,.agg #[.int .i64 x.2.1,.int .i64 x.2.2],undef,undef,undef,undef,undef,undef,undef,undef,undef,undef],defers:=[]}
   (W.alloc (.cells #[.int .i64 x.2.1,.int .i64 x.2.2] 112)) ((KeepsOthers.alloc W _).from _) (keepA_below hal) ⟨hp,hb.alloc _,below_class hB hal⟩ ⟨W.heap.size,hB.size,World.alloc_heap_new W _,rfl⟩)
  clear hK hp hb hB hal eg bR0 hs0 hB0;simp only[encB]
  gi_wp2
  exact HK.out
 case body=>
  rintro l pre x a' W _ _ ⟨hp,hb,hB⟩ ⟨B,hnB,hBc,rfl⟩ _;have hc0:W.cell? ⟨B,0,none⟩=some (.int .i64 x.2.1):=by simp[World.cell?,hBc]
  have hc1:W.cell? ⟨B,1,none⟩=some (.int .i64 x.2.2):=by simp[World.cell?,hBc]
  have hf:=hb.frozen;have hcb:=hb.cell;have HP:=Hd hp;have HBx:=Hd hb;have HB:=Hd hB;clear hp hb hB hBc eg bR0 hs0 hB0;cases hok:okB x
  ·have HN:=Hd (show allOk (pre++[x])=false by rw[allOk_snoc,HP.out,hok];rfl);have HO:=Hd hok;clear hok
   gi_wp2
   all_goals first
    |exact⟨(KeepsOthers.setCell _ _ _).from _,⟨rfl,HN.out⟩,HBx.out.set _,HB.out.setCell (p:=⟨w.heap.size+1,0,none⟩) (by simp) _⟩
    |(exfalso;have:=HO.out;simp[okB]at this;omega)
  ·have HN:=Hd (show allOk (pre++[x])=true by rw[allOk_snoc,HP.out,hok];rfl);have h1:x.2.1≤x.1:=by simp[okB]at hok;exact hok.1
   have h2:x.1≤x.2.2:=by simp[okB]at hok;exact hok.2
   clear hok
   gi_wp2
   exact⟨KeepsFrom.refl _ _,keepA_refl _,HN.out,HBx.out,HB.out⟩
 case done=>
  rintro D ys W hD rfl ⟨hp,b0,hB⟩ hK;have hc0:=b0.cell;have hf0:=b0.frozen;clear eg bR0 hs0
  gi_wp2
  have hK':=(KeepsOthers.setCell W ⟨w.heap.size+1,0,none⟩ (.bool true)).same D _ hK rfl;have r0:=b0.set (.bool true);have hB':=hB.setCell (p:=⟨w.heap.size+1,0,none⟩) (by simp) (.bool true);refine⟨by simp,.inl ⟨_,_,rfl,run_takeDeferred hK',?_⟩⟩;have hc5:=cell_kept r0.cell (grownBy_putObj' _ D (.deferred none)) (fun r e=>by cases e;exact⟨_,hK',rfl⟩);refine⟨.bool true,?_,ret_bool hp.symm,hB'.trans (belowK_b (w:=w) (Nat.le_refl _) _ D _ _ (Nat.le_trans hB0.size hD) hK' rfl rfl)⟩;simp[results,Tryz.f34,go_sem,hc5]
 case stop=>
  rintro D c pre W hD hpre ⟨⟨rfl,hne⟩,b0,hB⟩ hK;clear eg bR0 hs0
  gi_wp2
  refine⟨by simp,.inl ⟨_,_,rfl,run_takeDeferred hK,?_⟩⟩;have hc5:=cell_kept b0.cell (grownBy_putObj' _ D (.deferred none)) (fun r e=>by cases e;exact⟨_,hK,rfl⟩)
  have hh:rightB s=false:=by
   obtain⟨t,ht⟩:=hpre;unfold rightB;unfold allOk at hne;rw[←ht,List.all_append,hne,Bool.false_and]
  refine⟨.bool false,?_,ret_bool hh.symm,hB.trans (belowK_b (w:=w) (Nat.le_refl _) W D _ _ (Nat.le_trans hB0.size hD) hK rfl rfl)⟩;simp[results,Tryz.f34,go_sem,hc5]
end Go.Proofs.YtlajleogofmkcaaGreat
namespace Go.Proofs.YtlajleogofmkcaaGreat
open Go.RowKit
structure Sn where
 st:St
 cs:List (Int×Int)
 ws:List (Int×Int)
def nv(s:St)(vc vw:Value):List Value:=[.int .i64 s.fl,.int .i64 s.ca,.int .i64 s.sta,.int .i64 s.ste,.int .i64 s.sto,.int .i64 s.opn,.int .i64 s.wai,.int .i64 s.clo,.int .i64 s.nud,.int .i64 s.age,.int .i64 s.sil,.int .i64 s.bud,.int .i64 s.per,vc,vw]
theorem nv_length(s:St)(vc vw:Value):(nv s vc vw).length=15:=rfl
theorem info27:(Tryz.prog.info? 146).map (·.size)=some 15:=by kernel_rfl
def NB(W:World)(b:Nat)(s:St)(vc vw:Value):Prop:=W.heap[b]?=some (.cells (nv s vc vw).toArray 146 (0,0))
section
variable {W W':World} {b:Nat} {s:St} {vc vw:Value}
theorem NB.lt(h:NB W b s vc vw):b<W.heap.size:=(Array.getElem?_eq_some_iff.1 h).1
theorem NB.cell(h:NB W b s vc vw)(i:Nat):W.cell? ⟨b,i,none⟩=(nv s vc vw)[i]?:=by
 simp[World.cell?,show W.heap[b]?=_ from h]
theorem NB.range(h:NB W b s vc vw):W.rangeAt b 0 (nv s vc vw):=fun j v hv=>by
 rw[Nat.zero_add,h.cell,hv]
theorem NB.site(h:NB W b s vc vw):W.rangeAt b 0 (sv s):=fun j v hv=>by
 rw[Nat.zero_add,h.cell,←hv];have hj:j<13:=by have:=(List.getElem?_eq_some_iff.1 hv).1;rwa[sv_length]at this
 show(sv s++[vc,vw])[j]?=_;rw[List.getElem?_append_left (by rw[sv_length];exact hj)]
theorem NB.below'(h:NB W b s vc vw)(hb:Below W.heap.size W W'):NB W' b s vc vw:=(hb.block b h.lt).trans h
theorem NB.alloc(h:NB W b s vc vw)(o:Obj):NB (W.alloc o) b s vc vw:=h.below' ((Below.refl _ _).alloc (Nat.le_refl _) o)
theorem NB.drew(h:NB W b s vc vw):NB W.drew b s vc vw:=h
theorem NB.drewN(h:NB W b s vc vw)(n:Nat):NB (W.drewN n) b s vc vw:=h
theorem NB.new(W:World)(s:St)(vc vw:Value):NB (W.alloc (.cells (nv s vc vw).toArray 146)) W.heap.size s vc vw:=World.alloc_heap_new W _
theorem NB.kp{G:Nat→Prop}(h:NB W b s vc vw)(k:Kp G W W')(hG:¬G b):NB W' b s vc vw:=(k.block b h.lt hG).trans h
end
theorem load27(w:World)(b:Nat)(s:St)(vc vw:Value)(h:w.rangeAt b 0 (nv s vc vw)):
  (Instr.loadAt 146 (.pointer (some ⟨b,0,none⟩))).run Tryz.prog w=.ok (.agg (nv s vc vw).toArray) w:=
 run_loadAt_mid (P:=Tryz.prog) w b 0 146 (nv s vc vw) _ h Tryz.underlying146 rfl (by rw[nv_length];exact info27)
theorem wpList_load27g{ops:Array Oper}{rest:List Oper}{op:Oper}{a:Act}{w:World}{Q:Exit→Act→World→Prop}(hgd:Region.wanted op (yielded ops a.tmps)=true)(x:Operand)(ho:op.op=.load 146 x)
  (b:Nat) (s:St) (vc vw:Value) (hx:a.eval x=.pointer (some ⟨b,0,none⟩)) (hr:NB w b s vc vw)
  (h:wpList Tryz.prog ops Q rest (a.put op.dst (.agg (nv s vc vw).toArray)) w):wpList Tryz.prog ops Q (op::rest) a w:=
 wpList_step fun _ hK=>by
  rw[if_pos hgd];unfold Oper.wp execOp;simp only[ho,Sem.run_bind,Sem.run_pure,Result.andThen_ok,hx,load27 w b s vc vw hr.range];exact hK _ _ h
theorem wpList_load23n{ops:Array Oper}{rest:List Oper}{op:Oper}{a:Act}{w:World}{Q:Exit→Act→World→Prop}(hgd:Region.wanted op (yielded ops a.tmps)=true)(x:Operand)(ho:op.op=.load 23 x)
  (b:Nat) (s:St) (vc vw:Value) (hx:a.eval x=.pointer (some ⟨b,0,none⟩)) (hr:NB w b s vc vw)
  (h:wpList Tryz.prog ops Q rest (a.put op.dst (.agg (sv s).toArray)) w):wpList Tryz.prog ops Q (op::rest) a w:=
 wpList_step fun _ hK=>by
  rw[if_pos hgd];unfold Oper.wp execOp;simp only[ho,Sem.run_bind,Sem.run_pure,Result.andThen_ok,hx,load23 w b s hr.site];exact hK _ _ h
def cok(fl:Int)(x:Int×Int):Bool:=decide (0≤x.1)&&decide (x.1<fl)&&decide (0≤x.2)&&decide (x.2≤1000000)
def wok(fl:Int)(n:Nat)(x:Int×Int):Bool:=decide (0≤x.1)&&decide (x.1<fl)&&decide (0<x.2)&&decide (x.2<2^n)
def rgt(s:Sn):Bool:=rightB s.st&&decide ((s.cs.length:Int)=s.st.ca)&&decide (s.ws.length≤128)&&s.cs.all (cok s.st.fl)&&s.ws.all (wok s.st.fl s.st.ca.toNat)
theorem i64_mask(n m:Int)(k:Nat)(hk:k≤62)(hm:(BitVec.ofInt 64 m).toNat=2^k-1):bits .and .i64 n m=n%(2^k:Nat):=by
 have key:(BitVec.ofInt 64 n&&&BitVec.ofInt 64 m).toNat=(n%((2^64:Nat):Int)).toNat%2^k:=by
  rw[BitVec.toNat_and,BitVec.toNat_ofInt,hm,Nat.and_two_pow_sub_one_eq_mod]
 show IntKind.i64.wrap ((BitVec.ofInt 64 n&&&BitVec.ofInt 64 m).toNat:Nat)=_;have hd:(2:Nat)^k∣2^64:=Nat.pow_dvd_pow 2 (by omega);have hle:(2:Nat)^k≤2^62:=Nat.pow_le_pow_right (by decide) hk;have hpos:0<(2:Nat)^k:=Nat.pow_pos (by decide);generalize hK:(2:Nat)^k=K at key hd hle hpos;rw[key];obtain⟨c,hc⟩:=hd
 have h1:((n%((2^64:Nat):Int)).toNat%K:Nat)=(n%(K:Int)).toNat:=by
  have h0:(0:Int)≤n%((2^64:Nat):Int):=Int.emod_nonneg _ (by decide);have h2:(0:Int)≤n%(K:Int):=Int.emod_nonneg _ (by omega);apply Int.ofNat.inj;show(((n%((2^64:Nat):Int)).toNat%K:Nat):Int)=((n%(K:Int)).toNat:Int);rw[Int.natCast_emod,Int.toNat_of_nonneg h0,Int.toNat_of_nonneg h2];exact Int.emod_emod_of_dvd n ⟨(c:Int),by rw[hc];exact Int.natCast_mul K c⟩
 rw[h1,IntKind.wrap_i64];have h2:(0:Int)≤n%(K:Int):=Int.emod_nonneg _ (by omega);have h3:n%(K:Int)<(K:Int):=Int.emod_lt_of_pos _ (by omega);omega
theorem i64_and1(n:Int):bits .and .i64 n 1=n%2:=i64_mask n 1 1 (by omega) (by decide)
theorem shr_any(m c:Nat)(hc:c≤64)(W:World):(binOp .shr 3 (.int .i64 (m:Int)) (.int .i64 (c:Int))).run Tryz.prog W=.ok (.int .i64 ((m/2^c:Nat):Int)) W:=by
 rw[binOp_shr,shift_shr_any .i64 .i64 (m:Int) (c:Int) (by omega)];show Result.ok (Value.int .i64 ((m:Int)/2^min (c:Int).toNat 64)) W=_;rw[Int.toNat_natCast,Nat.min_eq_left hc,Int.natCast_ediv,Int.natCast_pow];rfl
theorem pow_wrap{n:Nat}(hn:n≤8):wrap64 (2^n)=2^n:=by
 have h:(2:Int)^n≤256∧0≤(2:Int)^n:=by
  have:n=0∨n=1∨n=2∨n=3∨n=4∨n=5∨n=6∨n=7∨n=8:=by omega
  rcases this with rfl|rfl|rfl|rfl|rfl|rfl|rfl|rfl|rfl
  all_goals decide
 exact IntWalk.wrap64_in _ (by omega)
theorem hasFloor_any(b:Nat)(x:Int)(s:St)(vc vw:Value)(w:World)(h:NB w b s vc vw):
  Calls Tryz.prog 174 #[.int .i64 x,.pointer (some ⟨b,0,none⟩)] w fun e w'=>e=.returned (.bool (decide (0≤x)&&decide (x<s.fl)))∧w'=w:=by
 have c0:w.cell? ⟨b,0,none⟩=some (.int .i64 s.fl):=h.cell 0;clear h;by_cases hx:0≤x
 ·go_enter Tryz.func174,Tryz.ntmps174
  go_wp2;go_ret;exact⟨by simp[hx],rfl⟩
 ·go_enter Tryz.func174,Tryz.ntmps174
  go_wp2;go_ret;refine⟨ret_bool ?_,rfl⟩;rw[decide_eq_false (by omega)];rfl
theorem carOk_any(b bx:Nat)(x:Int×Int)(s:St)(vc vw:Value)(w:World)(h:NB w b s vc vw)(hb:w.cell? ⟨bx,0,none⟩=some (.func (.func 174) #[] #[.pointer (some ⟨b,0,none⟩)]))(hbx:bx<w.heap.size):
  Calls Tryz.prog 176 #[.agg #[.int .i64 x.1,.int .i64 x.2],.pointer (some ⟨bx,0,none⟩)] w fun e w'=>e=.returned (.bool (cok s.fl x))∧Below w.heap.size w w':=by
 have hb1:(w.alloc (.cells #[.int .i64 x.1,.int .i64 x.2] 178)).cell? ⟨bx,0,none⟩=some (.func (.func 174) #[] #[.pointer (some ⟨b,0,none⟩)]):=(Below.cell ((Below.refl _ w).alloc (Nat.le_refl _) _) (p:=⟨bx,0,none⟩) hbx).trans hb;have hc:=hasFloor_any b x.1 s vc vw _ (h.alloc (.cells #[.int .i64 x.1,.int .i64 x.2] 178));have HB:=Hd ((Below.refl w.heap.size w).alloc (Nat.le_refl _) (.cells #[.int .i64 x.1,.int .i64 x.2] 178));clear h hb;cases hq:(decide (0≤x.1)&&decide (x.1<s.fl))with
 |false=>
  rw[hq]at hc
  go_enter Tryz.func176,Tryz.ntmps176
  go_wp2_with fail
  refine hc.mono ?_;rintro e w' ⟨rfl,rfl⟩;clear hc;go_wp2;go_ret;refine⟨ret_bool ?_,HB.out⟩;unfold cok;rw[hq];rfl
 |true=>
  rw[hq]at hc;by_cases h2:0≤x.2
  ·go_enter Tryz.func176,Tryz.ntmps176
   go_wp2_with fail
   refine hc.mono ?_;rintro e w' ⟨rfl,rfl⟩;clear hc;go_wp2;go_ret;refine⟨ret_bool ?_,HB.out⟩;unfold cok;rw[hq];simp[h2]
  ·go_enter Tryz.func176,Tryz.ntmps176
   go_wp2_with fail
   refine hc.mono ?_;rintro e w' ⟨rfl,rfl⟩;clear hc;go_wp2;go_ret;refine⟨ret_bool ?_,HB.out⟩;unfold cok;rw[hq,decide_eq_false (show¬0≤x.2 by omega)];rfl
theorem wantOk_any(b bx n:Nat)(hn:n≤8)(x:Int×Int)(s:St)(hca:s.ca=(n:Int))(vc vw:Value)(w:World)(h:NB w b s vc vw)(hb:w.cell? ⟨bx,0,none⟩=some (.func (.func 174) #[] #[.pointer (some ⟨b,0,none⟩)]))(hbx:bx<w.heap.size):
  Calls Tryz.prog 178 #[.agg #[.int .i64 x.1,.int .i64 x.2],.pointer (some ⟨bx,0,none⟩),.pointer (some ⟨b,0,none⟩)] w fun e w'=>e=.returned (.bool (wok s.fl n x))∧Below w.heap.size w w':=by
 have hb1:(w.alloc (.cells #[.int .i64 x.1,.int .i64 x.2] 182)).cell? ⟨bx,0,none⟩=some (.func (.func 174) #[] #[.pointer (some ⟨b,0,none⟩)]):=(Below.cell ((Below.refl _ w).alloc (Nat.le_refl _) _) (p:=⟨bx,0,none⟩) hbx).trans hb;have HC:Hid (∀W,NB W b s vc vw→Calls Tryz.prog 174 #[.int .i64 x.1,.pointer (some ⟨b,0,none⟩)] W fun e w'=>e=.returned (.bool (decide (0≤x.1)&&decide (x.1<s.fl)))∧w'=W):=fun W hW=>hasFloor_any b x.1 s vc vw W hW;have hN:=h.alloc (.cells #[.int .i64 x.1,.int .i64 x.2] 182);have c1:(w.alloc (.cells #[.int .i64 x.1,.int .i64 x.2] 182)).cell? ⟨b,1,none⟩=some (.int .i64 (n:Int)):=by rw[hN.cell,←hca];rfl
 have HB:=Hd ((Below.refl w.heap.size w).alloc (Nat.le_refl _) (.cells #[.int .i64 x.1,.int .i64 x.2] 182));have HN:=Hd hN;clear h hb hN hca;cases hq:(decide (0≤x.1)&&decide (x.1<s.fl))with
 |false=>
  rw[hq]at HC
  go_enter Tryz.func178,Tryz.ntmps178
  go_wp2_with fail
  go_quiet (exact Calls.quiet_of_same (HC.out _ (HN.out.drewN _)))
  go_wp2;go_ret;refine⟨ret_bool ?_,below_drewN HB.out _⟩;unfold wok;rw[hq];rfl
 |true=>
  rw[hq]at HC;by_cases h2:0<x.2
  ·go_enter Tryz.func178,Tryz.ntmps178
   go_wp2_with fail
   go_quiet (exact Calls.quiet_of_same (HC.out _ (HN.out.drewN _)))
   go_wp2;go_ret;refine⟨ret_bool ?_,below_drewN HB.out _⟩;unfold wok;rw[hq];simp[h2,pow_wrap hn]
  ·have h3:decide (0<x.2)=false:=decide_eq_false h2;clear h2
   go_enter Tryz.func178,Tryz.ntmps178
   go_wp2_with fail
   go_quiet (exact Calls.quiet_of_same (HC.out _ (HN.out.drewN _)))
   go_wp2;go_ret;refine⟨ret_bool ?_,below_drewN HB.out _⟩;unfold wok;rw[hq,h3];rfl
theorem quiet_val{P:Program}{C:World→Prop}{K:Act→Prop}{o:Oper}{a:Act}(v:Value)(hrun:∀w,C w→(execOp a.eval o).run P w=.ok (.value v) w)(h:K (a.put o.dst v)):o.quiet P a C K:=
 ⟨v,fun w hw=>by unfold Oper.quietAt;rw[hrun w hw];exact⟨rfl,rfl⟩,h⟩
theorem quiet_load3{C:World→Prop}{K:Act→Prop}{o:Oper}{a:Act}(x:Operand)(b k:Nat){v:Value}(ho:o.op=.load 3 x)(hx:a.eval x=.pointer (some ⟨b,k,none⟩))(hr:∀w,C w→w.cell? ⟨b,k,none⟩=some v)
  (h:K (a.put o.dst v)):o.quiet Tryz.prog a C K:=
 quiet_val _ (fun w hw=>by unfold execOp;simp only[ho,hx,Sem.run_bind,Sem.run_pure,Result.andThen_ok,load3 w b k v (hr w hw)]) h
theorem wp_region_tail{P:Program}{id:Nat}{Q:Exit→Act→World→Prop}{a:Act}{w:World}{l:List Oper}(n:Nat)(hm:P.follows .mixedOrders=true)(hB:shapeB .any l.toArray n n=true)
  (h:wpCalm P l.toArray w.drew (fun a'=>∀w',Below w.drew.heap.size w.drew w'→wpList P l.toArray Q (l.drop n) a' w') (l.take n) a):
  (Code.region id l.toArray true).wp P Q a w:=by
 refine wp_region_new n n (fun _=>.cells #[] 0) hm hB (fun j h1 h2=>by omega) ?_;refine wpCalm_mono (fun a' ha σ w' hs=> ?_) _ a h
 match σ,hs with
 |[],hs=>exact ha w' hs.bel
 |p::r,hs=>
  exfalso;have h1:=hs.some p (by simp);omega
theorem calm_val{P:Program}{W0:World}{K:Act→Prop}{o:Oper}{a:Act}(v:Value)(hrun:∀w,Below W0.heap.size W0 w→(execOp a.eval o).run P w=.ok (.value v) w)(h:K (a.put o.dst v)):Oper.calm P W0 o a K:=
 ⟨v,fun w hw=>by unfold Oper.quietAt;rw[hrun w hw];exact⟨rfl,rfl⟩,h⟩
section
variable {W0:World} {K:Act→Prop} {o:Oper} {a:Act}
theorem calm_load3(x:Operand)(b k:Nat){v:Value}(ho:o.op=.load 3 x)(hx:a.eval x=.pointer (some ⟨b,k,none⟩))(hr:∀w,Below W0.heap.size W0 w→w.cell? ⟨b,k,none⟩=some v)
  (h:K (a.put o.dst v)):Oper.calm Tryz.prog W0 o a K:=
 calm_val _ (fun w hw=>by unfold execOp;simp only[ho,hx,Sem.run_bind,Sem.run_pure,Result.andThen_ok,load3 w b k v (hr w hw)]) h
end
section
variable {C:World→Prop} {K:Act→Prop} {o:Oper} {a:Act}
end
theorem wpOp_val{P:Program}{ops:Array Oper}{Q:Exit→Act→World→Prop}{i:Nat}{o:Oper}{K:Act→World→Prop}{a:Act}{w w':World}{v:Value}(hi:ops[i]?=some o)(hw:Region.wanted o (yielded ops a.tmps)=true)(hrun:(execOp a.eval o).run P w=.ok (.value v) w')(h:K (a.put o.dst v) w'):wpOp P ops Q i K a w:=by
 unfold wpOp;rw[hi];simp only;rw[if_pos hw];refine .inl ?_;unfold Oper.wp;rw[hrun];exact h
theorem wpOp_call{P:Program}{ops:Array Oper}{Q:Exit→Act→World→Prop}{i:Nat}{o:Oper}{K:Act→World→Prop}{a:Act}{w:World}{f:FuncId}{args:Array Value}{R:Ending→World→Prop}(hi:ops[i]?=some o)(hw:Region.wanted o (yielded ops a.tmps)=true)(hrun:(execOp a.eval o).run P w=.ok (.enter f args) w)(hc:Calls P f args w R)(hK:∀e w',R e w'→∃v,e=.returned v∧K (a.put o.dst v) w'):wpOp P ops Q i K a w:=by
 unfold wpOp;rw[hi];simp only;rw[if_pos hw];refine .inl ?_;unfold Oper.wp;rw[hrun];refine hc.mono fun e w' h=> ?_;obtain⟨v,rfl,hk⟩:=hK e w' h;exact hk
theorem yields_val{P:Program}{ops:Array Oper}{o:Oper}{a:Act}{v:Value}(hw:Region.wanted o (yielded ops a.tmps)=true)(h:∀w,(execOp a.eval o).run P w=.ok (.value v) w):Yields P ops o v a:=.inl ⟨hw,h⟩
theorem wpAny_seq{P:Program}{md:Region.Mode}{l:List Oper}{Q:Exit→Act→World→Prop}{fuel:Nat}{listed:Array Bool}{a:Act}{w:World}(k:Nat)(hk:(l.drop k).length=fuel)(hB:Region.seqB md l.toArray fuel k listed=true)(h:wpList P l.toArray Q (l.drop k) a w):wpAny P md l.toArray Q fuel listed a w:=by
 subst hk;exact wpAny_of_seq (l.drop k) k listed a w (fun j=>by simp[List.getElem?_drop]) hB h
end Go.Proofs.YtlajleogofmkcaaGreat
namespace Go.Proofs.YtlajleogofmkcaaGreat.NumM
def cl(a:Int):Int:=if 1099511627776<a then 1099511627776 else if a< -1099511627776 then -1099511627776 else a
theorem cl_bd(a:Int): -1099511627776≤cl a∧cl a≤1099511627776:=by
 unfold cl;split
 ·omega
 ·split<;>omega
theorem cl_hi{a:Int}(h:1099511627776<a):cl a=1099511627776:=by unfold cl;rw[if_pos h]
theorem cl_lo{a:Int}(h:a< -1099511627776):cl a= -1099511627776:=by
 unfold cl;rw[if_neg (by omega),if_pos h]
theorem cl_in{a:Int}(h1: -1099511627776≤a)(h2:a≤1099511627776):cl a=a:=by
 unfold cl;rw[if_neg (by omega),if_neg (by omega)]
def sz(a:Int):Int:=if a<0 then -a else a
theorem sz_nonneg(a:Int):0≤sz a:=by unfold sz;split<;>omega
theorem sz_pos{a:Int}(h:a≠0):1≤sz a:=by unfold sz;split<;>omega
theorem sz_neg{a:Int}(h:a<0):sz a= -a:=by unfold sz;rw[if_pos h]
theorem sz_nn{a:Int}(h:0≤a):sz a=a:=by unfold sz;rw[if_neg (by omega)]
theorem sz_mul(a b:Int):sz (a*b)=sz a*sz b:=by
 by_cases ha:a<0<;>by_cases hb:b<0
 ·have h:0<a*b:=Int.mul_pos_of_neg_of_neg ha hb;rw[sz_nn (by omega),sz_neg ha,sz_neg hb,Int.neg_mul_neg]
 ·by_cases h0:b=0
  ·subst h0;simp[sz]
  ·have h:a*b<0:=Int.mul_neg_of_neg_of_pos ha (by omega);rw[sz_neg h,sz_neg ha,sz_nn (by omega),Int.neg_mul]
 ·by_cases h0:a=0
  ·subst h0;simp[sz]
  ·have h:a*b<0:=Int.mul_neg_of_pos_of_neg (by omega) hb;rw[sz_neg h,sz_neg hb,sz_nn (by omega),Int.mul_neg]
 ·have h:0≤a*b:=Int.mul_nonneg (by omega) (by omega);rw[sz_nn h,sz_nn (by omega),sz_nn (by omega)]
theorem big_of{x y:Int}(hx:1≤x)(h:1099511627776/x<y):1099511627776<x*y:=by
 have h1:=Int.lt_ediv_add_one_mul_self 1099511627776 (by omega:0<x);have h2:(1099511627776/x+1)*x≤y*x:=Int.mul_le_mul_of_nonneg_right (by omega) (by omega);rw[Int.mul_comm x y];omega
theorem small_of{x y:Int}(hx:1≤x)(h:y≤1099511627776/x):x*y≤1099511627776:=by
 have h1:=Int.ediv_mul_le 1099511627776 (by omega:x≠0);have h2:y*x≤1099511627776/x*x:=Int.mul_le_mul_of_nonneg_right h (by omega);rw[Int.mul_comm x y];omega
theorem cl_mul_pass{a b:Int}(ha:a≠0)(h:1099511627776/sz a<sz b):
  cl (a*b)=if(a<0)≠(b<0)then -1099511627776 else 1099511627776:=by
 have hb:=big_of (sz_pos ha) h;rw[←sz_mul]at hb;have h1:=sz_nonneg (1099511627776/sz a)
 have hb0:b≠0:=by
  rintro rfl;simp[sz]at hb
 by_cases hm:a*b<0
 ·rw[sz_neg hm]at hb;rw[cl_lo (by omega)];by_cases xa:a<0<;>by_cases xb:b<0
  ·have:=Int.mul_pos_of_neg_of_neg xa xb;omega
  ·simp[xa,xb]
  ·simp[xa,xb]
  ·have:=Int.mul_nonneg (by omega:0≤a) (by omega:0≤b);omega
 ·rw[sz_nn (by omega)]at hb;rw[cl_hi hb];by_cases xa:a<0<;>by_cases xb:b<0
  ·simp[xa,xb]
  ·have:=Int.mul_neg_of_neg_of_pos xa (by omega:0<b);omega
  ·have:=Int.mul_neg_of_pos_of_neg (by omega:0<a) xb;omega
  ·simp[xa,xb]
theorem mul_small{a b:Int}(h:a=0∨sz b≤1099511627776/sz a): -1099511627776≤a*b∧a*b≤1099511627776:=by
 by_cases ha:a=0
 ·subst ha;simp
 ·have h':sz b≤1099511627776/sz a:=by rcases h with h|h;exact absurd h ha;exact h
  have:=small_of (sz_pos ha) h';rw[←sz_mul]at this;by_cases hm:a*b<0
  ·rw[sz_neg hm]at this;omega
  ·rw[sz_nn (by omega)]at this;omega
def sumL(l:List Int):Int:=l.foldl (fun n x=>cl (cl n+cl x)) 0
theorem sumL_snoc(l:List Int)(x:Int):sumL (l++[x])=cl (cl (sumL l)+cl x):=by simp[sumL]
end Go.Proofs.YtlajleogofmkcaaGreat.NumM
namespace Go.Proofs.YtlajleogofmkcaaGreat
namespace SM
def dist(a b:Int):Int:=if a<b then b-a else a-b
def trav(s:St)(a b:Int):Int:=if a<0∨b<0∨s.fl≤a∨s.fl≤b∨a=b then 0 else s.sta+s.ste*dist a b+s.sto
def hol(h:Int):Int:=if h<0 then 0 else if 1000000<h then 1000000 else h
def run(s:St):Int:=s.opn+s.wai+s.clo+4
theorem mul_bd{a b A B:Int}(h1:0≤a)(h2:a≤A)(h3:0≤b)(h4:b≤B):0≤a*b∧a*b≤A*B:=
 ⟨Int.mul_nonneg h1 h3,Int.mul_le_mul h2 h4 h3 (by omega)⟩
theorem step_bd{s:St}(r:Rt s){d:Int}(h1:0≤d)(h2:d≤63):0≤s.ste*d∧s.ste*d≤63000:=by
 have:=r.ste1;have:=r.ste2;have:=mul_bd (a:=s.ste) (b:=d) (A:=1000) (B:=63) (by omega) (by omega) h1 h2;omega
theorem dist_bd{s:St}(r:Rt s){a b:Int}(h1:0≤a)(h2:0≤b)(h3:a<s.fl)(h4:b<s.fl):0≤dist a b∧dist a b≤63:=by
 have:=r.fl2;unfold dist;split<;>omega
theorem trav_out{s:St}{a b:Int}(h:a<0∨b<0∨s.fl≤a∨s.fl≤b∨a=b):trav s a b=0:=by unfold trav;rw[if_pos h]
theorem trav_in{s:St}{a b:Int}(h1:0≤a)(h2:0≤b)(h3:a<s.fl)(h4:b<s.fl)(h5:a≠b):trav s a b=s.sta+s.ste*dist a b+s.sto:=by
 unfold trav;rw[if_neg (by omega)]
theorem trav_bd{s:St}(r:Rt s)(a b:Int):0≤trav s a b∧trav s a b≤65000:=by
 unfold trav;split
 ·omega
 ·rename_i h;have d:=dist_bd r (a:=a) (b:=b) (by omega) (by omega) (by omega) (by omega);have:=step_bd r d.1 d.2;have:=r.sta1;have:=r.sta2;have:=r.sto1;have:=r.sto2;omega
theorem sumL3{a b c:Int}(h1:0≤a)(h2:0≤b)(h3:0≤c)(h:a+b+c≤1099511627776):NumM.sumL [a,b,c]=a+b+c:=by
 have e:([a,b,c]:List Int)=(([]++[a])++[b])++[c]:=rfl;rw[e,NumM.sumL_snoc,NumM.sumL_snoc,NumM.sumL_snoc];have z:NumM.sumL []=0:=rfl
 rw[z,NumM.cl_in (a:=0) (by omega) (by omega),NumM.cl_in (a:=a) (by omega) (by omega),Int.zero_add,NumM.cl_in (a:=a) (by omega) (by omega),
  NumM.cl_in (a:=a) (by omega) (by omega),NumM.cl_in (a:=b) (by omega) (by omega),NumM.cl_in (a:=a+b) (by omega) (by omega),NumM.cl_in (a:=a+b) (by omega) (by omega),
  NumM.cl_in (a:=c) (by omega) (by omega),NumM.cl_in (by omega) (by omega)]
theorem sumL4{a b c d:Int}(h1:0≤a)(h2:0≤b)(h3:0≤c)(h4:0≤d)(h:a+b+c+d≤1099511627776):NumM.sumL [a,b,c,d]=a+b+c+d:=by
 have e:([a,b,c,d]:List Int)=[a,b,c]++[d]:=rfl;rw[e,NumM.sumL_snoc,sumL3 h1 h2 h3 (by omega),NumM.cl_in (a:=a+b+c) (by omega) (by omega),NumM.cl_in (a:=d) (by omega) (by omega),NumM.cl_in (by omega) (by omega)]
theorem mulC{a b A B:Int}(h1:0≤a)(h2:a≤A)(h3:0≤b)(h4:b≤B)(hA:A≤1099511627776)(hB:B≤1099511627776)(h:A*B≤1099511627776):NumM.cl (NumM.cl a*NumM.cl b)=a*b:=by
 have:=mul_bd h1 h2 h3 h4;rw[NumM.cl_in (a:=a) (by omega) (by omega),NumM.cl_in (a:=b) (by omega) (by omega),NumM.cl_in (by omega) (by omega)]
theorem addC{a b:Int}(h1:0≤a)(h2:0≤b)(h:a+b≤1099511627776):NumM.cl (NumM.cl a+NumM.cl b)=a+b:=by
 rw[NumM.cl_in (a:=a) (by omega) (by omega),NumM.cl_in (a:=b) (by omega) (by omega),NumM.cl_in (by omega) (by omega)]
theorem travel_sum{s:St}(r:Rt s){a b:Int}(h1:0≤a)(h2:0≤b)(h3:a<s.fl)(h4:b<s.fl)(h5:a≠b):
  NumM.sumL [s.sta,NumM.cl (NumM.cl s.ste*NumM.cl (dist a b)),s.sto]=trav s a b:=by
 have d:=dist_bd r h1 h2 h3 h4;have:=step_bd r d.1 d.2;have:=r.ste1;have:=r.ste2;have:=r.sta1;have:=r.sta2;have:=r.sto1;have:=r.sto2;rw[mulC (A:=1000) (B:=63) (by omega) (by omega) d.1 d.2 (by omega) (by omega) (by omega),sumL3 (by omega) (by omega) (by omega) (by omega),trav_in h1 h2 h3 h4 h5]
end SM
open Go.RowKit
theorem within_any(a:Int)(w:World):
  Calls Tryz.prog 130 #[.int .i64 a] w fun e w'=>e=.returned (.int .i64 (NumM.cl a))∧w'=w:=by
 go_enter Tryz.func130,Tryz.ntmps130
 go_wp2
 all_goals
  go_ret;exact⟨ret_int (by unfold NumM.cl;(repeat' split);all_goals omega),rfl⟩
theorem size_any(a:Int)(w:World)(h1: -1099511627776≤a)(h2:a≤1099511627776):
  Calls Tryz.prog 163 #[.int .i64 a] w fun e w'=>e=.returned (.int .i64 (NumM.sz a))∧w'=w:=by
 go_enter Tryz.func163,Tryz.ntmps163
 go_wp2
 all_goals
  go_ret;exact⟨ret_int (by unfold NumM.sz;split<;>omega),rfl⟩
theorem add_any(a b:Int)(w:World):
  Calls Tryz.prog 94 #[.int .i64 a,.int .i64 b] w fun e w'=>e=.returned (.int .i64 (NumM.cl (NumM.cl a+NumM.cl b)))∧w'=w:=by
 obtain⟨a1,a2⟩:=NumM.cl_bd a;obtain⟨b1,b2⟩:=NumM.cl_bd b
 go_enter Tryz.func94,Tryz.ntmps94
 go_wp2_with (go_at_call 130;refine (within_any _ _).mono ?_;rintro e w' ⟨rfl,rfl⟩)
 go_ret;exact⟨rfl,rfl⟩
theorem mul_any(a b:Int)(w:World):
  Calls Tryz.prog 124 #[.int .i64 a,.int .i64 b] w fun e w'=>e=.returned (.int .i64 (NumM.cl (NumM.cl a*NumM.cl b)))∧w'=w:=by
 obtain⟨a1,a2⟩:=NumM.cl_bd a;obtain⟨b1,b2⟩:=NumM.cl_bd b;have s1:=NumM.sz_nonneg (NumM.cl a);have s2:=NumM.sz_nonneg (NumM.cl b);by_cases h0:NumM.cl a=0
 ·have hb:(NumM.cl a !=0)=false:=by simp[h0]
  have H0:Hid (NumM.cl a=0):=h0;have hm:=NumM.mul_small (b:=NumM.cl b) (Or.inl h0);clear h0
  go_enter Tryz.func124,Tryz.ntmps124
  go_wp2_with (first|(go_at_call 130;refine (within_any _ _).mono ?_;rintro e w' ⟨rfl,rfl⟩)|(go_at_call 163;refine (size_any _ _ (by omega) (by omega)).mono ?_;rintro e w' ⟨rfl,rfl⟩))
  go_ret;exact⟨ret_int (by rw[NumM.cl_in hm.1 hm.2]),rfl⟩
 ·have hb:(NumM.cl a !=0)=true:=by simp[h0]
  have s3:=NumM.sz_pos h0;by_cases hq:NumM.sz (NumM.cl b)≤1099511627776/NumM.sz (NumM.cl a)
  ·have hm:=NumM.mul_small (Or.inr hq);clear h0
   go_enter Tryz.func124,Tryz.ntmps124
   go_wp2_with (first|(go_at_call 130;refine (within_any _ _).mono ?_;rintro e w' ⟨rfl,rfl⟩)|(go_at_call 163;refine (size_any _ _ (by omega) (by omega)).mono ?_;rintro e w' ⟨rfl,rfl⟩))
   go_ret;exact⟨ret_int (by rw[NumM.cl_in hm.1 hm.2]),rfl⟩
  ·have hq':1099511627776/NumM.sz (NumM.cl a)<NumM.sz (NumM.cl b):=by omega
   have HM:Hid (NumM.cl (NumM.cl a*NumM.cl b)=if(NumM.cl a<0)≠(NumM.cl b<0)then -1099511627776 else 1099511627776):=NumM.cl_mul_pass h0 hq';clear h0 hq;rcases Bool.eq_false_or_eq_true (decide (NumM.cl a<0))with xa|xa<;>rcases Bool.eq_false_or_eq_true (decide (NumM.cl b<0))with xb|xb
   all_goals
    go_enter Tryz.func124,Tryz.ntmps124
    go_wp2_with (first|(go_at_call 130;refine (within_any _ _).mono ?_;rintro e w' ⟨rfl,rfl⟩)|(go_at_call 163;refine (size_any _ _ (by omega) (by omega)).mono ?_;rintro e w' ⟨rfl,rfl⟩))
    go_ret;exact⟨ret_int (by rw[HM.out];simp only[decide_eq_true_eq,decide_eq_false_iff_not]at xa xb;simp[xa,xb]),rfl⟩
theorem take_snoc_i(zs:List Int)(k:Nat)(h:k<zs.length):zs.take (k+1)=zs.take k++[zs[k]?.getD 0]:=by
 rw[List.take_succ_eq_append_getElem h];simp[h]
theorem sum_take(zs:List Int)(k:Nat)(h:k<zs.length):NumM.cl (NumM.cl (NumM.sumL (zs.take k))+NumM.cl (zs[k]?.getD 0))=NumM.sumL (zs.take (k+1)):=by
 rw[take_snoc_i zs k h,NumM.sumL_snoc]
theorem sum_any(b off len cap:Nat)(zs:List Int)(w:World)(hl:len≤zs.length)(hm:len≤1000000)
  (hc:∀i,i<len→w.cell? ⟨b,off+i,none⟩=some (.int .i64 (zs[i]?.getD 0))):
  Calls Tryz.prog 123 #[.slice (some ⟨b,off,none⟩) len cap] w fun e w'=>e=.returned (.int .i64 (NumM.sumL (zs.take len)))∧w'=w:=by
 go_enter Tryz.func123,Tryz.ntmps123
 go_wp2
 go_loop [3,8] (fun t i=>∃k:Nat,k≤len∧i=.int .i64 k∧t=.int .i64 (NumM.sumL (zs.take k))) (fun _ i=>len-(intOf i).toNat)
 case atStart=>exact⟨0,Nat.zero_le _,rfl,rfl⟩
 case round=>
  obtain⟨k,hk,rfl,rfl⟩:=hrel;by_cases hlt:k<len
  ·have hcell:=hc k hlt;have HS:Hid (NumM.cl (NumM.cl (NumM.sumL (zs.take k))+NumM.cl (zs[k]?.getD 0))=NumM.sumL (zs.take (k+1))):=sum_take zs k (by omega);clear hc
   go_wp2_with (go_at_call 94;refine (add_any _ _ _).mono ?_;rintro e w' ⟨rfl,rfl⟩)
   go_round
   case rel=>exact⟨k+1,by omega,by go_num,by rw[HS.out]⟩
   case measure=>simp[intOf];omega
  ·obtain rfl:k=len:=by omega
   clear hc;go_wp2;go_ret;exact⟨rfl,rfl⟩
theorem new_drew(W:World)(o:Obj)(n:Nat)(hn:W.heap.size=n):((W.alloc o).drew).heap[n]?=some o:=by subst hn;exact World.alloc_heap_new W o
theorem new_at(W:World)(o:Obj)(n:Nat)(hn:W.heap.size=n):(W.alloc o).heap[n]?=some o:=by subst hn;exact World.alloc_heap_new W o
theorem sum_row(W:World)(n:Nat)(zs:List Int)(L C:Nat)(hl:zs.length=L)(hm:L≤100)(hn:W.heap[n]?=some (.cells (zs.map fun z=>Value.int .i64 z).toArray 3)):
  Calls Tryz.prog 123 #[.slice (some ⟨n,0,none⟩) L C] W fun e w'=>e=.returned (.int .i64 (NumM.sumL zs))∧w'=W:=by
 subst hl
 have:=sum_any n 0 zs.length C zs W (Nat.le_refl _) (by omega) (fun i hi=>by
  rw[Nat.zero_add];have e:W.cell? ⟨n,i,none⟩=(zs.map fun z=>Value.int .i64 z).toArray[i]?:=by unfold World.cell?;rw[hn];rfl
  rw[e]
  simp[hi])
 rwa[List.take_length]at this
theorem sum3(W:World)(n:Nat)(x y z:Int)(C:Nat)(hn:W.heap[n]?=some (.cells #[.int .i64 x,.int .i64 y,.int .i64 z] 3)):
  Calls Tryz.prog 123 #[.slice (some ⟨n,0,none⟩) 3 C] W fun e w'=>e=.returned (.int .i64 (NumM.sumL [x,y,z]))∧w'=W:=
 sum_row W n [x,y,z] 3 C rfl (by omega) hn
theorem travel_out(s:St)(a b:Int)(w:World)(HO:Hid (a<0∨b<0∨s.fl≤a∨s.fl≤b∨a=b)):
  Calls Tryz.prog 90 #[.agg (sv s).toArray,.int .i64 a,.int .i64 b] w fun e w'=>e=.returned (.int .i64 (SM.trav s a b))∧Below w.heap.size w w':=by
 have n0:=SB.new w s;have hc0:(w.alloc (.cells (sv s).toArray 23)).cell? ⟨w.heap.size,0,none⟩=some (.int .i64 s.fl):=n0.cell 0;have HB:Hid (Below w.heap.size w (w.alloc (.cells (sv s).toArray 23))):=Hd ((Below.refl _ w).alloc (Nat.le_refl _) _);have HT:=Hd (SM.trav_out HO.out);clear n0
 go_enter Tryz.func90,Tryz.ntmps90
 go_wp2
 all_goals first
  |(go_ret;exact⟨ret_int HT.out.symm,HB.out⟩)
  |(exfalso;have:=HO.out;simp only[beq_eq_false_iff_ne]at*;omega)
theorem travel_up(s:St)(a b:Int)(w:World)(h2:b<s.fl)(f1:s.fl≤64)(h1:0≤a)(hlt:a<b)(HS:Hid (NumM.sumL [s.sta,NumM.cl (NumM.cl s.ste*NumM.cl (b-a)),s.sto]=SM.trav s a b)):
  Calls Tryz.prog 90 #[.agg (sv s).toArray,.int .i64 a,.int .i64 b] w fun e w'=>e=.returned (.int .i64 (SM.trav s a b))∧Below w.heap.size w w':=by
 have n0:=SB.new w s;have hc0:(w.alloc (.cells (sv s).toArray 23)).cell? ⟨w.heap.size,0,none⟩=some (.int .i64 s.fl):=n0.cell 0;have hc2:(w.alloc (.cells (sv s).toArray 23)).cell? ⟨w.heap.size,2,none⟩=some (.int .i64 s.sta):=n0.cell 2;have hc3:(w.alloc (.cells (sv s).toArray 23)).cell? ⟨w.heap.size,3,none⟩=some (.int .i64 s.ste):=n0.cell 3;have hc4:(w.alloc (.cells (sv s).toArray 23)).cell? ⟨w.heap.size,4,none⟩=some (.int .i64 s.sto):=n0.cell 4;have HB:Hid (Below w.heap.size w (w.alloc (.cells (sv s).toArray 23))):=Hd ((Below.refl _ w).alloc (Nat.le_refl _) _);have hx:(a==b)=false:=by simp;omega
 clear n0
 go_enter Tryz.func90,Tryz.ntmps90
 go_wp2
 go_region_held3 (fun w'=>w'.cell? ⟨w.heap.size,2,none⟩=some (.int .i64 s.sta)∧w'.cell? ⟨w.heap.size,3,none⟩=some (.int .i64 s.ste)∧w'.cell? ⟨w.heap.size,4,none⟩=some (.int .i64 s.sto)) (go_keep) (first|(go_at_call 124;refine (mul_any _ _ _).mono ?_;rintro e w' ⟨rfl,rfl⟩)|(go_at_call 123;refine (sum3 _ _ _ _ _ _ (new_drew _ _ _ (World.size_alloc _ _))).mono ?_;rintro e w' ⟨rfl,rfl⟩))
 go_wp2;go_ret;exact⟨ret_int (by rw[IntWalk.i64_in _ ⟨by omega,by omega⟩];exact HS.out),(HB.out.alloc (by simp) _).drew⟩
theorem travel_down(s:St)(a b:Int)(w:World)(h2:a<s.fl)(f1:s.fl≤64)(h1:0≤b)(hlt:b<a)(HS:Hid (NumM.sumL [s.sta,NumM.cl (NumM.cl s.ste*NumM.cl (a-b)),s.sto]=SM.trav s a b)):
  Calls Tryz.prog 90 #[.agg (sv s).toArray,.int .i64 a,.int .i64 b] w fun e w'=>e=.returned (.int .i64 (SM.trav s a b))∧Below w.heap.size w w':=by
 have n0:=SB.new w s;have hc0:(w.alloc (.cells (sv s).toArray 23)).cell? ⟨w.heap.size,0,none⟩=some (.int .i64 s.fl):=n0.cell 0;have hc2:(w.alloc (.cells (sv s).toArray 23)).cell? ⟨w.heap.size,2,none⟩=some (.int .i64 s.sta):=n0.cell 2;have hc3:(w.alloc (.cells (sv s).toArray 23)).cell? ⟨w.heap.size,3,none⟩=some (.int .i64 s.ste):=n0.cell 3;have hc4:(w.alloc (.cells (sv s).toArray 23)).cell? ⟨w.heap.size,4,none⟩=some (.int .i64 s.sto):=n0.cell 4;have HB:Hid (Below w.heap.size w (w.alloc (.cells (sv s).toArray 23))):=Hd ((Below.refl _ w).alloc (Nat.le_refl _) _);have hx:(b==a)=false:=by simp;omega
 clear n0
 go_enter Tryz.func90,Tryz.ntmps90
 go_wp2
 go_region_held3 (fun w'=>w'.cell? ⟨w.heap.size,2,none⟩=some (.int .i64 s.sta)∧w'.cell? ⟨w.heap.size,3,none⟩=some (.int .i64 s.ste)∧w'.cell? ⟨w.heap.size,4,none⟩=some (.int .i64 s.sto)) (go_keep) (first|(go_at_call 124;refine (mul_any _ _ _).mono ?_;rintro e w' ⟨rfl,rfl⟩)|(go_at_call 123;refine (sum3 _ _ _ _ _ _ (new_drew _ _ _ (World.size_alloc _ _))).mono ?_;rintro e w' ⟨rfl,rfl⟩))
 go_wp2;go_ret;exact⟨ret_int (by rw[IntWalk.i64_in _ ⟨by omega,by omega⟩];exact HS.out),(HB.out.alloc (by simp) _).drew⟩
theorem travel_any(s:St)(r:SM.Rt s)(a b:Int)(w:World):
  Calls Tryz.prog 90 #[.agg (sv s).toArray,.int .i64 a,.int .i64 b] w fun e w'=>e=.returned (.int .i64 (SM.trav s a b))∧Below w.heap.size w w':=by
 by_cases hout:a<0∨b<0∨s.fl≤a∨s.fl≤b∨a=b
 ·exact travel_out s a b w hout
 ·have f1:=r.fl2;have hne:¬a=b:=by omega
  have HS:=SM.travel_sum r (a:=a) (b:=b) (by omega) (by omega) (by omega) (by omega) hne;unfold SM.dist at HS;rcases Int.lt_or_lt_of_ne hne with hlt|hlt
  ·rw[if_pos hlt]at HS;exact travel_up s a b w (by omega) f1 (by omega) hlt HS
  ·rw[if_neg (by omega)]at HS;exact travel_down s a b w (by omega) f1 (by omega) hlt HS
theorem SB.c0{W:World}{b:Nat}{s:St}(h:SB W b s):W.cell? ⟨b,0,none⟩=some (.int .i64 s.fl):=h.cell 0
theorem SB.c2{W:World}{b:Nat}{s:St}(h:SB W b s):W.cell? ⟨b,2,none⟩=some (.int .i64 s.sta):=h.cell 2
theorem SB.c3{W:World}{b:Nat}{s:St}(h:SB W b s):W.cell? ⟨b,3,none⟩=some (.int .i64 s.ste):=h.cell 3
theorem SB.c4{W:World}{b:Nat}{s:St}(h:SB W b s):W.cell? ⟨b,4,none⟩=some (.int .i64 s.sto):=h.cell 4
theorem SB.c5{W:World}{b:Nat}{s:St}(h:SB W b s):W.cell? ⟨b,5,none⟩=some (.int .i64 s.opn):=h.cell 5
theorem SB.c6{W:World}{b:Nat}{s:St}(h:SB W b s):W.cell? ⟨b,6,none⟩=some (.int .i64 s.wai):=h.cell 6
theorem SB.c7{W:World}{b:Nat}{s:St}(h:SB W b s):W.cell? ⟨b,7,none⟩=some (.int .i64 s.clo):=h.cell 7
theorem SB.c8{W:World}{b:Nat}{s:St}(h:SB W b s):W.cell? ⟨b,8,none⟩=some (.int .i64 s.nud):=h.cell 8
theorem SB.c9{W:World}{b:Nat}{s:St}(h:SB W b s):W.cell? ⟨b,9,none⟩=some (.int .i64 s.age):=h.cell 9
theorem SB.c12{W:World}{b:Nat}{s:St}(h:SB W b s):W.cell? ⟨b,12,none⟩=some (.int .i64 s.per):=h.cell 12
def Pr(g:Nat)(lb:Array Value)(p:Int×Int→Bool)(w:World):Prop:=
 ∀(W:World) (x:Int×Int),Below w.heap.size w W→Calls Tryz.prog g (#[.agg #[.int .i64 x.1,.int .i64 x.2]]++lb) W fun e w'=>e=.returned (.bool (p x))∧Below W.heap.size W w'
theorem all_take{α:Type}{p:α→Bool}{l:List α}{k:Nat}{x:α}(hk:l[k]?=some x):(l.take (k+1)).all p=((l.take k).all p&&p x):=by
 rw[List.take_add_one,hk,List.all_append];simp
theorem all_not{α:Type}{p:α→Bool}{l:List α}{k:Nat}{x:α}(hk:l[k]?=some x)(hx:p x=false):l.all p=false:=by
 cases h:l.all p
 ·rfl
 ·rw[List.all_eq_true.1 h x (List.mem_of_getElem? hk)]at hx;cases hx
theorem everyR(g:Nat)(lb:Array Value)(p:Int×Int→Bool)(eg:∀args w,(callFunc g args).run Tryz.prog w=.ok (.enter g args) w)(D:Nat→Prop)(v:Value)(L:List (Int×Int))(w:World)(hR:R2 D w v L)(hL:L.length≤200)(hp:Pr g lb p w):
  Calls Tryz.prog 175 #[v,.func (.func g) #[] lb] w fun e w'=>e=.returned (.bool (L.all p))∧Below w.heap.size w w':=by
 obtain⟨a,cap,rfl,hcap,_⟩:=hR.form;generalize hn:L.length=n at hcap hL;have HN:Hid (L.length=n):=hn;have HR:Hid (R2 D w (.slice a L.length cap) L):=hR;have HP:Hid (Pr g lb p w):=hp;clear hn hR hp
 go_enter Tryz.func175,Tryz.ntmps175
 go_wp2
 go_loopw [6,9] (fun _ i wr=>∃k:Nat,k≤n∧i=.int .i64 k∧Below w.heap.size w wr∧Hid ((L.take k).all p=true)) (fun _ i _=>n-(intOf i).toNat)
 case atStart=>exact⟨0,Nat.zero_le _,rfl,Below.refl _ _,rfl⟩
 case round=>
  obtain⟨k,hk,rfl,hbel,HNO⟩:=hrel;by_cases hlt2:k<n
  ·have hkz:(k:Int)<(n:Int):=by omega
   obtain⟨y,hy⟩:∃y,L[k]?=some y:=⟨_,List.getElem?_eq_getElem (by have:=HN.out;omega)⟩;obtain⟨gb,o,rfl,c0,c1⟩:=(HR.out.below' hbel).at hy;have HBEL:=Hd hbel;have HY:=Hd hy;have hb1:Below wr.heap.size wr (wr.alloc (.cells #[.int .i64 y.1,.int .i64 y.2] 178)):=(Below.refl _ _).alloc (Nat.le_refl _) _;have hc:=HP.out _ y (below_class hbel hb1);have HB1:=Hd (below_class hbel hb1);clear hbel hy hb1;cases hq:p y with
   |true=>
    rw[hq]at hc
    go_wp2_with (go_at_fn g;refine hc.mono ?_;rintro e w' ⟨rfl,hb'⟩)
    go_roundw
    case rel=>exact⟨k+1,by omega,by go_num,below_class HB1.out hb',by rw[all_take HY.out,HNO.out,hq];rfl⟩
    case measure=>simp[intOf];omega
   |false=>
    rw[hq]at hc
    go_wp2_with (go_at_fn g;refine hc.mono ?_;rintro e w' ⟨rfl,hb'⟩)
    go_ret;exact⟨ret_bool (all_not HY.out hq).symm,below_class HB1.out hb'⟩
  ·have HKN:Hid (k=n):=by show k=n;omega
   have hkz:¬(k:Int)<(n:Int):=by omega
   go_wp2;go_ret;refine⟨ret_bool ?_,hbel⟩;have h1:=HNO.out;rw[HKN.out,←HN.out,List.take_length]at h1;exact h1.symm
theorem everyW(g:Nat)(lb:Array Value)(p:Int×Int→Bool)(eg:∀args w,(callFunc g args).run Tryz.prog w=.ok (.enter g args) w)(D:Nat→Prop)(v:Value)(L:List (Int×Int))(w:World)(hR:R2 D w v L)(hL:L.length≤200)(hp:Pr g lb p w):
  Calls Tryz.prog 177 #[v,.func (.func g) #[] lb] w fun e w'=>e=.returned (.bool (L.all p))∧Below w.heap.size w w':=by
 obtain⟨a,cap,rfl,hcap,_⟩:=hR.form;generalize hn:L.length=n at hcap hL;have HN:Hid (L.length=n):=hn;have HR:Hid (R2 D w (.slice a L.length cap) L):=hR;have HP:Hid (Pr g lb p w):=hp;clear hn hR hp
 go_enter Tryz.func177,Tryz.ntmps177
 go_wp2
 go_loopw [6,9] (fun _ i wr=>∃k:Nat,k≤n∧i=.int .i64 k∧Below w.heap.size w wr∧Hid ((L.take k).all p=true)) (fun _ i _=>n-(intOf i).toNat)
 case atStart=>exact⟨0,Nat.zero_le _,rfl,Below.refl _ _,rfl⟩
 case round=>
  obtain⟨k,hk,rfl,hbel,HNO⟩:=hrel;by_cases hlt2:k<n
  ·have hkz:(k:Int)<(n:Int):=by omega
   obtain⟨y,hy⟩:∃y,L[k]?=some y:=⟨_,List.getElem?_eq_getElem (by have:=HN.out;omega)⟩;obtain⟨gb,o,rfl,c0,c1⟩:=(HR.out.below' hbel).at hy;have HBEL:=Hd hbel;have HY:=Hd hy;have hb1:Below wr.heap.size wr (wr.alloc (.cells #[.int .i64 y.1,.int .i64 y.2] 182)):=(Below.refl _ _).alloc (Nat.le_refl _) _;have hc:=HP.out _ y (below_class hbel hb1);have HB1:=Hd (below_class hbel hb1);clear hbel hy hb1;cases hq:p y with
   |true=>
    rw[hq]at hc
    go_wp2_with (go_at_fn g;refine hc.mono ?_;rintro e w' ⟨rfl,hb'⟩)
    go_roundw
    case rel=>exact⟨k+1,by omega,by go_num,below_class HB1.out hb',by rw[all_take HY.out,HNO.out,hq];rfl⟩
    case measure=>simp[intOf];omega
   |false=>
    rw[hq]at hc
    go_wp2_with (go_at_fn g;refine hc.mono ?_;rintro e w' ⟨rfl,hb'⟩)
    go_ret;exact⟨ret_bool (all_not HY.out hq).symm,below_class HB1.out hb'⟩
  ·have HKN:Hid (k=n):=by show k=n;omega
   have hkz:¬(k:Int)<(n:Int):=by omega
   go_wp2;go_ret;refine⟨ret_bool ?_,hbel⟩;have h1:=HNO.out;rw[HKN.out,←HN.out,List.take_length]at h1;exact h1.symm
structure Rx(w W:World)(b bx:Nat)(s:Sn)(vc vw:Value):Prop where
 nb:NB W b s.st vc vw
 hf:W.cell? ⟨bx,0,none⟩=some (.func (.func 174) #[] #[.pointer (some ⟨b,0,none⟩)])
 lt:bx<W.heap.size
 bel:Below w.heap.size w W
theorem Rx.next{w W W':World}{b bx:Nat}{s:Sn}{vc vw:Value}(h:Rx w W b bx s vc vw)(hb:Below W.heap.size W W'):Rx w W' b bx s vc vw:=
 ⟨h.nb.below' hb,(hb.cell (p:=⟨bx,0,none⟩) h.lt).trans h.hf,Nat.lt_of_lt_of_le h.lt hb.size,below_class h.bel hb⟩
theorem ca_nat{s:St}(r:SM.Rt s):∃n:Nat,n≤8∧1≤n∧s.ca=(n:Int):=⟨s.ca.toNat,by have:=r.ca2;omega,by have:=r.ca1;omega,by have:=r.ca1;omega⟩
theorem snapRight_any(s:Sn)(D:Nat→Prop)(vc vw:Value)(w:World)(hc:R2 D w vc s.cs)(hw:R2 D w vw s.ws):
  Calls Tryz.prog 139 #[.agg (nv s.st vc vw).toArray] w fun e w'=>e=.returned (.bool (rgt s))∧Below w.heap.size w w':=by
 have hmf:∀(fn:Fn) (first cap:Array Value) (w:World),(Instr.makeFunc fn first cap).run Tryz.prog w=.ok (.func fn first cap) w:=fun _ _ _ _=>rfl;have HC:=Hd hc;have HW:=Hd hw;obtain⟨ac,kc,rfl,_,_⟩:=hc.form;obtain⟨aw,kw,rfl,_,_⟩:=hw.form;clear hc hw;have HN:=Hd (NB.new w s.st (.slice ac s.cs.length kc) (.slice aw s.ws.length kw));have HB:=Hd ((Below.refl w.heap.size w).alloc (Nat.le_refl _) (.cells (nv s.st (.slice ac s.cs.length kc) (.slice aw s.ws.length kw)).toArray 146))
 go_enter Tryz.func139,Tryz.ntmps139
 go_wp2_with (refine wpList_load23n rfl _ rfl w.heap.size s.st _ _ rfl HN.out ?_)
 refine (right_any s.st _).mono ?_;rintro e W1 ⟨rfl,hb1⟩;have HN1:=Hd (HN.out.below' hb1);have HB1:=Hd (below_class HB.out hb1);clear hb1;cases hr:rightB s.st with
 |false=>
  go_wp2;go_ret;exact⟨ret_bool (by unfold rgt;rw[hr];rfl),HB1.out⟩
 |true=>
  have c1:W1.cell? ⟨w.heap.size,1,none⟩=some (.int .i64 s.st.ca):=HN1.out.cell 1;have c13:W1.cell? ⟨w.heap.size,13,none⟩=some (.slice ac s.cs.length kc):=HN1.out.cell 13;have c14:W1.cell? ⟨w.heap.size,14,none⟩=some (.slice aw s.ws.length kw):=HN1.out.cell 14;by_cases h1:(s.cs.length:Int)=s.st.ca
  ·by_cases h2:s.ws.length≤128
   ·have hb1:((s.cs.length:Int) !=s.st.ca)=false:=by simp[h1]
    have hb2:decide ((128:Int)<(s.ws.length:Int))=false:=decide_eq_false (by omega);have H1:=Hd h1;have HR:=Hd hr;clear h1 hr
    have HX:Hid (Rx w (W1.alloc (.cells #[.func (.func 174) #[] #[.pointer (some ⟨w.heap.size,0,none⟩)]] 86)) w.heap.size W1.heap.size s (.slice ac s.cs.length kc) (.slice aw s.ws.length kw)):=by
     have hb:=(Below.refl W1.heap.size W1).alloc (Nat.le_refl _) (.cells #[.func (.func 174) #[] #[.pointer (some ⟨w.heap.size,0,none⟩)]] 86);exact⟨HN1.out.below' hb,by rw[cell_of_row _ _ 0 _ _ _ (heap_alloc_new W1 _)];rfl,by simp,below_class HB1.out hb⟩
    have d13:(W1.alloc (.cells #[.func (.func 174) #[] #[.pointer (some ⟨w.heap.size,0,none⟩)]] 86)).cell? ⟨w.heap.size,13,none⟩=some (.slice ac s.cs.length kc):=HX.out.nb.cell 13
    go_wp2_with fail
    have eg2:∀args w,(callFunc 176 args).run Tryz.prog w=.ok (.enter 176 args) w:=by intro args w;simp[go_sem]
    have eg3:∀args w,(callFunc 178 args).run Tryz.prog w=.ok (.enter 178 args) w:=by intro args w;simp[go_sem]
    obtain⟨n,hn8,_,hca⟩:=ca_nat ((rightB_iff _).1 HR.out);have HCA:=Hd hca;clear d13 c1 c13 c14 hca;generalize (W1.alloc (.cells #[.func (.func 174) #[] #[.pointer (some ⟨w.heap.size,0,none⟩)]] 86))=W2 at HX⊢;refine (everyR 176 #[.pointer (some ⟨W1.heap.size,0,none⟩)] (cok s.st.fl) eg2 D _ s.cs W2 (HC.out.below' HX.out.bel) (by have:=H1.out;have:=HCA.out;omega) (fun W x hb=>carOk_any w.heap.size W1.heap.size x s.st _ _ W (HX.out.next hb).nb (HX.out.next hb).hf (HX.out.next hb).lt)).mono ?_;rintro e W3 ⟨rfl,hb3⟩;have HX3:=Hd (HX.out.next hb3);have d14:W3.cell? ⟨w.heap.size,14,none⟩=some (.slice aw s.ws.length kw):=HX3.out.nb.cell 14;clear hb3 HX;cases hq:s.cs.all (cok s.st.fl)with
    |false=>
     go_wp2;go_ret;exact⟨ret_bool (by unfold rgt;rw[HR.out,hq];simp),HX3.out.bel⟩
    |true=>
     go_wp2_with fail
     refine (everyW 178 #[.pointer (some ⟨W1.heap.size,0,none⟩),.pointer (some ⟨w.heap.size,0,none⟩)] (wok s.st.fl n) eg3 D _ s.ws W3 (HW.out.below' HX3.out.bel) (by omega) (fun W x hb=>wantOk_any w.heap.size W1.heap.size n hn8 x s.st HCA.out _ _ W (HX3.out.next hb).nb (HX3.out.next hb).hf (HX3.out.next hb).lt)).mono ?_;rintro e W4 ⟨rfl,hb4⟩;have HB4:=Hd (below_class HX3.out.bel hb4);clear hb4;go_wp2;go_ret;refine⟨ret_bool ?_,HB4.out⟩;unfold rgt;rw[HR.out,hq,H1.out,HCA.out];simp[h2]
   ·have hb1:((s.cs.length:Int) !=s.st.ca)=false:=by simp[h1]
    have hb2:decide ((128:Int)<(s.ws.length:Int))=true:=decide_eq_true (by omega);have HR:=Hd hr;clear h1 hr;go_wp2;go_ret;exact⟨ret_bool (by unfold rgt;rw[decide_eq_false h2];simp),HB1.out⟩
  ·have hb1:((s.cs.length:Int) !=s.st.ca)=true:=by simp[h1]
   have HR:=Hd hr;have H1:=Hd h1;clear h1 hr;go_wp2;go_ret;exact⟨ret_bool (by unfold rgt;rw[decide_eq_false H1.out];simp),HB1.out⟩
def bv(st:List Bool):List Value:=st.map Value.bool
theorem bv_some{st:List Bool}{i:Nat}{x:Bool}(h:st[i]?=some x):(bv st)[i]?=some (.bool x):=by
 unfold bv;rw[List.getElem?_map,h];rfl
theorem bv_set(st:List Bool)(i:Nat)(x:Bool):(bv st).set i (.bool x)=bv (st.set i x):=by unfold bv;rw[List.map_set]
theorem blk_set{W:World}{b:Nat}{C:List Value}{t:TypeId}(h:W.heap[b]?=some (.cells C.toArray t (0,0)))(i:Nat)(v:Value):(W.setCell ⟨b,i,none⟩ v).heap[b]?=some (.cells (C.set i v).toArray t (0,0)):=by
 simp only[World.setCell,Array.getElem?_modify,if_true,h];simp
theorem blk_cell{W:World}{b:Nat}{C:List Value}{t:TypeId}(h:W.heap[b]?=some (.cells C.toArray t (0,0)))(i:Nat):W.cell? ⟨b,i,none⟩=C[i]?:=by
 simp[World.cell?,h]
theorem blk_fr{W:World}{b:Nat}{C:List Value}{t:TypeId}(h:W.heap[b]?=some (.cells C.toArray t (0,0)))(i:Nat):W.frozen? ⟨b,i,none⟩=false:=by
 simp[World.frozen?,h]
structure Dq(W:World)(B b sb lb:Nat)(vw:Value)(vs:List Value)(G:Nat→Prop)(ws:List (Int×Int))(st:List Bool)(ls:List (List Int)):Prop where
 hb:W.heap[b]?=some (.cells [vw,.slice (some ⟨sb,0,none⟩) st.length st.length,.slice (some ⟨lb,0,none⟩) ls.length ls.length].toArray 307 (0,0))
 hs:W.heap[sb]?=some (.cells (bv st).toArray 4 (0,0))
 hl:W.heap[lb]?=some (.cells vs.toArray 52 (0,0))
 vl:vs.length=ls.length
 n1:b≠sb
 n2:b≠lb
 n3:sb≠lb
 own:∀(c:Nat) v l,vs[c]?=some v→ls[c]?=some l→OI W B v l
 far:∀(c:Nat) v g,vs[c]?=some v→v.ownBlock=some g→g≠b∧g≠sb∧g≠lb
 dis:∀(c d:Nat) v u g,vs[c]?=some v→vs[d]?=some u→v.ownBlock=some g→u.ownBlock=some g→c=d
 l1:B≤b
 l2:B≤sb
 l3:B≤lb
 rw:R2 G W vw ws
 gb:∀g,G g→g<B
def fp(b sb lb:Nat)(vs:List Value)(k:Nat):Prop:=k=b∨k=sb∨k=lb∨∃(c:Nat) (v:Value),vs[c]?=some v∧v.ownBlock=some k
section
variable {W W':World} {B b sb lb:Nat} {vw:Value} {vs:List Value} {G:Nat→Prop} {ws:List (Int×Int)} {st:List Bool} {ls:List (List Int)}
theorem Dq.list(h:Dq W B b sb lb vw vs G ws st ls){c:Nat}{v:Value}(hv:vs[c]?=some v):∃l,ls[c]?=some l∧OI W B v l:=by
 have hc:c<ls.length:=by rw[←h.vl];exact(List.getElem?_eq_some_iff.1 hv).1
 exact⟨_,List.getElem?_eq_getElem hc,h.own c v _ hv (List.getElem?_eq_getElem hc)⟩
theorem Dq.val(h:Dq W B b sb lb vw vs G ws st ls){c:Nat}{l:List Int}(hl:ls[c]?=some l):∃v,vs[c]?=some v∧OI W B v l:=by
 have hc:c<vs.length:=by rw[h.vl];exact(List.getElem?_eq_some_iff.1 hl).1
 exact⟨_,List.getElem?_eq_getElem hc,h.own c _ _ (List.getElem?_eq_getElem hc) hl⟩
theorem Dq.fp_lo(h:Dq W B b sb lb vw vs G ws st ls){k:Nat}(hk:fp b sb lb vs k):B≤k∧k<W.heap.size:=by
 rcases hk with rfl|rfl|rfl|⟨c,v,hv,hk⟩
 ·exact⟨h.l1,(Array.getElem?_eq_some_iff.1 h.hb).1⟩
 ·exact⟨h.l2,(Array.getElem?_eq_some_iff.1 h.hs).1⟩
 ·exact⟨h.l3,(Array.getElem?_eq_some_iff.1 h.hl).1⟩
 ·obtain⟨l,_,ho⟩:=h.list hv;exact ho.lt k hk
theorem Dq.keep(h:Dq W B b sb lb vw vs G ws st ls)(hz:W.heap.size≤W'.heap.size)(hk:∀k,k<W.heap.size→fp b sb lb vs k∨G k→W'.heap[k]?=W.heap[k]?):Dq W' B b sb lb vw vs G ws st ls:=
 ⟨(hk b (h.fp_lo (.inl rfl)).2 (.inl (.inl rfl))).trans h.hb,(hk sb (h.fp_lo (.inr (.inl rfl))).2 (.inl (.inr (.inl rfl)))).trans h.hs,(hk lb (h.fp_lo (.inr (.inr (.inl rfl)))).2 (.inl (.inr (.inr (.inl rfl))))).trans h.hl,h.vl,h.n1,h.n2,h.n3,
  fun c v l hv hl=>(h.own c v l hv hl).keep fun g hg=>hk g ((h.own c v l hv hl).lt g hg).2 (.inl (.inr (.inr (.inr ⟨c,v,hv,hg⟩)))),h.far,h.dis,h.l1,h.l2,h.l3,h.rw.keep hz fun g hg hlt=>hk g hlt (.inr hg),h.gb⟩
theorem Dq.below'(h:Dq W B b sb lb vw vs G ws st ls)(hb:Below W.heap.size W W'):Dq W' B b sb lb vw vs G ws st ls:=h.keep hb.size fun k hk _=>hb.block k hk
theorem Dq.alloc(h:Dq W B b sb lb vw vs G ws st ls)(o:Obj):Dq (W.alloc o) B b sb lb vw vs G ws st ls:=h.below' ((Below.refl _ _).alloc (Nat.le_refl _) o)
theorem Dq.drew(h:Dq W B b sb lb vw vs G ws st ls):Dq W.drew B b sb lb vw vs G ws st ls:=h.below' (Below.refl _ _).drew
theorem Dq.drewN(h:Dq W B b sb lb vw vs G ws st ls)(n:Nat):Dq (W.drewN n) B b sb lb vw vs G ws st ls:=h.below' (below_drewN (Below.refl _ _) n)
theorem Dq.c0(h:Dq W B b sb lb vw vs G ws st ls):W.cell? ⟨b,0,none⟩=some vw:=blk_cell h.hb 0
theorem Dq.c1(h:Dq W B b sb lb vw vs G ws st ls):W.cell? ⟨b,1,none⟩=some (.slice (some ⟨sb,0,none⟩) st.length st.length):=blk_cell h.hb 1
theorem Dq.c2(h:Dq W B b sb lb vw vs G ws st ls):W.cell? ⟨b,2,none⟩=some (.slice (some ⟨lb,0,none⟩) ls.length ls.length):=blk_cell h.hb 2
theorem Dq.cs(h:Dq W B b sb lb vw vs G ws st ls){i:Nat}{x:Bool}(hi:st[i]?=some x):W.cell? ⟨sb,i,none⟩=some (.bool x):=(blk_cell h.hs i).trans (bv_some hi)
theorem Dq.cl(h:Dq W B b sb lb vw vs G ws st ls){i:Nat}{v:Value}(hi:vs[i]?=some v):W.cell? ⟨lb,i,none⟩=some v:=(blk_cell h.hl i).trans hi
theorem Dq.fs(h:Dq W B b sb lb vw vs G ws st ls)(i:Nat):W.frozen? ⟨sb,i,none⟩=false:=blk_fr h.hs i
theorem Dq.fl(h:Dq W B b sb lb vw vs G ws st ls)(i:Nat):W.frozen? ⟨lb,i,none⟩=false:=blk_fr h.hl i
theorem Dq.fp_l(h:Dq W B b sb lb vw vs G ws st ls):lb<W.heap.size:=(h.fp_lo (.inr (.inr (.inl rfl)))).2
theorem Dq.mark(h:Dq W B b sb lb vw vs G ws st ls)(i:Nat)(x:Bool):Dq (W.setCell ⟨sb,i,none⟩ (.bool x)) B b sb lb vw vs G ws (st.set i x) ls:=by
 have keep:∀k,k≠sb→(W.setCell ⟨sb,i,none⟩ (.bool x)).heap[k]?=W.heap[k]?:=fun k hk=>Below.heap_setCell W ⟨sb,i,none⟩ _ k hk;refine⟨?_,?_,(keep lb (Ne.symm h.n3)).trans h.hl,h.vl,h.n1,h.n2,h.n3,fun c v l hv hl=>(h.own c v l hv hl).keep fun g hg=>keep g (h.far c v g hv hg).2.1,h.far,h.dis,h.l1,h.l2,h.l3,h.rw.keep (by simp[World.setCell]) fun g hg _=>keep g (fun e=>by have:=h.gb g hg;have:=h.l2;omega),h.gb⟩
 ·rw[List.length_set];exact(keep b h.n1).trans h.hb
 ·rw[←bv_set];exact blk_set h.hs i _
theorem Dq.store(h:Dq W B b sb lb vw vs G ws st ls){W1:World}{c:Nat}{v v':Value}{l':List Int}(hv:vs[c]?=some v)(hz:W.heap.size≤W1.heap.size)(hW:∀k,k<W.heap.size→v.ownBlock≠some k→W1.heap[k]?=W.heap[k]?)
  (ho:OI W1 B v' l') (hn:∀g,v'.ownBlock=some g→v.ownBlock=some g∨W.heap.size≤g):Dq (W1.setCell ⟨lb,c,none⟩ v') B b sb lb vw (vs.set c v') G ws st (ls.set c l'):=by
 have keep:∀k,k≠lb→(W1.setCell ⟨lb,c,none⟩ v').heap[k]?=W1.heap[k]?:=fun k hk=>Below.heap_setCell W1 ⟨lb,c,none⟩ _ k hk;have hbl:=(h.fp_lo (k:=b) (.inl rfl)).2;have hsl:=(h.fp_lo (k:=sb) (.inr (.inl rfl))).2;have hll:=(h.fp_lo (k:=lb) (.inr (.inr (.inl rfl)))).2;have hcv:c<vs.length:=(List.getElem?_eq_some_iff.1 hv).1;have hcl:c<ls.length:=by rw[←h.vl];exact hcv
 have farv':∀g,v'.ownBlock=some g→g≠b∧g≠sb∧g≠lb:=fun g hg=>by
  rcases hn g hg with e|e
  ·exact h.far c v g hv e
  ·exact⟨by omega,by omega,by omega⟩
 refine⟨?_,?_,?_,by rw[List.length_set,List.length_set];exact h.vl,h.n1,h.n2,h.n3,?_,?_,?_,h.l1,h.l2,h.l3,?_,h.gb⟩
 ·rw[List.length_set,keep b h.n2,hW b hbl (fun e=>(h.far c v b hv e).1 rfl)];exact h.hb
 ·rw[keep sb h.n3,hW sb hsl (fun e=>(h.far c v sb hv e).2.1 rfl)];exact h.hs
 ·exact blk_set ((hW lb hll (fun e=>(h.far c v lb hv e).2.2 rfl)).trans h.hl) c v'
 ·intro d u l hu hl;by_cases e:c=d
  ·subst e;rw[List.getElem?_set_self hcv]at hu;rw[List.getElem?_set_self hcl]at hl;cases hu;cases hl;exact ho.keep fun g hg=>keep g (farv' g hg).2.2
  ·rw[List.getElem?_set_ne e]at hu hl;refine (h.own d u l hu hl).keep fun g hg=> ?_;rw[keep g (h.far d u g hu hg).2.2,hW g ((h.own d u l hu hl).lt g hg).2 (fun e2=>e (h.dis c d v u g hv hu e2 hg))]
 ·intro d u g hu hg;by_cases e:c=d
  ·subst e;rw[List.getElem?_set_self hcv]at hu;cases hu;exact farv' g hg
  ·rw[List.getElem?_set_ne e]at hu;exact h.far d u g hu hg
 ·have key:∀(d:Nat) u g,d≠c→vs[d]?=some u→u.ownBlock=some g→v'.ownBlock=some g→False:=fun d u g hd hu hg hg'=>by
   rcases hn g hg' with e|e
   ·exact hd (h.dis d c u v g hu hv hg e)
   ·obtain⟨l,_,hol⟩:=h.list hu;have:=(hol.lt g hg).2;omega
  intro d d' u u' g hu hu' hg hg';by_cases e:c=d
  ·subst e;rw[List.getElem?_set_self hcv]at hu;cases hu;by_cases e':c=d'
   ·exact e'
   ·rw[List.getElem?_set_ne e']at hu';exact(key d' u' g (Ne.symm e') hu' hg' hg).elim
  ·rw[List.getElem?_set_ne e]at hu;by_cases e':c=d'
   ·subst e';rw[List.getElem?_set_self hcv]at hu';cases hu';exact(key d u g (Ne.symm e) hu hg hg').elim
   ·rw[List.getElem?_set_ne e']at hu';exact h.dis d d' u u' g hu hu' hg hg'
 ·refine h.rw.keep (by simp[World.setCell];exact hz) fun g hg hlt=> ?_;have hB:=h.gb g hg;have h3:=h.l3
  rw[keep g (by omega),hW g hlt (fun e=>by
   obtain⟨l,_,hol⟩:=h.list hv;have:=(hol.lt g e).1
   omega)]
theorem fp_set{c:Nat}{v':Value}{k:Nat}(hk:fp b sb lb (vs.set c v') k):fp b sb lb vs k∨v'.ownBlock=some k:=by
 rcases hk with rfl|rfl|rfl|⟨d,u,hu,hk⟩
 ·exact .inl (.inl rfl)
 ·exact .inl (.inr (.inl rfl))
 ·exact .inl (.inr (.inr (.inl rfl)))
 ·by_cases e:c=d
  ·subst e;have hc:c<vs.length:=by have:=(List.getElem?_eq_some_iff.1 hu).1;rwa[List.length_set]at this
   rw[List.getElem?_set_self hc]at hu;cases hu;exact .inr hk
  ·rw[List.getElem?_set_ne e]at hu;exact .inl (.inr (.inr (.inr ⟨d,u,hu,hk⟩)))
theorem Dq.rl(h:Dq W B b sb lb vw vs G ws st ls):RL (fp b sb lb vs) W (.slice (some ⟨lb,0,none⟩) ls.length ls.length) ls:=by
 refine⟨_,_,rfl,Nat.le_refl _,(fun e=>by cases e),.inr ⟨lb,0,rfl,.inr (.inr (.inl rfl)),(h.fp_lo (.inr (.inr (.inl rfl)))).2,fun i l hl=> ?_⟩⟩;obtain⟨v,hv,ho⟩:=h.val hl;exact⟨v,by rw[Nat.zero_add];exact h.cl hv,ho.ri fun g hg=>.inr (.inr (.inr ⟨i,v,hv,hg⟩))⟩
end
structure Mk(ws:List (Int×Int))(ms:List Nat):Prop where
 len:ms.length=ws.length
 eq:∀(i:Nat) y,ws[i]?=some y→∃m,ms[i]?=some m∧y.2=(m:Int)
theorem bt_bits(m c:Nat):(bits .and .i64 ((m:Int)/2^c) 1==1)=PM.bt m c:=by
 have h:(m:Int)/2^c=((m/2^c:Nat):Int):=by rw[Int.natCast_ediv,Int.natCast_pow];rfl
 rw[h,i64_and1];unfold PM.bt;rw[Bool.eq_iff_iff];simp only[beq_iff_eq];omega
theorem step_appendI{ops:Array Oper}{o:Oper}{a:Act}{W:World}{K:Act→World→Prop}{Q:Exit→Act→World→Prop}{E:Prop}(hgd:o.guard=none)(s x:Operand)
  (ho:o.op=.call {callee:=.builtin .append,args:= #[s,x],argTypes:= #[52,52]}) (B:Nat) {v:Value} {M:List Int} {y:Int} {b c:Nat} (hs:a.eval s=v) (hR:OI W B v M) (hM:M.length≤1000000)
  (hx:a.eval x=.slice (some ⟨b,0,none⟩) 1 c) (hy:W.cell? ⟨b,0,none⟩=some (.int .i64 y)) (hB:B≤W.heap.size)
  (h:∀g cap W',OI W' B (.slice (some ⟨g,0,none⟩) (M.length+1) cap) (M++[y])→W.grownBy W' v.ownBlock→(v.ownBlock=some g∨g=W.heap.size)→K (a.put o.dst (.slice (some ⟨g,0,none⟩) (M.length+1) cap)) W'):
  if Region.wanted o (yielded ops a.tmps)=true then Oper.wp Tryz.prog o a W K Q else E:=by
 obtain⟨i0,hi,hz0,hz1,hz2⟩:=info_parts infoI;refine step_append_lies W hgd s x 52 ho B 3 i0 _ 1 8 Tryz.underlying52 hi hz0 hz1 hz2 rfl (by decide) v M.length (ic M) hs hR ⟨b,0,none⟩ 1 c (ic [y]) hx rfl ?_ (ic_one [y]) (by omega) (by unfold maxLen;omega) (by omega) hB W.heap.size rfl ?_
 ·intro j u hj;cases j with
  |zero=>
   simp[ic]at hj;subst hj;rw[Addr.add_mid];exact hy
  |succ j=>simp[ic]at hj
 ·intro g cap W' hown hg hat _;refine h g cap W' ?_ hg hat;unfold OI;rw[List.length_append,ic_append];exact hown
section
variable {W:World} {B b sb lb:Nat} {vw:Value} {vs:List Value} {G:Nat→Prop} {ws:List (Int×Int)} {st:List Bool} {ls:List (List Int)}
theorem mayTake_any(h:Dq W B b sb lb vw vs G ws st ls)(c i m:Nat)(x:Bool)(y:Int×Int)(hc:c≤8)(hx:st[i]?=some x)(hy:ws[i]?=some y)(hm:y.2=(m:Int)):
  Calls Tryz.prog 190 #[.pointer (some ⟨b,0,none⟩),.int .i64 (c:Int),.int .i64 (i:Int)] W fun e w'=>e=.returned (.bool (!x&&PM.bt m c))∧w'=W:=by
 obtain⟨aw,kw,rfl,_,_⟩:=h.rw.form;obtain⟨gw,ow,rfl,_,e1⟩:=h.rw.at hy;rw[hm]at e1;have c0:=h.c0;have c1:=h.c1;have d1:=h.cs hx;have hi:(i:Int)<(st.length:Int):=by have:=(List.getElem?_eq_some_iff.1 hx).1;omega
 have hj:(i:Int)<(ws.length:Int):=by have:=(List.getElem?_eq_some_iff.1 hy).1;omega
 have hsh:=shr_any m c (by omega);clear h hx hy hm;cases x
 ·go_enter Tryz.func190,Tryz.ntmps190
  go_wp2;go_ret;exact⟨ret_bool (bt_bits m c),rfl⟩
 ·go_enter Tryz.func190,Tryz.ntmps190
  go_wp2;go_ret;exact⟨rfl,rfl⟩
theorem take_any(h:Dq W B b sb lb vw vs G ws st ls)(c i:Nat)(x:Bool)(l:List Int)(hx:st[i]?=some x)(hl:ls[c]?=some l)(hll:l.length≤100000)(hBW:B≤W.heap.size):
  Calls Tryz.prog 191 #[.pointer (some ⟨b,0,none⟩),.int .i64 (c:Int),.int .i64 (i:Int)] W fun e w'=>(∃v,e=.returned v)∧∃vs',Dq w' B b sb lb vw vs' G ws (st.set i true) (ls.set c (l++[(i:Int)]))∧
   Kp (fp b sb lb vs) W w'∧∀k,fp b sb lb vs' k→fp b sb lb vs k∨W.heap.size≤k:=by
 obtain⟨v,hv,hov⟩:=h.val hl;have c1:=h.c1;have d1:=h.cs hx;have d2:=h.fs i;have hi:(i:Int)<(st.length:Int):=by have:=(List.getElem?_eq_some_iff.1 hx).1;omega
 have hj:(c:Int)<(ls.length:Int):=by have:=(List.getElem?_eq_some_iff.1 hl).1;omega
 have HM:=Hd (h.mark i true);have HK:=Hd ((Kp.refl (fp b sb lb vs) W).set sb i (.bool true) (fun _=>.inr (.inl rfl)));have c2:=HM.out.c2;have e2:=HM.out.cl hv;have HV:=Hd hv;have HL:=Hd hl;clear h hx hl hv
 go_enter Tryz.func191,Tryz.ntmps191
 go_wp2_with fail
 clear c1 d1 d2 hov;have HBZ:=Hd (show B≤(W.setCell ⟨sb,i,none⟩ (.bool true)).heap.size by simpa[World.setCell]using hBW);have HSZ:=Hd (show(W.setCell ⟨sb,i,none⟩ (.bool true)).heap.size=W.heap.size by simp[World.setCell]);generalize W.setCell ⟨sb,i,none⟩ (.bool true)=W7 at HM HK c2 e2 HBZ HSZ⊢;have HMA:=Hd (HM.out.drew.alloc (.cells #[.int .i64 (i:Int)] 3));have HZ:=Hd (HMA.out.own c v l HV.out HL.out)
 have HZC:Hid ((W7.drew.alloc (.cells #[.int .i64 (i:Int)] 3)).cell? ⟨W7.heap.size,0,none⟩=some (.int .i64 (i:Int))):=by
  show(W7.drew.alloc _).cell? ⟨W7.drew.heap.size,0,none⟩=_;rw[cell_of_row _ _ 0 _ _ _ (heap_alloc_new W7.drew _)];rfl
 have c2a:(W7.alloc (.cells #[.int .i64 (i:Int)] 3)).cell? ⟨b,2,none⟩=some (.slice (some ⟨lb,0,none⟩) ls.length ls.length):=HMA.out.c2;have e2a:(W7.alloc (.cells #[.int .i64 (i:Int)] 3)).cell? ⟨lb,c,none⟩=some v:=HMA.out.cl HV.out;have hne:some b≠v.ownBlock:=fun e=>(HM.out.far c v b HV.out e.symm).1 rfl;have hnl:some lb≠v.ownBlock:=fun e=>(HM.out.far c v lb HV.out e.symm).2.2 rfl
 go_region_law ((refine step_appendI (by rfl) (.tmp 23) (.tmp 25) (by rfl) B (y:=(i:Int)) (by rfl) HZ.out (by omega) (by rfl) HZC.out (by simp;exact Nat.le_succ_of_le HBZ.out) ?_;intro g' cap' W8 hr8 hg8 hat8;have r2:=hg8.cell c2a hne;have s2:=hg8.cell e2a hnl;have t2:=(hg8.frozen_far ⟨lb,c,none⟩ HMA.out.fp_l hnl).trans (HMA.out.fl c)))
 all_goals
  have hW8:Hid (∃vs',Dq (W8.setCell ⟨lb,c,none⟩ (.slice (some ⟨g',0,none⟩) (l.length+1) cap')) B b sb lb vw vs' G ws (st.set i true) (ls.set c (l++[(i:Int)]))∧
    Kp (fp b sb lb vs) W (W8.setCell ⟨lb,c,none⟩ (.slice (some ⟨g',0,none⟩) (l.length+1) cap'))∧∀k,fp b sb lb vs' k→fp b sb lb vs k∨W.heap.size≤k):=by
   have hs7:W7.heap.size=W.heap.size:=HSZ.out
   have hat:v.ownBlock=some g'∨W.heap.size≤g':=by
    rcases hat8 with h|h
    ·exact .inl h
    ·right;rw[h];show W.heap.size≤(W7.drew.alloc _).heap.size;simp;show W.heap.size≤W7.heap.size+1;omega
   refine⟨_,HMA.out.store HV.out hg8.size (fun k hk hne=>hg8.block k hk (fun e=>hne e.symm)) hr8 (fun g hg=> ?_),?_,fun k hk=> ?_⟩
   ·obtain rfl:g'=g:=by simpa[Value.ownBlock]using hg
    rcases hat8 with h|h
    ·exact .inl h
    ·right;rw[h];exact Nat.le_refl _
   ·exact(((HK.out.thenBelow ((Below.refl W7.heap.size W7).alloc (Nat.le_refl _) (.cells #[.int .i64 (i:Int)] 3))).drew).grown hg8 (fun k _ hk=>.inr (.inr (.inr ⟨c,v,HV.out,hk⟩)))).set lb c _ (fun _=>.inr (.inr (.inl rfl)))
   ·rcases fp_set hk with h|h
    ·exact .inl h
    ·obtain rfl:g'=k:=by simpa[Value.ownBlock]using h
     rcases hat with h|h
     ·exact .inl (.inr (.inr (.inr ⟨c,v,HV.out,h⟩)))
     ·exact .inr h
  clear hat8 hr8 hg8 r2 s2 t2 HMA HZ HZC c2a e2a c2 e2 HM HK HBZ HSZ;go_wp2
  go_end0
  exact⟨⟨_,rfl⟩,hW8.out⟩
end
section
variable {W:World} {B b sb lb:Nat} {vw:Value} {vs:List Value} {G:Nat→Prop} {ws:List (Int×Int)} {st:List Bool} {ls:List (List Int)}
theorem everyB(g n:Nat)(st:List Bool)(w:World)(hg:w.heap[g]?=some (.cells (bv st).toArray 4 (0,0)))(hn:st.length=n)(hL:n≤200):
  Calls Tryz.prog 213 #[.slice (some ⟨g,0,none⟩) n n,.func (.func 214) #[] #[]] w fun e w'=>e=.returned (.bool (st.all id))∧w'=w:=by
 have HG:=Hd hg;have HN:=Hd hn;clear hg hn
 go_enter Tryz.func213,Tryz.ntmps213
 go_wp2
 go_loop [6,9] (fun _ i=>∃k:Nat,k≤n∧i=.int .i64 k∧Hid ((st.take k).all id=true)) (fun _ i=>n-(intOf i).toNat)
 case atStart=>exact⟨0,Nat.zero_le _,rfl,rfl⟩
 case round=>
  obtain⟨k,hk,rfl,HNO⟩:=hrel;by_cases hlt2:k<n
  ·have hkz:(k:Int)<(n:Int):=by omega
   obtain⟨y,hy⟩:∃y,st[k]?=some y:=⟨_,List.getElem?_eq_getElem (by have:=HN.out;omega)⟩;have c0:w.cell? ⟨g,k,none⟩=some (.bool y):=(blk_cell HG.out k).trans (bv_some hy);have HY:=Hd hy;clear hy;cases y with
   |true=>
    go_wp2
    go_round
    case rel=>exact⟨k+1,by omega,by go_num,by rw[all_take HY.out,HNO.out];rfl⟩
    case measure=>simp[intOf];omega
   |false=>
    go_wp2;go_ret;exact⟨ret_bool (all_not HY.out rfl).symm,rfl⟩
  ·have HKN:Hid (k=n):=by show k=n;omega
   have hkz:¬(k:Int)<(n:Int):=by omega
   go_wp2;go_ret;refine⟨ret_bool ?_,rfl⟩;have h1:=HNO.out;rw[HKN.out,←HN.out,List.take_length]at h1;exact h1.symm
theorem nothingLeft_any(h:Dq W B b sb lb vw vs G ws st ls)(hwl:st.length≤200):
  Calls Tryz.prog 192 #[.pointer (some ⟨b,0,none⟩)] W fun e w'=>e=.returned (.bool (st.all id))∧w'=W:=by
 have c1:=h.c1;have HC:=Hd (everyB sb st.length st W h.hs rfl hwl);clear h
 go_enter Tryz.func192,Tryz.ntmps192
 go_wp2_with fail
 refine HC.out.mono ?_;rintro e w' ⟨rfl,rfl⟩;clear HC;go_wp2;go_ret;exact⟨rfl,rfl⟩
end
end Go.Proofs.YtlajleogofmkcaaGreat
