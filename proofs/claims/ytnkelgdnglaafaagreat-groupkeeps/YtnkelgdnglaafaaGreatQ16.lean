import Derived.Test.YtnkelgdnglaafaaGreatQ15
import Derived.Deep.RegionHeld3
set_option maxHeartbeats 8000000
set_option maxRecDepth 100000
namespace Go.Proofs.YtnkelgdnglaafaaGreat
open Go.RowKit
theorem right_t(s:St)(r:SM.Rt s)(w:World):Calls Tryz.prog 22 #[.agg (sv s).toArray] w fun e w'=>e=.returned (.bool true)∧Below w.heap.size w w':=by
 have:=right_any s w;rwa[rightB_true r]at this
def Blk(W:World)(b:Nat)(C:Array Value)(t:TypeId):Prop:=W.heap[b]?=some (.cells C t (0,0))
theorem Blk.lt{W:World}{b:Nat}{C:Array Value}{t:TypeId}(h:Blk W b C t):b<W.heap.size:=(Array.getElem?_eq_some_iff.1 h).1
theorem Blk.cell{W:World}{b:Nat}{C:Array Value}{t:TypeId}(h:Blk W b C t)(i:Nat):W.cell? ⟨b,i,none⟩=C[i]?:=by
 simp[World.cell?,show W.heap[b]?=_ from h]
theorem Blk.frozen{W:World}{b:Nat}{C:Array Value}{t:TypeId}(h:Blk W b C t)(i:Nat):W.frozen? ⟨b,i,none⟩=false:=by
 simp[World.frozen?,show W.heap[b]?=_ from h]
theorem Blk.below{W W':World}{b:Nat}{C:Array Value}{t:TypeId}(h:Blk W b C t)(hb:Below W.heap.size W W'):Blk W' b C t:=(hb.block b h.lt).trans h
theorem Blk.set{W:World}{b:Nat}{C:Array Value}{t:TypeId}(h:Blk W b C t)(i:Nat)(v:Value):Blk (W.setCell ⟨b,i,none⟩ v) b (C.setIfInBounds i v) t:=by
 unfold Blk at*;simp only[World.setCell,Array.getElem?_modify,if_true,h];rfl
theorem Blk.other{W:World}{b b':Nat}{C:Array Value}{t:TypeId}(h:Blk W b C t)(hne:b≠b')(i:Nat)(v:Value):Blk (W.setCell ⟨b',i,none⟩ v) b C t:=
 (Below.heap_setCell W ⟨b',i,none⟩ v b hne).trans h
theorem Blk.new(W:World)(C:Array Value)(t:TypeId):Blk (W.alloc (.cells C t)) W.heap.size C t:=World.alloc_heap_new W _
theorem Blk.alloc{W:World}{b:Nat}{C:Array Value}{t:TypeId}(h:Blk W b C t)(o:Obj):Blk (W.alloc o) b C t:=(Below.heap_alloc W o b h.lt).trans h
def zrows(n:Nat):Array Value:=(List.replicate n (Value.slice none 0 0)).toArray
def zints(n:Nat):Array Value:=(List.replicate n (Value.int .i64 0)).toArray
theorem zrows_size(n:Nat):(zrows n).size=n:=by simp[zrows]
theorem zints_size(n:Nat):(zints n).size=n:=by simp[zints]
theorem zints_get(n i:Nat)(h:i<n):(zints n)[i]?=some (.int .i64 0):=by simp[zints,h]
theorem mkBH(n:Nat)(hn:n≤64)(W:World):(Instr.makeSlice 103 (.int .i64 (n:Int)) (.int .i64 (n:Int))).run Tryz.prog W=.ok (.slice (some ⟨W.heap.size,0,none⟩) n n) (W.alloc (.cells (zrows n) 90)):=by
 obtain⟨i,hi,h1,h2,h3⟩:=info_h infoHL
 have:=run_make (P:=Tryz.prog) W 103 90 i _ Tryz.underlying103 hi h1 .i64 .i64 (n:Int) (n:Int) (by omega) (by omega) (by
  have:(i.bytes:Int)*(n:Int)≤24*64:=Int.mul_le_mul (by omega) (by omega) (by omega) (by omega)
  omega) (by omega)
 rw[this,h2,Int.toNat_natCast,made_one _ rfl,Nat.mul_one];rfl
theorem mkIn(n:Nat)(hn:n≤64)(W:World):(Instr.makeSlice 90 (.int .i64 (n:Int)) (.int .i64 (n:Int))).run Tryz.prog W=.ok (.slice (some ⟨W.heap.size,0,none⟩) n n) (W.alloc (.cells (zints n) 3)):=mkI n (by omega) W
def Tab(s:St)(n G k R0:Nat)(C:Array Value)(W:World):Prop:=∀i,i<k→∃(R:Nat) (D:Array Value),G<R∧R<R0∧C[i]?=some (.slice (some ⟨R,0,none⟩) n n)∧Blk W R D 3∧∀j:Nat,j<n→D[j]?=some (.int .i64 (SM.trav s i j))
theorem Tab.below{s:St}{n G k R0:Nat}{C:Array Value}{W W':World}(h:Tab s n G k R0 C W)(hb:Below W.heap.size W W'):Tab s n G k R0 C W':=fun i hi=>by
 obtain⟨R,D,h1,h2,h3,h4,h5⟩:=h i hi;exact⟨R,D,h1,h2,h3,h4.below hb,h5⟩
theorem Tab.le{s:St}{n G k R0 R1:Nat}{C:Array Value}{W:World}(h:Tab s n G k R0 C W)(hR:R0≤R1):Tab s n G k R1 C W:=fun i hi=>by
 obtain⟨R,D,h1,h2,h3,h4,h5⟩:=h i hi;exact⟨R,D,h1,by omega,h3,h4,h5⟩
theorem Tab.other{s:St}{n G k R0 b':Nat}{C:Array Value}{W:World}(h:Tab s n G k R0 C W)(hR:R0≤b')(i:Nat)(v:Value):Tab s n G k R0 C (W.setCell ⟨b',i,none⟩ v):=fun i hi=>by
 obtain⟨R,D,h1,h2,h3,h4,h5⟩:=h i hi;exact⟨R,D,h1,h2,h3,h4.other (by omega) _ _,h5⟩
theorem Tab.set{s:St}{n G k R0:Nat}{C:Array Value}{W:World}(h:Tab s n G k R0 C W)(v:Value):Tab s n G k R0 (C.setIfInBounds k v) (W.setCell ⟨G,k,none⟩ v):=fun i hi=>by
 obtain⟨R,D,h1,h2,h3,h4,h5⟩:=h i hi;exact⟨R,D,h1,h2,by rw[Array.getElem?_setIfInBounds_ne (by omega)];exact h3,h4.other (by omega) _ _,h5⟩
theorem held11{W:World}{B G R k n:Nat}{s:St}{C:Array Value}(h:SB W B s)(hG:Blk W G C 90)(hk:C[k]?=some (.slice (some ⟨R,0,none⟩) n n)):
  SB W B s∧W.cell? ⟨B,0,none⟩=some (.int .i64 s.fl)∧W.cell? ⟨B,1,none⟩=some (.int .i64 s.ca)∧W.cell? ⟨B,2,none⟩=some (.int .i64 s.sta)∧W.cell? ⟨B,3,none⟩=some (.int .i64 s.ste)∧W.cell? ⟨B,4,none⟩=some (.int .i64 s.sto)∧W.cell? ⟨B,5,none⟩=some (.int .i64 s.opn)∧W.cell? ⟨B,6,none⟩=some (.int .i64 s.wai)∧W.cell? ⟨B,7,none⟩=some (.int .i64 s.clo)∧W.cell? ⟨B,8,none⟩=some (.int .i64 s.nud)∧W.cell? ⟨B,9,none⟩=some (.int .i64 s.age)∧W.cell? ⟨B,10,none⟩=some (.int .i64 s.sil)∧W.cell? ⟨B,11,none⟩=some (.int .i64 s.bud)∧W.cell? ⟨B,12,none⟩=some (.int .i64 s.per)∧W.cell? ⟨G,k,none⟩=some (.slice (some ⟨R,0,none⟩) n n):=
 ⟨h,h.cell 0,h.cell 1,h.cell 2,h.cell 3,h.cell 4,h.cell 5,h.cell 6,h.cell 7,h.cell 8,h.cell 9,h.cell 10,h.cell 11,h.cell 12,(hG.cell k).trans hk⟩
theorem table_any(s:St)(r:SM.Rt s)(n:Nat)(hn:s.fl=(n:Int))(w:World):
  Calls Tryz.prog 142 #[.agg (sv s).toArray] w fun e w'=>(∃(G:Nat) (C:Array Value),e=.returned (.slice (some ⟨G,0,none⟩) n n)∧w.heap.size≤G∧Blk w' G C 90∧Tab s n G n w'.heap.size C w')∧Below w.heap.size w w':=by
 have HB:Hid (Below w.heap.size w (w.alloc (.cells (sv s).toArray 23))):=Hd ((Below.refl _ w).alloc (Nat.le_refl _) _);have HN:=Hd (SB.new w s);have n1:2≤n:=by have:=r.fl1;omega
 have n2:n≤64:=by have:=r.fl2;omega
 have HFL:=Hd hn;clear hn
 go_enter Tryz.func142,Tryz.ntmps142
 go_wp2_with (refine wpList_load23 rfl _ rfl w.heap.size s rfl HN.out ?_)
 refine (right_t s r _).mono ?_;rintro e W1 ⟨rfl,hb⟩;obtain⟨B,hB⟩:∃B,w.heap.size=B:=⟨_,rfl⟩;rw[show Value.pointer (some ⟨w.heap.size,0,none⟩)=Value.pointer (some ⟨B,0,none⟩) by rw[hB]];rw[hB]at HN;have HS1:=Hd (SB.below' HN.out hb);have HB1:=Hd (below_class HB.out hb);clear hb HN HB;have hc0:W1.cell? ⟨B,0,none⟩=some (.int .i64 (n:Int)):=by rw[←HFL.out];exact HS1.out.c0
 have hmB:=mkBH n n2;go_wp2;have hS2:=Hd (HS1.out.alloc (.cells (zrows n) 90));have hB2:=Hd (HB1.out.alloc HB1.out.size (.cells (zrows n) 90));have hG2:=Hd (Blk.new W1 (zrows n) 90);have hBG:B<W1.heap.size:=HS1.out.lt;have hwG:w.heap.size≤W1.heap.size:=HB1.out.size;clear HS1 HB1 hc0 hmB;generalize W1.alloc (.cells (zrows n) 90)=W2 at hS2 hB2 hG2⊢;generalize W1.heap.size=G at hG2 hBG hwG⊢
 go_loopw [14] (fun i wr=>∃(k:Nat) (C:Array Value),k≤n∧i=.int .i64 k∧C.size=n∧Blk wr G C 90∧Tab s n G k wr.heap.size C wr∧SB wr B s∧Below w.heap.size w wr) (fun i _=>n-(intOf i).toNat)
 case atStart=>exact⟨0,zrows n,by omega,rfl,zrows_size n,hG2.out,fun i hi=>by omega,hS2.out,hB2.out⟩
 case round=>
  obtain⟨k,C,hk,rfl,hC,hG,hT,hS,hBw⟩:=hrel;clear hS2 hB2 hG2;by_cases hlt:k<n
  ·have hkI:(k:Int)<(n:Int):=by omega
   have hc0:wr.cell? ⟨B,0,none⟩=some (.int .i64 (n:Int)):=by rw[←HFL.out];exact hS.c0
   have hmI:=mkIn n n2;obtain⟨v,hv⟩:∃v,C[k]?=some v:=⟨_,Array.getElem?_eq_getElem (by omega)⟩;have hcG:wr.cell? ⟨G,k,none⟩=some v:=(hG.cell k).trans hv;have hfG:=hG.frozen k;have hGlt:=hG.lt;have g1:=hG.set k (.slice (some ⟨wr.heap.size,0,none⟩) n n)
   have hcG2:(wr.setCell ⟨G,k,none⟩ (.slice (some ⟨wr.heap.size,0,none⟩) n n)).cell? ⟨G,k,none⟩=some (.slice (some ⟨wr.heap.size,0,none⟩) n n):=
    (g1.cell k).trans (by rw[Array.getElem?_setIfInBounds_self_of_lt (by omega)])
   have hsz:(wr.setCell ⟨G,k,none⟩ (.slice (some ⟨wr.heap.size,0,none⟩) n n)).heap.size=wr.heap.size:=by simp[World.setCell]
   have G3:=Hd (g1.alloc (.cells (zints n) 3));have CK:=Hd (show(C.setIfInBounds k (.slice (some ⟨wr.heap.size,0,none⟩) n n))[k]?=some (.slice (some ⟨wr.heap.size,0,none⟩) n n) by rw[Array.getElem?_setIfInBounds_self_of_lt (by omega)]);have CS:=Hd (show(C.setIfInBounds k (.slice (some ⟨wr.heap.size,0,none⟩) n n)).size=n by simp[hC]);have T3:=Hd ((hT.set (.slice (some ⟨wr.heap.size,0,none⟩) n n)).below (((Below.refl _ _).alloc (Nat.le_refl _) (.cells (zints n) 3))));have S3:=Hd ((hS.other (b':=G) (by omega) k (.slice (some ⟨wr.heap.size,0,none⟩) n n)).alloc (.cells (zints n) 3));have B3:=Hd ((hBw.setCell (p:=⟨G,k,none⟩) hwG (.slice (some ⟨wr.heap.size,0,none⟩) n n)).alloc (by rw[hsz];exact hBw.size) (.cells (zints n) 3));have R3:=Blk.new (wr.setCell ⟨G,k,none⟩ (.slice (some ⟨wr.heap.size,0,none⟩) n n)) (zints n) 3;rw[hsz]at R3;have R3:=Hd R3;have hwR:w.heap.size≤wr.heap.size:=hBw.size;clear g1 hT hS hBw hG hv hC;go_wp2;clear hcG hfG hcG2 hc0 hmI hsz;generalize (wr.setCell ⟨G,k,none⟩ (.slice (some ⟨wr.heap.size,0,none⟩) n n)).alloc (.cells (zints n) 3)=W3 at G3 T3 S3 B3 R3⊢;generalize C.setIfInBounds k (.slice (some ⟨wr.heap.size,0,none⟩) n n)=C' at G3 CK CS T3;generalize wr.heap.size=R at G3 CK T3 R3 hwR hGlt⊢
   go_loopw [28] (fun i wr=>∃(j:Nat) (D:Array Value),j≤n∧i=.int .i64 j∧D.size=n∧Blk wr R D 3∧(∀q:Nat,q<n→q<j→D[q]?=some (.int .i64 (SM.trav s k q)))∧(∀q:Nat,q<n→∃z:Int,D[q]?=some (.int .i64 z))∧Blk wr G C' 90∧Tab s n G k R C' wr∧SB wr B s∧Below w.heap.size w wr) (fun i _=>n-(intOf i).toNat)
   case atStart=>exact⟨0,zints n,by omega,rfl,zints_size n,R3.out,fun q _ hq=>by omega,fun q hq=>⟨0,zints_get n q hq⟩,G3.out,T3.out,S3.out,B3.out⟩
   case round=>
    obtain⟨j,D,hj,rfl,hD,hR,hrow,hint,hG,hT,hS,hBw⟩:=hrel;clear G3 T3 S3 B3 R3;by_cases hjn:j<n
    ·have hjI:(j:Int)<(n:Int):=by omega
     obtain⟨z,hz⟩:=hint j hjn;go_wp2;have hk0:(0:Int)≤(k:Int):=by omega
     have hj0:(0:Int)≤(j:Int):=by omega
     go_region_held3 (fun w'=>SB w' B s∧w'.cell? ⟨B,0,none⟩=some (.int .i64 s.fl)∧w'.cell? ⟨B,1,none⟩=some (.int .i64 s.ca)∧w'.cell? ⟨B,2,none⟩=some (.int .i64 s.sta)∧w'.cell? ⟨B,3,none⟩=some (.int .i64 s.ste)∧w'.cell? ⟨B,4,none⟩=some (.int .i64 s.sto)∧w'.cell? ⟨B,5,none⟩=some (.int .i64 s.opn)∧w'.cell? ⟨B,6,none⟩=some (.int .i64 s.wai)∧w'.cell? ⟨B,7,none⟩=some (.int .i64 s.clo)∧w'.cell? ⟨B,8,none⟩=some (.int .i64 s.nud)∧w'.cell? ⟨B,9,none⟩=some (.int .i64 s.age)∧w'.cell? ⟨B,10,none⟩=some (.int .i64 s.sil)∧w'.cell? ⟨B,11,none⟩=some (.int .i64 s.bud)∧w'.cell? ⟨B,12,none⟩=some (.int .i64 s.per)∧w'.cell? ⟨G,k,none⟩=some (.slice (some ⟨R,0,none⟩) n n)) (first|exact held11 (SB.drew hS) hG CK.out|exact held11 (SB.below' (SB.drew hS) hb2) (Blk.below (W:=wr.drew) hG hb2) CK.out|exact held11 (SB.other (SB.below' (SB.drew hS) hb2) (by omega) _ _) (Blk.other (Blk.below (W:=wr.drew) hG hb2) (by omega) _ _) CK.out) ((go_at_call 87;refine (travel_any s r _ _ _).mono ?_;rintro e W4 ⟨rfl,hb2⟩;have hR4:=Blk.below (W:=wr.drew) hR hb2;have hcR:W4.cell? ⟨R,j,none⟩=some (.int .i64 z):=(hR4.cell j).trans hz;have hfR:=hR4.frozen j))
     rename_i hheld;have hb3:Below wr.heap.size wr W4:=below_class (Below.refl _ wr).drew hb2;have hG4:=hG.below hb3;have T5:=Hd ((hT.below hb3).other (Nat.le_refl R) j (.int .i64 (SM.trav s k j)));have G5:=Hd (hG4.other (b':=R) (by omega) j (.int .i64 (SM.trav s k j)));have R5:=Hd (hR4.set j (.int .i64 (SM.trav s k j)));have S5:=Hd ((hS.below' hb3).other (b':=R) (by omega) j (.int .i64 (SM.trav s k j)));have B5:=Hd ((below_class hBw hb3).setCell (p:=⟨R,j,none⟩) hwR (.int .i64 (SM.trav s k j)));have D5:=Hd (show(D.setIfInBounds j (.int .i64 (SM.trav s k j))).size=n by simp[hD])
     have Row5:Hid (∀q:Nat,q<n→q<j+1→(D.setIfInBounds j (.int .i64 (SM.trav s k j)))[q]?=some (.int .i64 (SM.trav s k q))):=Hd (fun q hq1 hq2=>by
      by_cases e:j=q
      ·subst e;rw[Array.getElem?_setIfInBounds_self_of_lt (by omega)]
      ·rw[Array.getElem?_setIfInBounds_ne e];exact hrow q hq1 (by omega))
     have Int5:Hid (∀q:Nat,q<n→∃z:Int,(D.setIfInBounds j (.int .i64 (SM.trav s k j)))[q]?=some (.int .i64 z)):=Hd (fun q hq1=>by
      by_cases e:j=q
      ·subst e;exact⟨_,Array.getElem?_setIfInBounds_self_of_lt (by omega)⟩
      ·rw[Array.getElem?_setIfInBounds_ne e];exact hint q hq1)
     clear hheld hcR hfR hb2 hb3 hR4 hG4 hR hG hT hS hBw hrow hint hz;go_wp2;go_roundw
     case rel=>exact⟨j+1,_,by omega,by go_num,D5.out,R5.out,Row5.out,Int5.out,G5.out,T5.out,S5.out,B5.out⟩
     case measure=>simp[intOf];omega
    ·obtain rfl:j=n:=by omega
     have T6:Hid (Tab s j G (k+1) wr.heap.size C' wr):=Hd (fun i hi=>by
      by_cases e:i<k
      ·exact(hT.le (Nat.le_of_lt hR.lt)) i e
      ·obtain rfl:i=k:=by omega
       exact⟨R,D,hGlt,hR.lt,CK.out,hR,fun q hq=>hrow q hq hq⟩)
     have G6:=Hd hG;have S6:=Hd hS;have B6:=Hd hBw;clear hR hG hT hS hBw hrow hint;go_wp2;go_roundw
     case rel=>exact⟨k+1,C',by omega,by go_num,CS.out,G6.out,T6.out,S6.out,B6.out⟩
     case measure=>simp[intOf];omega
  ·obtain rfl:k=n:=by omega
   have T6:=Hd hT;have G6:=Hd hG;have B6:=Hd hBw;clear hG hT hS hBw;go_wp2;go_ret;exact⟨⟨G,C,rfl,hwG,G6.out,T6.out⟩,B6.out⟩
theorem table_rl(s:St)(r:SM.Rt s)(w:World):
  Calls Tryz.prog 142 #[.agg (sv s).toArray] w fun e w'=>∃v,e=.returned v∧RL (fun g=>w.heap.size≤g) w' v (tbl s)∧Below w.heap.size w w':=by
 have f1:=r.fl1;refine (table_any s r s.fl.toNat (by omega) w).mono fun e w' h=> ?_;obtain⟨⟨G,C,rfl,hG,hC,hT⟩,hb⟩:=h;have hlen:(tbl s).length=s.fl.toNat:=by unfold tbl;simp
 refine⟨_,rfl,⟨some ⟨G,0,none⟩,s.fl.toNat,by rw[hlen],by rw[hlen];exact Nat.le_refl _,(fun e=>by cases e),.inr ⟨G,0,rfl,hG,hC.lt,fun i l hi=> ?_⟩⟩,hb⟩;have hi2:i<s.fl.toNat:=by rw[←hlen];exact(List.getElem?_eq_some_iff.1 hi).1
 rw[tbl_get hi2]at hi;cases hi;obtain⟨R,D,h1,h2,h3,h4,h5⟩:=hT i hi2;refine⟨_,(by rw[Nat.zero_add];exact(hC.cell i).trans h3),some ⟨R,0,none⟩,s.fl.toNat,by simp,by simp,(fun e=>by cases e),.inr ⟨R,0,rfl,by omega,h4.lt,fun j x hx=> ?_⟩⟩
 have hj:j<s.fl.toNat:=by
  have:=(List.getElem?_eq_some_iff.1 hx).1;simpa using this
 rw[tbl_at i hj]at hx;cases hx;rw[Nat.zero_add];exact(h4.cell j).trans (h5 j hj)
open Go.Shelf
theorem built_kt(s:St)(vc vw:Value)(a:Option Addr)(n c:Nat)(d:Int):Tryz.prog.built 224 [(0,.agg (nv s vc vw).toArray),(1,.slice a n c),(2,.int .i64 d)]=some (nv s vc vw++[Value.slice a n c,Value.int .i64 d]).toArray:=by kernel_rfl
section
variable {S:World→Prop} {ops:Array Oper} {Q:Exit→Act→World→Prop} {i:Nat} {o:Oper} {K:Act→World→Prop} {a:Act} {w:World}
theorem yif_load27(hw:Region.wanted o (yielded ops a.tmps)=true)(x:Operand)(ho:o.op=.load 100 x)(b:Nat)(s:St)(vc vw:Value)(hx:a.eval x=.pointer (some ⟨b,0,none⟩))(hr:∀w,S w→NB w b s vc vw):YieldsIf Tryz.prog ops S o (.agg (nv s vc vw).toArray) a:=
 .inl ⟨hw,fun w hS=>by unfold execOp;simp only[ho,hx,Sem.run_bind,Sem.run_pure,Result.andThen_ok,load27 w b s vc vw (hr w hS).range]⟩
theorem NB.siteR{w:World}{b:Nat}{s:St}{vc vw:Value}(h:NB w b s vc vw):w.rangeAt b 0 (sv s):=fun j v hv=>h.range j v (by
 have hj:j<(sv s).length:=(List.getElem?_eq_some_iff.1 hv).1;show(sv s++[vc,vw])[j]?=some v
 rw[List.getElem?_append_left hj];exact hv)
theorem yif_load23(hw:Region.wanted o (yielded ops a.tmps)=true)(x:Operand)(ho:o.op=.load 23 x)(b:Nat)(s:St)(vc vw:Value)(hx:a.eval x=.pointer (some ⟨b,0,none⟩))(hr:∀w,S w→NB w b s vc vw):YieldsIf Tryz.prog ops S o (.agg (sv s).toArray) a:=
 .inl ⟨hw,fun w hS=>by unfold execOp;simp only[ho,hx,Sem.run_bind,Sem.run_pure,Result.andThen_ok,load23 w b s (hr w hS).siteR]⟩
theorem wpOp_box(hi:ops[i]?=some o)(hw:Region.wanted o (yielded ops a.tmps)=true)(t:TypeId)(x:Operand)(ho:o.op=.box t x)(cs:Array Value)(hx:a.eval x=.agg cs)(h:K (a.put o.dst (.pointer (some ⟨w.heap.size,0,none⟩))) (w.alloc (.cells cs t))):wpOp Tryz.prog ops Q i K a w:=
 wpOp_val hi hw (by
  have e:execOp a.eval o=execOp (fun _=>Value.agg cs) o:=by unfold execOp;simp only[ho,hx]
  rw[e];unfold execOp
  simp[ho,go_sem]) h
end
section
variable {D:Nat→Prop} {W:World} {s:Sn} {vc vw:Value}
theorem knewTree_any(hc:R2 D W vc s.cs)(hw:R2 D W vw s.ws)(hr:rgt s=true):
  Calls Tryz.prog 100 #[.agg (nv s.st vc vw).toArray] W fun e w'=>Below W.heap.size W w'∧∃tb vt,e=.returned (.pointer (some ⟨tb,0,none⟩))∧TC (fun _=>True) w' tb s vc vw vt:=by
 have rt:=(rgt_rz hr).rt;have HN:=Hd (NB.new W s.st vc vw);have HB:=Hd ((Below.refl W.heap.size W).alloc (Nat.le_refl _) (.cells (nv s.st vc vw).toArray 100));have HC:=Hd (hc.mono (D':=fun _=>True) fun _ _ _ _=>trivial);have HW:=Hd (hw.mono (D':=fun _=>True) fun _ _ _ _=>trivial);have HR:=Hd hr;have HTA:=Hd (table_rl s.st rt);have hw1:IntKind.i64.wrap (s.st.opn+s.st.wai)=s.st.opn+s.st.wai:=IntWalk.i64_in _ (by have:=rt.opn1;have:=rt.opn2;have:=rt.wai1;have:=rt.wai2;omega);have hw2:IntKind.i64.wrap (s.st.opn+s.st.wai+s.st.clo)=s.st.opn+s.st.wai+s.st.clo:=IntWalk.i64_in _ (by have:=rt.opn1;have:=rt.opn2;have:=rt.wai1;have:=rt.wai2;have:=rt.clo1;have:=rt.clo2;omega);have hw3:IntKind.i64.wrap (s.st.opn+s.st.wai+s.st.clo+2)=s.st.opn+s.st.wai+s.st.clo+2:=IntWalk.i64_in _ (by have:=rt.opn1;have:=rt.opn2;have:=rt.wai1;have:=rt.wai2;have:=rt.clo1;have:=rt.clo2;omega);clear hc hw hr rt
 go_enter Tryz.func100,Tryz.ntmps100
 go_upto_region 1 with (fail)
 generalize W.alloc (.cells (nv s.st vc vw).toArray 100)=X at HN HB⊢;refine wp_nrm ?_;have HS0:Hid (∀w',Below X.heap.size X w'→NB w' W.heap.size s.st vc vw):=fun w' hw=>HN.out.below' hw;refine wp_region_held (S:=fun w'=>Below X.heap.size X w') (by kernel_rfl) ?_;change wpAnyH _ _ _ _ _ _ _ _ (World.drew _);have HD:Hid (Below X.heap.size X X.drew):=(Below.refl _ _).drew;generalize hXd:X.drew=X0 at HD⊢;clear hXd;refine wpAnyH_take (i:=0) rfl (by kernel_rfl) (by kernel_rfl) (by kernel_rfl) (fun _ _ _ h=>by cases h.1) (yif_load27 rfl _ rfl W.heap.size s.st vc vw rfl HS0.out) HD.out ?_;generalize hKK:wpAnyH _ _ _ _ _ _ _=KK;go_simp;subst hKK;refine wpAnyH_take (i:=1) rfl (by kernel_rfl) (by kernel_rfl) (by kernel_rfl) (fun _ _ _ h=>by cases h.1) (.inl ⟨rfl,fun _ _=>rfl⟩) HD.out ?_;generalize hKK:wpAnyH _ _ _ _ _ _ _=KK;go_simp;subst hKK;refine wpAnyH_take (i:=2) rfl (by kernel_rfl) (by kernel_rfl) (by kernel_rfl) (fun _ _ _ h=>by cases h.1) (yif_load23 rfl _ rfl W.heap.size s.st vc vw rfl HS0.out) HD.out ?_;generalize hKK:wpAnyH _ _ _ _ _ _ _=KK;go_simp;subst hKK;refine wpAnyH_take (i:=4) rfl (by kernel_rfl) (by kernel_rfl) (by kernel_rfl) (fun _ _ _ h=>by cases h.1) (.inl ⟨rfl,fun _ _=>rfl⟩) HD.out ?_;generalize hKK:wpAnyH _ _ _ _ _ _ _=KK;go_simp;subst hKK;refine wpAnyH_take (i:=5) rfl (by kernel_rfl) (by kernel_rfl) (by kernel_rfl) (fun _ _ _ h=>by cases h.1) (.inl ⟨rfl,fun _ _=>rfl⟩) HD.out ?_;generalize hKK:wpAnyH _ _ _ _ _ _ _=KK;go_simp;subst hKK;refine wpAnyH_take (i:=6) (v:=.int .i64 s.st.opn) rfl (by kernel_rfl) (by kernel_rfl) (by kernel_rfl) (fun _ _ _ h=>by cases h.1) (.inl ⟨rfl,fun w hw=>by have hc:w.cell? ⟨W.heap.size,5,none⟩=some (.int .i64 s.st.opn):=(HS0.out w hw).cell 5;go_simp⟩) HD.out ?_;generalize hKK:wpAnyH _ _ _ _ _ _ _=KK;go_simp;subst hKK;refine wpAnyH_take (i:=7) rfl (by kernel_rfl) (by kernel_rfl) (by kernel_rfl) (fun _ _ _ h=>by cases h.1) (.inl ⟨rfl,fun _ _=>rfl⟩) HD.out ?_;generalize hKK:wpAnyH _ _ _ _ _ _ _=KK;go_simp;subst hKK;refine wpAnyH_take (i:=8) rfl (by kernel_rfl) (by kernel_rfl) (by kernel_rfl) (fun _ _ _ h=>by cases h.1) (.inl ⟨rfl,fun _ _=>rfl⟩) HD.out ?_;generalize hKK:wpAnyH _ _ _ _ _ _ _=KK;go_simp;subst hKK;refine wpAnyH_take (i:=9) (v:=.int .i64 s.st.wai) rfl (by kernel_rfl) (by kernel_rfl) (by kernel_rfl) (fun _ _ _ h=>by cases h.1) (.inl ⟨rfl,fun w hw=>by have hc:w.cell? ⟨W.heap.size,6,none⟩=some (.int .i64 s.st.wai):=(HS0.out w hw).cell 6;go_simp⟩) HD.out ?_;generalize hKK:wpAnyH _ _ _ _ _ _ _=KK;go_simp;subst hKK;refine wpAnyH_take (i:=10) (v:=.int .i64 (s.st.opn+s.st.wai)) rfl (by kernel_rfl) (by kernel_rfl) (by kernel_rfl) (fun _ _ _ h=>by cases h.1) (.inl ⟨rfl,fun w _=>by go_simp⟩) HD.out ?_;generalize hKK:wpAnyH _ _ _ _ _ _ _=KK;go_simp;subst hKK;refine wpAnyH_take (i:=11) rfl (by kernel_rfl) (by kernel_rfl) (by kernel_rfl) (fun _ _ _ h=>by cases h.1) (.inl ⟨rfl,fun _ _=>rfl⟩) HD.out ?_;generalize hKK:wpAnyH _ _ _ _ _ _ _=KK;go_simp;subst hKK;refine wpAnyH_take (i:=12) rfl (by kernel_rfl) (by kernel_rfl) (by kernel_rfl) (fun _ _ _ h=>by cases h.1) (.inl ⟨rfl,fun _ _=>rfl⟩) HD.out ?_;generalize hKK:wpAnyH _ _ _ _ _ _ _=KK;go_simp;subst hKK;refine wpAnyH_take (i:=13) (v:=.int .i64 s.st.clo) rfl (by kernel_rfl) (by kernel_rfl) (by kernel_rfl) (fun _ _ _ h=>by cases h.1) (.inl ⟨rfl,fun w hw=>by have hc:w.cell? ⟨W.heap.size,7,none⟩=some (.int .i64 s.st.clo):=(HS0.out w hw).cell 7;go_simp⟩) HD.out ?_;generalize hKK:wpAnyH _ _ _ _ _ _ _=KK;go_simp;subst hKK;refine wpAnyH_take (i:=14) (v:=.int .i64 (s.st.opn+s.st.wai+s.st.clo)) rfl (by kernel_rfl) (by kernel_rfl) (by kernel_rfl) (fun _ _ _ h=>by cases h.1) (.inl ⟨rfl,fun w _=>by go_simp⟩) HD.out ?_;generalize hKK:wpAnyH _ _ _ _ _ _ _=KK;go_simp;subst hKK;refine wpAnyH_take (i:=15) (v:=.int .i64 (s.st.opn+s.st.wai+s.st.clo+2)) rfl (by kernel_rfl) (by kernel_rfl) (by kernel_rfl) (fun _ _ _ h=>by cases h.1) (.inl ⟨rfl,fun w _=>by go_simp⟩) HD.out ?_;generalize hKK:wpAnyH _ _ _ _ _ _ _=KK;go_simp;subst hKK;refine wpAnyH_all (rs:=[3]) (by kernel_rfl) (by simp) (fun ii hii=> ?_);obtain rfl:ii=3:=by simpa using hii
 clear hii;refine wpOp_call rfl rfl ?hrun (HTA.out X0) ?_
 case hrun=>unfold execOp;simp[resolve,invoke,go_sem]
 rintro e X1 ⟨v,rfl,hv,hb1⟩;have hbx:=below_class HD.out hb1;refine⟨_,rfl,hbx,?_⟩;obtain⟨av,kv,rfl,_,_⟩:=hv.form;have HV:=Hd hv;have HD1:=Hd hbx;generalize (tbl s.st).length=nt at HV⊢;clear hv hb1 hbx HD;generalize hKK:wpAnyH _ _ _ _ _ _ _=KK;go_simp;subst hKK;refine wpAnyH_take (i:=16) (v:=.agg (tcl2 s.st vc vw (.slice av nt kv)).toArray) rfl (by kernel_rfl) (by kernel_rfl) (by kernel_rfl) (fun _ _ _ h=>by cases h.1) (yif_build rfl _ _ rfl [(0,.agg (nv s.st vc vw).toArray),(1,.slice av nt kv),(2,.int .i64 (s.st.opn+s.st.wai+s.st.clo+2))] (by simp[Act.eval]) _ (built_kt _ _ _ _ _ _ _)) HD1.out ?_;generalize hKK:wpAnyH _ _ _ _ _ _ _=KK;go_simp;subst hKK;refine wpAnyH_all (rs:=[17]) (by kernel_rfl) (by simp) (fun ii hii=> ?_);obtain rfl:ii=17:=by simpa using hii
 clear hii;refine wpOp_box rfl rfl _ _ rfl (tcl2 s.st vc vw (.slice av nt kv)).toArray rfl ?_;have hb2:=HD1.out.alloc HD1.out.size (.cells (tcl2 s.st vc vw (.slice av nt kv)).toArray 224);refine⟨hb2,?_⟩;have HBB:=Hd (below_class HB.out hb2);have HB2:=Hd hb2
 have HTC:Hid (TC (fun _=>True) (X1.alloc (.cells (tcl2 s.st vc vw (.slice av nt kv)).toArray 224)) X1.heap.size s vc vw (.slice av nt kv)):=
  ⟨World.alloc_heap_new X1 _,trivial,HC.out.below' HBB.out,HW.out.below' HBB.out,(HV.out.alloc _).mono fun _ _ _ _=>trivial,HR.out⟩
 clear hb2 HV HC HW HB HD1 HN HS0 HTA;generalize X1.alloc (.cells (tcl2 s.st vc vw (.slice av nt kv)).toArray 224)=X2 at HBB HB2 HTC⊢;generalize X1.heap.size=tb at HTC⊢;generalize hKK:wpAnyH _ _ _ _ _ _ _=KK;go_simp;subst hKK;refine wpAnyH_all (rs:=[18]) (by kernel_rfl) (by simp) (fun ii hii=> ?_);obtain rfl:ii=18:=by simpa using hii
 clear hii;refine wpOp_val (v:=.pointer (some ⟨tb,0,none⟩)) (w':=X2) rfl rfl (by go_simp) ?_;refine⟨HB2.out,wpAnyH_done (by kernel_rfl) ⟨rfl,?_⟩ _⟩;go_wp2;go_ret;exact⟨HBB.out,tb,_,rfl,HTC.out⟩
end
theorem loadPw(w:World)(b o:Nat)(v:Value)(h:w.cell? ⟨b,o,none⟩=some v):(Instr.loadAt 104 (.pointer (some ⟨b,o,none⟩))).run Tryz.prog w=.ok v w:=by simp[go_sem,h]
theorem quiet_loadPw{C:World→Prop}{K:Act→Prop}{o:Oper}{a:Act}(x:Operand)(b k:Nat){v:Value}(ho:o.op=.load 104 x)(hx:a.eval x=.pointer (some ⟨b,k,none⟩))(hr:∀w,C w→w.cell? ⟨b,k,none⟩=some v)
  (h:K (a.put o.dst v)):o.quiet Tryz.prog a C K:=
 quiet_val _ (fun w hw=>by unfold execOp;simp only[ho,hx,Sem.run_bind,Sem.run_pure,Result.andThen_ok,loadPw w b k v (hr w hw)]) h
structure Ch(w W:World)(s:Sn)(vc vw:Value):Prop where
 nb:NB W w.heap.size s.st vc vw
 z:JB W (w.heap.size+1) false 0 (.slice none 0 0)
 bel:Below w.heap.size w W
theorem Ch.next{w W W':World}{s:Sn}{vc vw:Value}(h:Ch w W s vc vw)(hb:Below W.heap.size W W'):Ch w W' s vc vw:=⟨h.nb.below' hb,h.z.below' hb,below_class h.bel hb⟩
theorem Ch.lt{w W:World}{s:Sn}{vc vw:Value}(h:Ch w W s vc vw):w.heap.size+2≤W.heap.size:=h.z.lt
theorem Ch.new(w:World)(s:Sn)(vc vw:Value):Ch w ((w.alloc (.cells (nv s.st vc vw).toArray 100)).alloc (.cells #[.bool false,.int .i64 0,.slice none 0 0] 141)) s vc vw:=by
 have h2:=JB.new (w.alloc (.cells (nv s.st vc vw).toArray 100)) false 0 (.slice none 0 0);rw[World.size_alloc]at h2;exact⟨(NB.new w s.st vc vw).below' ((Below.refl _ _).alloc (Nat.le_refl _) _),h2,((Below.refl w.heap.size w).alloc (Nat.le_refl _) _).alloc (by simp) _⟩
theorem ckw_form{s:Sn}{b:List Nat}(hr:rgt s=true)(h:rdc s.cs.length b=none):ckw s b=(3,clm0):=by
 unfold ckw;rw[if_pos hr,h]
theorem ckw_read{s:Sn}{b:List Nat}{x:Clm}{a:Nat}(hr:rgt s=true)(h:rdc s.cs.length b=some (x,a)):ckw s b=if fsb s x.plan=true then
    (if RM.cst s.st s.ws s.cs x.plan=x.cost then
     (if x.best=true∧mrk s x.cost (b.drop a)=false then(10,clm0)else(0,x))else(10,clm0))else(9,clm0):=by
 unfold ckw;rw[if_pos hr,h]
theorem check_any'(s:Sn)(D:Nat→Prop)(vc vw v:Value)(b:List Nat)(w:World)(hc:R2 D w vc s.cs)(hw:R2 D w vw s.ws)(hb:RY D w v b):
  Calls Tryz.prog 70 #[.agg (nv s.st vc vw).toArray,v] w fun e w'=>CkP s b w e w':=by
 have HC0:=Hd (Ch.new w s vc vw);have HRI:=Hd (snapRight_any s (fun _=>True) vc vw _ ((hc.mono fun _ _ _ _=>trivial).below' HC0.out.bel) ((hw.mono fun _ _ _ _=>trivial).below' HC0.out.bel));have HC:=Hd (hc.mono (D':=fun g=>g<w.heap.size) fun g _ h _=>h);have HW:=Hd (hw.mono (D':=fun g=>g<w.heap.size) fun g _ h _=>h);have HY:=Hd (hb.mono (D':=fun g=>g<w.heap.size) fun g _ h _=>h);have HB0:=Hd HC0.out.nb;obtain⟨av,kv,rfl,_,_,_⟩:=hb.form;obtain⟨ac,kc',rfl,_,_⟩:=hc.form;clear hc hw hb
 go_enter Tryz.func70,Tryz.ntmps70
 go_wp2_with (refine wpList_load27g rfl _ rfl w.heap.size s.st _ _ rfl HB0.out ?_)
 refine HRI.out.mono ?_;rintro e W1 ⟨rfl,hb1⟩;have HC1:=Hd (HC0.out.next hb1);clear hb1 HC0 HB0 HRI;cases hr:rgt s with
 |false=>
  have HCK:Hid (ckw s b=(1,clm0)):=by show _=_;unfold ckw;rw[hr];rfl
  have HZ1:=Hd HC1.out.z;clear hr
  go_wp2_with (refine wpList_storeJ rfl _ _ rfl (w.heap.size+1) rfl rfl HZ1.out ?_)
  intro W9 hk9 hg9;have HG9:=Hd hg9;have HB9:=Hd (hk9.below HC1.out.bel HC1.out.bel.size (fun i hi e=>by omega));clear hk9 hg9 HZ1 HC1;go_wp2;exact bodyPost_ret (retJ2 Tryz.results70 rfl rfl HG9.out) rfl (CkP.no HCK.out HB9.out)
 |true=>
  have HR:=Hd hr;obtain⟨n8,hrs⟩:=rgt_rs hr;have hN:s.cs.length≤8:=by have:=hrs.cl;have:=hrs.n8;omega
  have hw1:=HC1.out.lt;clear hr hrs;have hb2:=(Below.refl W1.heap.size W1).alloc (Nat.le_refl _) (.cells #[.slice av b.length kv] 181);have HC2:=Hd (HC1.out.next hb2);have HRR:Hid (RR (W1.alloc (.cells #[.slice av b.length kv] 181)) W1.heap.size b):=⟨_,RB.new W1 _,((HY.out.below' HC1.out.bel).mono fun g hg _ _=>by omega).below' hb2⟩;have c13:(W1.alloc (.cells #[.slice av b.length kv] 181)).cell? ⟨w.heap.size,13,none⟩=some (.slice ac s.cs.length kc'):=HC2.out.nb.cell 13;have HRD:=Hd (kclaim_any HRR.out hN);clear hb2
  go_wp2_with fail
  clear c13;have hmb:=HRR.out.lt;generalize W1.alloc (.cells #[.slice av b.length kv] 181)=W2 at HC2 HRR HRD hmb⊢;have hmb1:w.heap.size+2≤W1.heap.size:=hw1;generalize W1.heap.size=mb at HRR HRD hmb hmb1⊢;clear hw1 HC1 HRR;refine HRD.out.mono ?_;rintro e W3 ⟨hk3,ho⟩;have HC3:Hid (Ch w W3 s (.slice ac s.cs.length kc') vw):=⟨(hk3.block _ HC2.out.nb.lt (by omega)).trans HC2.out.nb,HC2.out.z.kp hk3 (by omega),hk3.below HC2.out.bel HC2.out.bel.size (fun i hi e=>by omega)⟩;have hs23:=hk3.size;clear hk3 HRD HC2;rcases ho with⟨hno,ok,co,a1,n1,c1,rfl⟩|⟨c,a,vp,hyes,rfl,hpl,hrr⟩
  ·have HCK:=Hd (ckw_form HR.out hno);have HJ:=Hd (JB.new W3 false 0 (.slice none 0 0));have HBJ:=Hd ((Below.refl W3.heap.size W3).alloc (Nat.le_refl _) (.cells #[.bool false,.int .i64 0,.slice none 0 0] 141));have hw3:=HC3.out.lt;clear hno
   go_wp2_with (refine wpList_storeJ rfl _ _ rfl W3.heap.size rfl rfl HJ.out ?_)
   intro W4 hk4 hg4;have hb4:=hk4.below HBJ.out HBJ.out.size (fun i hi e=>by omega);have HC4:=Hd (HC3.out.next hb4);have HZ4:=Hd HC4.out.z;clear hk4 hg4 hb4 HJ HBJ HC3
   go_wp2_with (refine wpList_storeJ rfl _ _ rfl (w.heap.size+1) rfl rfl HZ4.out ?_)
   intro W9 hk9 hg9;have HG9:=Hd hg9;have HB9:=Hd (hk9.below HC4.out.bel HC4.out.bel.size (fun i hi e=>by omega));clear hk9 hg9 HZ4 HC4;go_wp2;exact bodyPost_ret (retJ2 Tryz.results70 rfl rfl HG9.out) rfl (CkP.no HCK.out HB9.out)
  ·obtain⟨h9,hrk⟩:=rdc_some hyes;obtain⟨bst,co,p⟩:=c;have HLL:Hid (∀l∈p,l.length≤255):=rdk_len HY.out.1 hrk;have HPN:=Hd (rdk_form h9 hrk).1;have HCR:=Hd (ckw_read HR.out hyes);dsimp only at HLL HPN HCR hpl⊢;obtain⟨ap,kp,rfl,_,_⟩:=hpl.form;have HPL:Hid (RL (fun g=>W2.heap.size≤g) W3 (.slice ap p.length kp) p):=hpl;have HRR:=Hd hrr;have HJ:=Hd (JB.new W3 false 0 (.slice none 0 0));have HBJ:=Hd ((Below.refl W3.heap.size W3).alloc (Nat.le_refl _) (.cells #[.bool false,.int .i64 0,.slice none 0 0] 141));have hw3:=HC3.out.lt;clear hyes hrk hpl hrr h9
   go_wp2_with (refine wpList_storeJ rfl _ _ rfl W3.heap.size rfl rfl HJ.out ?_)
   intro W4 hk4 hg4;have hb4:=hk4.below HBJ.out HBJ.out.size (fun i hi e=>by omega);have HC4:=Hd (HC3.out.next hb4);have HJ4:=Hd hg4;have HPL4:=Hd (HPL.out.below' hb4);have HRR4:=Hd (HRR.out.below' hb4);have hmc:mb<W3.heap.size:=by omega
   clear hk4 hg4 hb4 HJ HBJ HC3 HPL HRR;generalize W3.heap.size=cb at HJ4 hw3 hmc⊢;have HF:=Hd (feasible_any s (fun _=>True) (.slice ac s.cs.length kc') vw (.slice ap p.length kp) p W4 ((HC.out.below' HC4.out.bel).mono fun _ _ _ _=>trivial) ((HW.out.below' HC4.out.bel).mono fun _ _ _ _=>trivial) (HPL4.out.mono fun _ _ _ _=>trivial) (by have:=HPN.out;omega) (fun l hl=>by have:=HLL.out l hl;omega));have c2:W4.cell? ⟨cb,2,none⟩=some (.slice ap p.length kp):=HJ4.out.cell 2;have HN4:=Hd HC4.out.nb
   go_wp2_with (refine wpList_load27g rfl _ rfl w.heap.size s.st _ _ rfl HN4.out ?_)
   refine HF.out.mono ?_;rintro e W5 ⟨rfl,hb5⟩;have HC5:=Hd (HC4.out.next hb5);have HJ5:=Hd (HJ4.out.below' hb5);have HPL5:=Hd (HPL4.out.below' hb5);have HRR5:=Hd (HRR4.out.below' hb5);clear hb5 c2 HF HC4 HJ4 HPL4 HRR4 HN4;cases hf:fsb s p with
   |false=>
    have HCK:Hid (ckw s b=(9,clm0)):=by show _=_;rw[HCR.out,hf];rfl
    have HZ5:=Hd HC5.out.z;clear hf
    go_wp2_with (refine wpList_storeJ rfl _ _ rfl (w.heap.size+1) rfl rfl HZ5.out ?_)
    intro W9 hk9 hg9;have HG9:=Hd hg9;have HB9:=Hd (hk9.below HC5.out.bel HC5.out.bel.size (fun i hi e=>by omega));clear hk9 hg9 HZ5 HC5;go_wp2;exact bodyPost_ret (retJ2 Tryz.results70 rfl rfl HG9.out) rfl (CkP.no HCK.out HB9.out)
   |true=>
    have HFS:=Hd (fsb_fs hf);rw[hf,if_pos rfl]at HCR;have HNT:=Hd (knewTree_any (HC.out.below' HC5.out.bel) (HW.out.below' HC5.out.bel) HR.out);have HN5:=Hd HC5.out.nb;clear hf
    go_wp2_with (refine wpList_load27g rfl _ rfl w.heap.size s.st _ _ rfl HN5.out ?_)
    refine HNT.out.mono ?_;rintro e W6 ⟨hb6,tb,vt,rfl,htc⟩;have HC6:=Hd (HC5.out.next hb6);have HJ6:=Hd (HJ5.out.below' hb6);have HPL6:=Hd (HPL5.out.below' hb6);have HRR6:=Hd (HRR5.out.below' hb6);have HTC:=Hd htc;clear hb6 htc HNT HC5 HJ5 HPL5 HRR5 HN5;obtain⟨ct,HCT⟩:∃c,Hid (RM.cst s.st s.ws s.cs p=c):=⟨_,Hd rfl⟩;rw[HCT.out]at HCR;have H2:Hid (∀w',Below W6.heap.size W6 w'→w'.cell? ⟨cb,2,none⟩=some (.slice ap p.length kp)):=fun w' hw=>(HJ6.out.below' hw).cell 2;have H1:Hid (∀w',Below W6.heap.size W6 w'→w'.cell? ⟨cb,1,none⟩=some (.int .i64 co)):=fun w' hw=>(HJ6.out.below' hw).cell 1
    have HCO:Hid (∀w',Below W6.heap.size W6 w'→Calls Tryz.prog 101 #[.pointer (some ⟨tb,0,none⟩),.slice ap p.length kp] w' fun e w''=>e=.returned (.int .i64 ct)∧Below w'.heap.size w' w''):=fun w' hw=>by
     have h:=kcost_any (HTC.out.below' hw) (HPL6.out.below' hw) HFS.out (fun l hl=>by have:=HLL.out l hl;omega);rw[HCT.out]at h;exact h
    go_wp2_with fail
    refine wp_region_quiet (C:=fun w'=>Below W6.heap.size W6 w') (by kernel_rfl) (by kernel_rfl) ((Below.refl _ _).drew) ?_;simp only[]
    iterate 2 (unfold wpQuiet;generalize hK:wpQuiet _ _ _ _ _=K;go_simp;refine⟨_,fun _ _=>rfl,?_⟩;subst hK)
    unfold wpQuiet;generalize hK:wpQuiet _ _ _ _ _=K;rw[if_pos (by go_simp)];refine quiet_loadPw _ _ _ rfl rfl H2.out ?_;go_simp;subst hK;unfold wpQuiet;generalize hK:wpQuiet _ _ _ _ _=K;go_simp;refine⟨_,fun w' hw=>(HCO.out w' hw).mono fun e w'' hh=>⟨hh.1,below_class hw hh.2⟩,?_⟩;subst hK;unfold wpQuiet;generalize hK:wpQuiet _ _ _ _ _=K;go_simp;refine⟨_,fun _ _=>rfl,?_⟩;subst hK;unfold wpQuiet;generalize hK:wpQuiet _ _ _ _ _=K;rw[if_pos (by go_simp)];refine quiet_load3 _ _ _ rfl rfl H1.out ?_;go_simp;subst hK;unfold wpQuiet;generalize hK:wpQuiet _ _ _ _ _=K;go_simp;refine⟨_,fun _ _=>rfl,?_⟩;subst hK;refine wpQuiet_nil ?_;intro W7 hb7;have HC7:=Hd (HC6.out.next hb7);have HJ7:=Hd (HJ6.out.below' hb7);have HPL7:=Hd (HPL6.out.below' hb7);have HRR7:=Hd (HRR6.out.below' hb7);have HTC7:=Hd (HTC.out.below' hb7);have HZ7:=Hd HC7.out.z;clear hb7 H1 H2 HCO HC6 HJ6 HPL6 HRR6 HTC;by_cases hct:ct=co
    ·subst hct;rw[if_pos rfl]at HCR;have c0:W7.cell? ⟨cb,0,none⟩=some (.bool bst):=HJ7.out.cell 0;cases bst with
     |false=>
      have HCK:Hid (ckw s b=(0,⟨false,ct,p⟩)):=by show _=_;rw[HCR.out,if_neg (by simp)]
      go_wp2_with (first|(refine wpList_loadJ rfl _ rfl cb rfl HJ7.out ?_)|(refine wpList_storeJ rfl _ _ rfl (w.heap.size+1) rfl rfl HZ7.out ?_))
      intro W9 hk9 hg9;have HG9:=Hd hg9;have HB9:=Hd (hk9.below HC7.out.bel HC7.out.bel.size (fun i hi e=>by omega));have HRL9:Hid (RL (fun g=>w.heap.size≤g) W9 (.slice ap p.length kp) p):=(HPL7.out.keep hk9.size fun g hg hlt=>hk9.block g hlt (fun e=>by omega)).mono fun g hg _ _=>by omega
      clear hk9 hg9 HZ7 HC7 HJ7 HPL7;go_wp2;exact bodyPost_ret (retJ2 Tryz.results70 rfl rfl HG9.out) rfl (CkP.yes HCK.out HB9.out HRL9.out)
     |true=>
      have c1:W7.cell? ⟨cb,1,none⟩=some (.int .i64 ct):=HJ7.out.cell 1;obtain⟨vr,hrb,hry⟩:=HRR7.out.bl;have cr:=hrb.cell;obtain⟨ar,kr,rfl,_,_,_⟩:=hry.form;have HSH:=Hd (kshows_any (c:=ct) HTC7.out hry);obtain⟨bm,HBM⟩:∃m,Hid (mrk s ct (b.drop a)=m):=⟨_,Hd rfl⟩;rw[HBM.out]at HSH HCR;clear hrb hry;generalize (b.drop a).length=ln at cr HSH
      go_wp2_with fail
      refine HSH.out.mono ?_;rintro e W8 ⟨rfl,hb8⟩;have HC8:=Hd (HC7.out.next hb8);have HJ8:=Hd (HJ7.out.below' hb8);have HPL8:=Hd (HPL7.out.below' hb8);have HZ8:=Hd HC8.out.z;clear hb8 HSH c0 c1 cr HC7 HJ7 HPL7 HZ7 HRR7 HTC7;cases bm with
      |true=>
       have HCK:Hid (ckw s b=(0,⟨true,ct,p⟩)):=by show _=_;rw[HCR.out,if_neg (by simp)]
       go_wp2_with (first|(refine wpList_loadJ rfl _ rfl cb rfl HJ8.out ?_)|(refine wpList_storeJ rfl _ _ rfl (w.heap.size+1) rfl rfl HZ8.out ?_))
       intro W9 hk9 hg9;have HG9:=Hd hg9;have HB9:=Hd (hk9.below HC8.out.bel HC8.out.bel.size (fun i hi e=>by omega));have HRL9:Hid (RL (fun g=>w.heap.size≤g) W9 (.slice ap p.length kp) p):=(HPL8.out.keep hk9.size fun g hg hlt=>hk9.block g hlt (fun e=>by omega)).mono fun g hg _ _=>by omega
       clear hk9 hg9 HZ8 HC8 HJ8 HPL8;go_wp2;exact bodyPost_ret (retJ2 Tryz.results70 rfl rfl HG9.out) rfl (CkP.yes HCK.out HB9.out HRL9.out)
      |false=>
       have HCK:Hid (ckw s b=(10,clm0)):=by show _=_;rw[HCR.out,if_pos (by simp)]
       go_wp2_with (refine wpList_storeJ rfl _ _ rfl (w.heap.size+1) rfl rfl HZ8.out ?_)
       intro W9 hk9 hg9;have HG9:=Hd hg9;have HB9:=Hd (hk9.below HC8.out.bel HC8.out.bel.size (fun i hi e=>by omega));clear hk9 hg9 HZ8 HC8;go_wp2;exact bodyPost_ret (retJ2 Tryz.results70 rfl rfl HG9.out) rfl (CkP.no HCK.out HB9.out)
    ·have hcz:(ct !=co)=true:=by simpa using hct
     have HCK:Hid (ckw s b=(10,clm0)):=by show _=_;rw[HCR.out,if_neg hct]
     go_wp2_with (refine wpList_storeJ rfl _ _ rfl (w.heap.size+1) rfl rfl HZ7.out ?_)
     intro W9 hk9 hg9;have HG9:=Hd hg9;have HB9:=Hd (hk9.below HC7.out.bel HC7.out.bel.size (fun i hi e=>by omega));clear hk9 hg9 HZ7 HC7;go_wp2;exact bodyPost_ret (retJ2 Tryz.results70 rfl rfl HG9.out) rfl (CkP.no HCK.out HB9.out)
section
variable {s:Sn} {B:Nat}
theorem vis_m2:∀(f k:Nat) (b:List (List Int)) (st:List Bool) (x:Sx),(∀m∈x.marks,m≤2)→∀m∈(vis s B f k b st x).marks,m≤2
 |0,_,_,_,_,h=>h
 |f+1,k,b,st,x,h=>by
  show∀m∈(vst s B (vis s B f) k b st x).marks,m≤2
  have hs:∀(n:Nat),n≤2→∀m∈x.marks++[n],m≤2:=fun n hn m hm=>by
   rw[List.mem_append,List.mem_singleton]at hm;rcases hm with hm|hm
   ·exact h m hm
   ·omega
  unfold vst;by_cases h1:x.ended=true
  ·rw[if_pos h1];exact h
  ·rw[if_neg h1];by_cases h2:x.nodes=B
   ·rw[if_pos h2];exact h
   ·rw[if_neg h2];by_cases h3:lfs s st=[]
    ·rw[if_pos h3];by_cases h4:RM.cst s.st s.ws s.cs b<x.cost
     ·rw[if_pos h4];exact hs 2 (by omega)
     ·rw[if_neg h4];exact hs 2 (by omega)
    ·rw[if_neg h3];by_cases h5:x.cost≤lsv s k b st
     ·rw[if_pos h5];exact hs 0 (by omega)
     ·rw[if_neg h5];have hk:=kids_rel (s:=s) (R:=fun x y=>(∀m∈x.marks,m≤2)→∀m∈y.marks,m≤2) (fun _ h=>h) (fun _ _ _ h g e=>g (h e)) (go:=vis s B f) (k:=k) (b:=b) (st:=st) (lfs s st) (fun w _ _ y=>vis_m2 f k _ _ y) ⟨x.nodes+1,false,x.plan,x.cost,x.marks++[1]⟩ (hs 1 (by omega));unfold nxt;split
      ·exact vis_m2 f (k+1) b st _ hk
      ·exact hk
theorem bek_byt(n:Int):∀k,Byt (bek n k)
 |0=>fun x hx=>by simp[bek]at hx
 |k+1=>fun x hx=>by
  rcases List.mem_cons.1 (show x∈((n/256^k)%256).toNat::bek n k from hx)with hx|hx
  ·have h1:0≤n/256^k%256:=Int.emod_nonneg _ (by decide);have h2:n/256^k%256<256:=Int.emod_lt_of_pos _ (by decide);omega
  ·exact bek_byt n k x hx
theorem prl_byt{p:List (List Int)}(h:∀l∈p,l.length≤128∧∀z∈l,0≤z∧z<128):Byt (prl p):=fun x hx=>by
 unfold prl at hx;rw[List.mem_flatMap]at hx;obtain⟨l,hl,hx⟩:=hx;have:=h l hl;rcases List.mem_cons.1 hx with hx|hx
 ·omega
 ·obtain⟨z,hz,rfl⟩:=List.mem_map.1 hx;have:=this.2 z hz;omega
theorem Byt.append{l m:List Nat}(h:Byt l)(g:Byt m):Byt (l++m):=fun x hx=>(List.mem_append.1 hx).elim (h x) (g x)
theorem hdb_byt{e:Bool}{c:Int}{p:List (List Int)}(h:∀l∈p,l.length≤128∧∀z∈l,0≤z∧z<128):Byt (hdb e c p):=fun x hx=>by
 unfold hdb at hx;rcases List.mem_cons.1 hx with hx|hx
 ·cases e<;>simp at hx<;>omega
 ·exact(bek_byt c 8).append (prl_byt h) x hx
theorem fnd_marks:Byt (fnd s B).marks:=fun x hx=>by
 have:=vis_m2 (s:=s) (B:=B) (s.cs.length+s.ws.length) 0 _ _ (root s) (fun m hm=>by simp[root]at hm) x hx;omega
theorem prf_byt(hr:rgt s=true):Byt (prf (fnd s B)):=by
 rw[prf_eq];refine (hdb_byt (fnd_bd hr).2.2.1).append ?_;split
 ·exact fun x hx=>by simp at hx
 ·exact fnd_marks
theorem ckw_find(hr:rgt s=true):ckw s (prf (fnd s B))=(0,⟨!(fnd s B).ended,(fnd s B).cost,(fnd s B).plan⟩):=by
 have hok:=fnd_ok hr B;have hbd:=fnd_bd (B:=B) hr;rw[prf_eq,ckw_hdb hr hok.fe hok.co hbd.1.1 (by have:=hbd.1.2;omega) _ (fun e=>by rw[if_pos e]),if_neg];rintro⟨h1,h2⟩;rw[if_neg (by rw[h1];simp),mrk_find hr h1]at h2;cases h2
end
end Go.Proofs.YtnkelgdnglaafaaGreat
