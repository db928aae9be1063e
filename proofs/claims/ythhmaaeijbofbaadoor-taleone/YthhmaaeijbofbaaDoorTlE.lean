/- The event of a kind whose line has these numbers. -/
import Derived.Test.YthhmaaeijbofbaaDoorTlB
import Derived.RegionTactic
import Derived.BigRegion
import Derived.ChangeAlike
namespace Go.Proofs.YthhmaaeijbofbaaDoor
open Go.RowKit

/-- the event of a kind with these numbers -/
def mk (k t0 t1 t2 : Int) : TM.Ev :=
  if k = 1 then ⟨1, 0, 0, false, t0, t1, 0, t2 == 1⟩
  else if k = 2 then ⟨2, t0, t1, t2 == 1, 0, 0, 0, false⟩
  else if k = 3 then ⟨3, t0, 0, false, 0, 0, 0, false⟩
  else if k = 4 then ⟨4, t0, 0, false, 0, 0, 0, false⟩
  else if k = 5 then ⟨5, t0, 0, false, 0, 0, 0, false⟩
  else if k = 6 then ⟨6, t0, 0, t1 == 1, 0, 0, 0, false⟩
  else if k = 7 then ⟨7, t0, 0, t1 == 1, 0, 0, 0, false⟩
  else ⟨k, 0, 0, false, 0, 0, 0, false⟩
/-- three numbers, what is handed back, and the event that is made -/
structure Az (w W : World) (t0 t1 t2 : Int) (x z : TM.Ev) : Prop where
  ab : W.heap[w.heap.size]? = some (.cells #[.int .i64 t0, .int .i64 t1, .int .i64 t2] 40 (0, 0))
  zb : EB W (w.heap.size + 1) z
  xb : EB W (w.heap.size + 1 + 1) x
  be : Below w.heap.size w W
section
variable {w W W' : World} {t0 t1 t2 : Int} {x z : TM.Ev}
theorem Az.num (h : Az w W t0 t1 t2 x z) (i : Nat) : W.cell? ⟨w.heap.size, i, none⟩ = (#[.int .i64 t0, .int .i64 t1, .int .i64 t2] : Array Value)[i]? := by simp [World.cell?, h.ab]
theorem Az.set (h : Az w W t0 t1 t2 x z) (i : Nat) (v : Value) {x' : TM.Ev} (he : (ev x).setIfInBounds i v = ev x') : Az w (W.setCell ⟨w.heap.size + 1 + 1, i, none⟩ v) t0 t1 t2 x' z :=
  ⟨(Below.heap_setCell W ⟨w.heap.size + 1 + 1, i, none⟩ v w.heap.size (by show w.heap.size ≠ w.heap.size + 1 + 1; omega)).trans h.ab, h.zb.other v (by omega), by have := heap_setCell_same W _ i _ _ v h.xb; rw [show (#[Value.int .i64 x.ki, .int .i64 x.a, .int .i64 x.b, .bool x.on, .int .i64 x.fl, .int .i64 x.ca, .int .i64 x.ag, .bool x.up] : Array Value) = ev x from rfl, he] at this; exact this, h.be.setCell (by show _ ≤ w.heap.size + 1 + 1; omega) _⟩
theorem Az.drew (h : Az w W t0 t1 t2 x z) : Az w W.drew t0 t1 t2 x z := ⟨h.ab, h.zb, h.xb, h.be.drew⟩
theorem Az.there (h : Az w W t0 t1 t2 x z) : W.there (w.heap.size + 1 + 1) 4 4 := fun j hj => by
  refine ⟨?_, h.xb.fr _⟩
  have h4 : j = 0 ∨ j = 1 ∨ j = 2 ∨ j = 3 := by omega
  rcases h4 with rfl | rfl | rfl | rfl <;> (rw [h.xb.cell]; rfl)
theorem Az.back {z' : TM.Ev} (h : Az w W t0 t1 t2 x z) (hk : ∀ k, k ≠ w.heap.size + 1 → W'.heap[k]? = W.heap[k]?) (hb : Below (w.heap.size + 1) W W') (hz : EB W' (w.heap.size + 1) z') : Az w W' t0 t1 t2 x z' :=
  ⟨(hk _ (by omega)).trans h.ab, hz, (hk _ (by omega)).trans h.xb, h.be.trans ⟨hb.os, hb.tape, hb.output, hb.size, fun k hk' => hb.block k (by omega)⟩⟩
theorem Az.start (w : World) (k t0 t1 t2 : Int) : Az w (((w.alloc (.cells #[.int .i64 t0, .int .i64 t1, .int .i64 t2] 40)).alloc (.cells #[.int .i64 0, .int .i64 0, .int .i64 0, .bool false, .int .i64 0, .int .i64 0, .int .i64 0, .bool false] 25)).alloc (.cells #[.int .i64 k, .int .i64 0, .int .i64 0, .bool false, .int .i64 0, .int .i64 0, .int .i64 0, .bool false] 25)) t0 t1 t2 ⟨k, 0, 0, false, 0, 0, 0, false⟩ ez := by
  have b0 := (Below.refl w.heap.size w).alloc (Nat.le_refl _) (.cells #[.int .i64 t0, .int .i64 t1, .int .i64 t2] 40)
  have b1 := (Below.refl _ (w.alloc (.cells #[.int .i64 t0, .int .i64 t1, .int .i64 t2] 40))).alloc (Nat.le_refl _) (.cells #[.int .i64 0, .int .i64 0, .int .i64 0, .bool false, .int .i64 0, .int .i64 0, .int .i64 0, .bool false] 25)
  have b2 := (Below.refl _ ((w.alloc (.cells #[.int .i64 t0, .int .i64 t1, .int .i64 t2] 40)).alloc (.cells #[.int .i64 0, .int .i64 0, .int .i64 0, .bool false, .int .i64 0, .int .i64 0, .int .i64 0, .bool false] 25))).alloc (Nat.le_refl _) (.cells #[.int .i64 k, .int .i64 0, .int .i64 0, .bool false, .int .i64 0, .int .i64 0, .int .i64 0, .bool false] 25)
  have s0 : (w.alloc (.cells #[.int .i64 t0, .int .i64 t1, .int .i64 t2] 40)).heap.size = w.heap.size + 1 := by simp
  have s1 : ((w.alloc (.cells #[.int .i64 t0, .int .i64 t1, .int .i64 t2] 40)).alloc (.cells #[.int .i64 0, .int .i64 0, .int .i64 0, .bool false, .int .i64 0, .int .i64 0, .int .i64 0, .bool false] 25)).heap.size = w.heap.size + 1 + 1 := by simp
  have e1 : EB ((w.alloc (.cells #[.int .i64 t0, .int .i64 t1, .int .i64 t2] 40)).alloc (.cells #[.int .i64 0, .int .i64 0, .int .i64 0, .bool false, .int .i64 0, .int .i64 0, .int .i64 0, .bool false] 25)) (w.heap.size + 1) ez := by have := EB.new (w.alloc (.cells #[.int .i64 t0, .int .i64 t1, .int .i64 t2] 40)) ez; rwa [s0] at this
  have e2 : EB (((w.alloc (.cells #[.int .i64 t0, .int .i64 t1, .int .i64 t2] 40)).alloc (.cells #[.int .i64 0, .int .i64 0, .int .i64 0, .bool false, .int .i64 0, .int .i64 0, .int .i64 0, .bool false] 25)).alloc (.cells #[.int .i64 k, .int .i64 0, .int .i64 0, .bool false, .int .i64 0, .int .i64 0, .int .i64 0, .bool false] 25)) (w.heap.size + 1 + 1) ⟨k, 0, 0, false, 0, 0, 0, false⟩ := by have := EB.new ((w.alloc (.cells #[.int .i64 t0, .int .i64 t1, .int .i64 t2] 40)).alloc (.cells #[.int .i64 0, .int .i64 0, .int .i64 0, .bool false, .int .i64 0, .int .i64 0, .int .i64 0, .bool false] 25)) ⟨k, 0, 0, false, 0, 0, 0, false⟩; rwa [s1] at this
  refine ⟨?_, e1.below' b2, e2, (b0.alloc (by rw [s0]; omega) _).alloc (by rw [s1]; omega) _⟩
  rw [b2.block _ (by rw [s1]; omega), b1.block _ (by rw [s0]; omega)]
  exact World.alloc_heap_new w _
end
set_option maxRecDepth 100000 in
set_option maxHeartbeats 4000000 in
theorem event_any (k t0 t1 t2 : Int) (hk : 1 ≤ k ∧ k ≤ 8) (w : World) : Calls Tryd.prog 16 #[.int .i64 k, .agg #[.int .i64 t0, .int .i64 t1, .int .i64 t2]] w fun r w' => r = .returned (.agg (ev (mk k t0 t1 t2))) ∧ Below w.heap.size w w' := by
  have hk8 : k = 1 ∨ k = 2 ∨ k = 3 ∨ k = 4 ∨ k = 5 ∨ k = 6 ∨ k = 7 ∨ k = 8 := by omega
  clear hk
  rcases hk8 with rfl | rfl | rfl | rfl | rfl | rfl | rfl | rfl
  · have HT0 := Hid.mk' (Az.start w 1 t0 t1 t2)
    go_enter Tryd.func16, Tryd.ntmps16
    go_upto_region 2 with fail
    generalize (((w.alloc (.cells #[.int .i64 t0, .int .i64 t1, .int .i64 t2] 40)).alloc (.cells #[.int .i64 0, .int .i64 0, .int .i64 0, .bool false, .int .i64 0, .int .i64 0, .int .i64 0, .bool false] 25)).alloc (.cells #[.int .i64 1, .int .i64 0, .int .i64 0, .bool false, .int .i64 0, .int .i64 0, .int .i64 0, .bool false] 25)) = V at HT0 ⊢
    have m0 : V.cell? ⟨w.heap.size, 0, none⟩ = some (.int .i64 t0) := HT0.out.num 0
    have m1 : V.cell? ⟨w.heap.size, 1, none⟩ = some (.int .i64 t1) := HT0.out.num 1
    have m2 : V.cell? ⟨w.heap.size, 2, none⟩ = some (.int .i64 t2) := HT0.out.num 2
    have HTH := Hid.mk' HT0.out.there
    have HT1 : Hid (Az w (V.setCells (w.heap.size + 1 + 1) 4 [.int .i64 t0, .int .i64 t1, .int .i64 0, .bool (t2 == 1)]) t0 t1 t2 ⟨1, 0, 0, false, t0, t1, 0, t2 == 1⟩ ez) := by
      have h := HT0.out
      exact (((h.set 4 (.int .i64 t0) (x' := ⟨1, 0, 0, false, t0, 0, 0, false⟩) rfl).set 5 (.int .i64 t1) (x' := ⟨1, 0, 0, false, t0, t1, 0, false⟩) rfl).set 6 (.int .i64 0) (x' := ⟨1, 0, 0, false, t0, t1, 0, false⟩) rfl).set 7 (.bool (t2 == 1)) rfl
    go_upto_region 14 with (refine wpList_store_mid rfl 23 _ _ rfl (w.heap.size + 1 + 1) 4 _ rfl rfl HTH.out infoCE (by simp [Value.oneCell']) ?_)
    clear HTH m0 m1 m2 HT0
    change Code.wp _ _ _ _ (V.setCells (w.heap.size + 1 + 1) 4 [.int .i64 t0, .int .i64 t1, .int .i64 0, .bool (t2 == 1)])
    generalize V.setCells (w.heap.size + 1 + 1) 4 [.int .i64 t0, .int .i64 t1, .int .i64 0, .bool (t2 == 1)] = V1 at HT1 ⊢
    go_wp2_with (first | (refine wpList_loadE rfl _ rfl _ rfl HT1.out.xb ?_) | (refine wpList_storeE (c' := ⟨1, 0, 0, false, t0, t1, 0, t2 == 1⟩) rfl _ _ rfl _ rfl rfl HT1.out.zb ?_))
    intro W9 hk9 hb9 _ hz9
    have HT9 := Hid.mk' (HT1.out.back hk9 hb9 hz9)
    clear hk9 hb9 hz9 HT1
    go_wp2
    exact bodyPost_ret (retE Tryd.results16 rfl HT9.out.zb) rfl ⟨rfl, HT9.out.be⟩
  · have HT0 := Hid.mk' (Az.start w 2 t0 t1 t2)
    go_enter Tryd.func16, Tryd.ntmps16
    go_upto_region 2 with fail
    generalize (((w.alloc (.cells #[.int .i64 t0, .int .i64 t1, .int .i64 t2] 40)).alloc (.cells #[.int .i64 0, .int .i64 0, .int .i64 0, .bool false, .int .i64 0, .int .i64 0, .int .i64 0, .bool false] 25)).alloc (.cells #[.int .i64 2, .int .i64 0, .int .i64 0, .bool false, .int .i64 0, .int .i64 0, .int .i64 0, .bool false] 25)) = V at HT0 ⊢
    have m0 : V.cell? ⟨w.heap.size, 0, none⟩ = some (.int .i64 t0) := HT0.out.num 0
    have m1 : V.cell? ⟨w.heap.size, 1, none⟩ = some (.int .i64 t1) := HT0.out.num 1
    have m2 : V.cell? ⟨w.heap.size, 2, none⟩ = some (.int .i64 t2) := HT0.out.num 2
    have c1 : V.cell? ⟨w.heap.size + 1 + 1, 1, none⟩ = some (.int .i64 0) := HT0.out.xb.cell 1
    have f1 := HT0.out.xb.fr 1
    have c2 : V.cell? ⟨w.heap.size + 1 + 1, 2, none⟩ = some (.int .i64 0) := HT0.out.xb.cell 2
    have f2 := HT0.out.xb.fr 2
    have c3 : V.cell? ⟨w.heap.size + 1 + 1, 3, none⟩ = some (.bool false) := HT0.out.xb.cell 3
    have f3 := HT0.out.xb.fr 3
    have HT1 : Hid (Az w (((V.setCell ⟨w.heap.size + 1 + 1, 1, none⟩ (.int .i64 t0)).setCell ⟨w.heap.size + 1 + 1, 2, none⟩ (.int .i64 t1)).setCell ⟨w.heap.size + 1 + 1, 3, none⟩ (.bool (t2 == 1))).drew t0 t1 t2 ⟨2, t0, t1, t2 == 1, 0, 0, 0, false⟩ ez) := (((HT0.out.set 1 (.int .i64 t0) (x' := ⟨2, t0, 0, false, 0, 0, 0, false⟩) rfl).set 2 (.int .i64 t1) (x' := ⟨2, t0, t1, false, 0, 0, 0, false⟩) rfl).set 3 (.bool (t2 == 1)) (x' := ⟨2, t0, t1, t2 == 1, 0, 0, 0, false⟩) rfl).drew
    go_wp2
    go_region
    clear m0 m1 m2 c1 f1 c2 f2 c3 f3 HT0
    generalize (((V.setCell ⟨w.heap.size + 1 + 1, 1, none⟩ (.int .i64 t0)).setCell ⟨w.heap.size + 1 + 1, 2, none⟩ (.int .i64 t1)).setCell ⟨w.heap.size + 1 + 1, 3, none⟩ (.bool (t2 == 1))).drew = V1 at HT1 ⊢
    go_wp2_with (first | (refine wpList_loadE rfl _ rfl _ rfl HT1.out.xb ?_) | (refine wpList_storeE (c' := ⟨2, t0, t1, t2 == 1, 0, 0, 0, false⟩) rfl _ _ rfl _ rfl rfl HT1.out.zb ?_))
    intro W9 hk9 hb9 _ hz9
    have HT9 := Hid.mk' (HT1.out.back hk9 hb9 hz9)
    clear hk9 hb9 hz9 HT1
    go_wp2
    exact bodyPost_ret (retE Tryd.results16 rfl HT9.out.zb) rfl ⟨rfl, HT9.out.be⟩
  · have HT0 := Hid.mk' (Az.start w 3 t0 t1 t2)
    go_enter Tryd.func16, Tryd.ntmps16
    go_upto_region 2 with fail
    generalize (((w.alloc (.cells #[.int .i64 t0, .int .i64 t1, .int .i64 t2] 40)).alloc (.cells #[.int .i64 0, .int .i64 0, .int .i64 0, .bool false, .int .i64 0, .int .i64 0, .int .i64 0, .bool false] 25)).alloc (.cells #[.int .i64 3, .int .i64 0, .int .i64 0, .bool false, .int .i64 0, .int .i64 0, .int .i64 0, .bool false] 25)) = V at HT0 ⊢
    have m0 : V.cell? ⟨w.heap.size, 0, none⟩ = some (.int .i64 t0) := HT0.out.num 0
    have m1 : V.cell? ⟨w.heap.size, 1, none⟩ = some (.int .i64 t1) := HT0.out.num 1
    have m2 : V.cell? ⟨w.heap.size, 2, none⟩ = some (.int .i64 t2) := HT0.out.num 2
    have c1 : V.cell? ⟨w.heap.size + 1 + 1, 1, none⟩ = some (.int .i64 0) := HT0.out.xb.cell 1
    have f1 := HT0.out.xb.fr 1
    have HT1 : Hid (Az w (V.setCell ⟨w.heap.size + 1 + 1, 1, none⟩ (.int .i64 t0)) t0 t1 t2 ⟨3, t0, 0, false, 0, 0, 0, false⟩ ez) := (HT0.out.set 1 (.int .i64 t0) (x' := ⟨3, t0, 0, false, 0, 0, 0, false⟩) rfl)
    go_upto_region 14 with fail
    clear m0 m1 m2 c1 f1 HT0
    generalize V.setCell ⟨w.heap.size + 1 + 1, 1, none⟩ (.int .i64 t0) = V1 at HT1 ⊢
    go_wp2_with (first | (refine wpList_loadE rfl _ rfl _ rfl HT1.out.xb ?_) | (refine wpList_storeE (c' := ⟨3, t0, 0, false, 0, 0, 0, false⟩) rfl _ _ rfl _ rfl rfl HT1.out.zb ?_))
    intro W9 hk9 hb9 _ hz9
    have HT9 := Hid.mk' (HT1.out.back hk9 hb9 hz9)
    clear hk9 hb9 hz9 HT1
    go_wp2
    exact bodyPost_ret (retE Tryd.results16 rfl HT9.out.zb) rfl ⟨rfl, HT9.out.be⟩
  · have HT0 := Hid.mk' (Az.start w 4 t0 t1 t2)
    go_enter Tryd.func16, Tryd.ntmps16
    go_upto_region 2 with fail
    generalize (((w.alloc (.cells #[.int .i64 t0, .int .i64 t1, .int .i64 t2] 40)).alloc (.cells #[.int .i64 0, .int .i64 0, .int .i64 0, .bool false, .int .i64 0, .int .i64 0, .int .i64 0, .bool false] 25)).alloc (.cells #[.int .i64 4, .int .i64 0, .int .i64 0, .bool false, .int .i64 0, .int .i64 0, .int .i64 0, .bool false] 25)) = V at HT0 ⊢
    have m0 : V.cell? ⟨w.heap.size, 0, none⟩ = some (.int .i64 t0) := HT0.out.num 0
    have m1 : V.cell? ⟨w.heap.size, 1, none⟩ = some (.int .i64 t1) := HT0.out.num 1
    have m2 : V.cell? ⟨w.heap.size, 2, none⟩ = some (.int .i64 t2) := HT0.out.num 2
    have c1 : V.cell? ⟨w.heap.size + 1 + 1, 1, none⟩ = some (.int .i64 0) := HT0.out.xb.cell 1
    have f1 := HT0.out.xb.fr 1
    have HT1 : Hid (Az w (V.setCell ⟨w.heap.size + 1 + 1, 1, none⟩ (.int .i64 t0)) t0 t1 t2 ⟨4, t0, 0, false, 0, 0, 0, false⟩ ez) := (HT0.out.set 1 (.int .i64 t0) (x' := ⟨4, t0, 0, false, 0, 0, 0, false⟩) rfl)
    go_upto_region 14 with fail
    clear m0 m1 m2 c1 f1 HT0
    generalize V.setCell ⟨w.heap.size + 1 + 1, 1, none⟩ (.int .i64 t0) = V1 at HT1 ⊢
    go_wp2_with (first | (refine wpList_loadE rfl _ rfl _ rfl HT1.out.xb ?_) | (refine wpList_storeE (c' := ⟨4, t0, 0, false, 0, 0, 0, false⟩) rfl _ _ rfl _ rfl rfl HT1.out.zb ?_))
    intro W9 hk9 hb9 _ hz9
    have HT9 := Hid.mk' (HT1.out.back hk9 hb9 hz9)
    clear hk9 hb9 hz9 HT1
    go_wp2
    exact bodyPost_ret (retE Tryd.results16 rfl HT9.out.zb) rfl ⟨rfl, HT9.out.be⟩
  · have HT0 := Hid.mk' (Az.start w 5 t0 t1 t2)
    go_enter Tryd.func16, Tryd.ntmps16
    go_upto_region 2 with fail
    generalize (((w.alloc (.cells #[.int .i64 t0, .int .i64 t1, .int .i64 t2] 40)).alloc (.cells #[.int .i64 0, .int .i64 0, .int .i64 0, .bool false, .int .i64 0, .int .i64 0, .int .i64 0, .bool false] 25)).alloc (.cells #[.int .i64 5, .int .i64 0, .int .i64 0, .bool false, .int .i64 0, .int .i64 0, .int .i64 0, .bool false] 25)) = V at HT0 ⊢
    have m0 : V.cell? ⟨w.heap.size, 0, none⟩ = some (.int .i64 t0) := HT0.out.num 0
    have m1 : V.cell? ⟨w.heap.size, 1, none⟩ = some (.int .i64 t1) := HT0.out.num 1
    have m2 : V.cell? ⟨w.heap.size, 2, none⟩ = some (.int .i64 t2) := HT0.out.num 2
    have c1 : V.cell? ⟨w.heap.size + 1 + 1, 1, none⟩ = some (.int .i64 0) := HT0.out.xb.cell 1
    have f1 := HT0.out.xb.fr 1
    have HT1 : Hid (Az w (V.setCell ⟨w.heap.size + 1 + 1, 1, none⟩ (.int .i64 t0)) t0 t1 t2 ⟨5, t0, 0, false, 0, 0, 0, false⟩ ez) := (HT0.out.set 1 (.int .i64 t0) (x' := ⟨5, t0, 0, false, 0, 0, 0, false⟩) rfl)
    go_upto_region 14 with fail
    clear m0 m1 m2 c1 f1 HT0
    generalize V.setCell ⟨w.heap.size + 1 + 1, 1, none⟩ (.int .i64 t0) = V1 at HT1 ⊢
    go_wp2_with (first | (refine wpList_loadE rfl _ rfl _ rfl HT1.out.xb ?_) | (refine wpList_storeE (c' := ⟨5, t0, 0, false, 0, 0, 0, false⟩) rfl _ _ rfl _ rfl rfl HT1.out.zb ?_))
    intro W9 hk9 hb9 _ hz9
    have HT9 := Hid.mk' (HT1.out.back hk9 hb9 hz9)
    clear hk9 hb9 hz9 HT1
    go_wp2
    exact bodyPost_ret (retE Tryd.results16 rfl HT9.out.zb) rfl ⟨rfl, HT9.out.be⟩
  · have HT0 := Hid.mk' (Az.start w 6 t0 t1 t2)
    go_enter Tryd.func16, Tryd.ntmps16
    go_upto_region 2 with fail
    generalize (((w.alloc (.cells #[.int .i64 t0, .int .i64 t1, .int .i64 t2] 40)).alloc (.cells #[.int .i64 0, .int .i64 0, .int .i64 0, .bool false, .int .i64 0, .int .i64 0, .int .i64 0, .bool false] 25)).alloc (.cells #[.int .i64 6, .int .i64 0, .int .i64 0, .bool false, .int .i64 0, .int .i64 0, .int .i64 0, .bool false] 25)) = V at HT0 ⊢
    have m0 : V.cell? ⟨w.heap.size, 0, none⟩ = some (.int .i64 t0) := HT0.out.num 0
    have m1 : V.cell? ⟨w.heap.size, 1, none⟩ = some (.int .i64 t1) := HT0.out.num 1
    have m2 : V.cell? ⟨w.heap.size, 2, none⟩ = some (.int .i64 t2) := HT0.out.num 2
    have c1 : V.cell? ⟨w.heap.size + 1 + 1, 1, none⟩ = some (.int .i64 0) := HT0.out.xb.cell 1
    have f1 := HT0.out.xb.fr 1
    have c3 : V.cell? ⟨w.heap.size + 1 + 1, 3, none⟩ = some (.bool false) := HT0.out.xb.cell 3
    have f3 := HT0.out.xb.fr 3
    have HT1 : Hid (Az w ((V.setCell ⟨w.heap.size + 1 + 1, 1, none⟩ (.int .i64 t0)).setCell ⟨w.heap.size + 1 + 1, 3, none⟩ (.bool (t1 == 1))).drew t0 t1 t2 ⟨6, t0, 0, t1 == 1, 0, 0, 0, false⟩ ez) := ((HT0.out.set 1 (.int .i64 t0) (x' := ⟨6, t0, 0, false, 0, 0, 0, false⟩) rfl).set 3 (.bool (t1 == 1)) (x' := ⟨6, t0, 0, t1 == 1, 0, 0, 0, false⟩) rfl).drew
    go_wp2
    go_region
    clear m0 m1 m2 c1 f1 c3 f3 HT0
    generalize ((V.setCell ⟨w.heap.size + 1 + 1, 1, none⟩ (.int .i64 t0)).setCell ⟨w.heap.size + 1 + 1, 3, none⟩ (.bool (t1 == 1))).drew = V1 at HT1 ⊢
    go_wp2_with (first | (refine wpList_loadE rfl _ rfl _ rfl HT1.out.xb ?_) | (refine wpList_storeE (c' := ⟨6, t0, 0, t1 == 1, 0, 0, 0, false⟩) rfl _ _ rfl _ rfl rfl HT1.out.zb ?_))
    intro W9 hk9 hb9 _ hz9
    have HT9 := Hid.mk' (HT1.out.back hk9 hb9 hz9)
    clear hk9 hb9 hz9 HT1
    go_wp2
    exact bodyPost_ret (retE Tryd.results16 rfl HT9.out.zb) rfl ⟨rfl, HT9.out.be⟩
  · have HT0 := Hid.mk' (Az.start w 7 t0 t1 t2)
    go_enter Tryd.func16, Tryd.ntmps16
    go_upto_region 2 with fail
    generalize (((w.alloc (.cells #[.int .i64 t0, .int .i64 t1, .int .i64 t2] 40)).alloc (.cells #[.int .i64 0, .int .i64 0, .int .i64 0, .bool false, .int .i64 0, .int .i64 0, .int .i64 0, .bool false] 25)).alloc (.cells #[.int .i64 7, .int .i64 0, .int .i64 0, .bool false, .int .i64 0, .int .i64 0, .int .i64 0, .bool false] 25)) = V at HT0 ⊢
    have m0 : V.cell? ⟨w.heap.size, 0, none⟩ = some (.int .i64 t0) := HT0.out.num 0
    have m1 : V.cell? ⟨w.heap.size, 1, none⟩ = some (.int .i64 t1) := HT0.out.num 1
    have m2 : V.cell? ⟨w.heap.size, 2, none⟩ = some (.int .i64 t2) := HT0.out.num 2
    have c1 : V.cell? ⟨w.heap.size + 1 + 1, 1, none⟩ = some (.int .i64 0) := HT0.out.xb.cell 1
    have f1 := HT0.out.xb.fr 1
    have c3 : V.cell? ⟨w.heap.size + 1 + 1, 3, none⟩ = some (.bool false) := HT0.out.xb.cell 3
    have f3 := HT0.out.xb.fr 3
    have HT1 : Hid (Az w ((V.setCell ⟨w.heap.size + 1 + 1, 1, none⟩ (.int .i64 t0)).setCell ⟨w.heap.size + 1 + 1, 3, none⟩ (.bool (t1 == 1))).drew t0 t1 t2 ⟨7, t0, 0, t1 == 1, 0, 0, 0, false⟩ ez) := ((HT0.out.set 1 (.int .i64 t0) (x' := ⟨7, t0, 0, false, 0, 0, 0, false⟩) rfl).set 3 (.bool (t1 == 1)) (x' := ⟨7, t0, 0, t1 == 1, 0, 0, 0, false⟩) rfl).drew
    go_wp2
    go_region
    clear m0 m1 m2 c1 f1 c3 f3 HT0
    generalize ((V.setCell ⟨w.heap.size + 1 + 1, 1, none⟩ (.int .i64 t0)).setCell ⟨w.heap.size + 1 + 1, 3, none⟩ (.bool (t1 == 1))).drew = V1 at HT1 ⊢
    go_wp2_with (first | (refine wpList_loadE rfl _ rfl _ rfl HT1.out.xb ?_) | (refine wpList_storeE (c' := ⟨7, t0, 0, t1 == 1, 0, 0, 0, false⟩) rfl _ _ rfl _ rfl rfl HT1.out.zb ?_))
    intro W9 hk9 hb9 _ hz9
    have HT9 := Hid.mk' (HT1.out.back hk9 hb9 hz9)
    clear hk9 hb9 hz9 HT1
    go_wp2
    exact bodyPost_ret (retE Tryd.results16 rfl HT9.out.zb) rfl ⟨rfl, HT9.out.be⟩
  · have HT0 := Hid.mk' (Az.start w 8 t0 t1 t2)
    go_enter Tryd.func16, Tryd.ntmps16
    go_upto_region 2 with fail
    generalize (((w.alloc (.cells #[.int .i64 t0, .int .i64 t1, .int .i64 t2] 40)).alloc (.cells #[.int .i64 0, .int .i64 0, .int .i64 0, .bool false, .int .i64 0, .int .i64 0, .int .i64 0, .bool false] 25)).alloc (.cells #[.int .i64 8, .int .i64 0, .int .i64 0, .bool false, .int .i64 0, .int .i64 0, .int .i64 0, .bool false] 25)) = V at HT0 ⊢
    have m0 : V.cell? ⟨w.heap.size, 0, none⟩ = some (.int .i64 t0) := HT0.out.num 0
    have m1 : V.cell? ⟨w.heap.size, 1, none⟩ = some (.int .i64 t1) := HT0.out.num 1
    have m2 : V.cell? ⟨w.heap.size, 2, none⟩ = some (.int .i64 t2) := HT0.out.num 2
    clear m0 m1 m2
    have HT1 := HT0
    clear HT0
    go_wp2_with (first | (refine wpList_loadE rfl _ rfl _ rfl HT1.out.xb ?_) | (refine wpList_storeE (c' := ⟨8, 0, 0, false, 0, 0, 0, false⟩) rfl _ _ rfl _ rfl rfl HT1.out.zb ?_))
    intro W9 hk9 hb9 _ hz9
    have HT9 := Hid.mk' (HT1.out.back hk9 hb9 hz9)
    clear hk9 hb9 hz9 HT1
    go_wp2
    exact bodyPost_ret (retE Tryd.results16 rfl HT9.out.zb) rfl ⟨rfl, HT9.out.be⟩
end Go.Proofs.YthhmaaeijbofbaaDoor
