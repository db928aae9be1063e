/- RuleOldest: the walk. -/
import Derived.Test.YtdfdkddjkhcgdaiRuT
import Derived.Test.YtdfdkddjkhcgdaiRuO
import Derived.Test.YtdfdkddjkhcgdaiRuS
namespace Go.Proofs.Ytdfdkddjkhcgdai
open Go.RowKit Go.Shelf

set_option maxRecDepth 100000 in
set_option maxHeartbeats 4000000 in
theorem RuleOldest_any (D : Nat → Prop) (v : Value) (L : List Ca) (car age : Int) (w : World) (h : RC D w v L) :
    Calls Try.prog 3 #[v, .int .i64 car, .int .i64 age] w fun e w' => e = .returned (.bool true) ∧ Below w.heap.size w w' := by
  obtain ⟨av, kv, rfl, _⟩ := h.form
  have hb0 := (Below.refl w.heap.size w).alloc (Nat.le_refl _) (.cells #[.int .i64 car] 3)
  have HB0 := Hid.intro' hb0
  have HH0 := Hid.intro' (World.alloc_heap_new w (.cells #[.int .i64 car] 3))
  have HC := Hid.intro' h
  have HSP := Hid.intro' (speaks14_any (w.alloc (.cells #[.int .i64 car] 3)))
  clear h hb0
  go_enter Try.func3, Try.ntmps3
  go_wp2_with fail
  refine HSP.out.mono ?_
  rintro e W1 ⟨rfl, hb1⟩
  have HB1 := Hid.intro' (below_class HB0.out hb1)
  have HH1 : Hid (W1.heap[w.heap.size]? = some (.cells #[.int .i64 car] 3 (0, 0))) := (hb1.block _ (Array.getElem?_eq_some_iff.1 HH0.out).1).trans HH0.out
  clear hb1 HSP HB0 HH0
  by_cases hl : L.length ≤ 200
  · have q1 : ¬ (200 : Int) < (L.length : Int) := by omega
    have HPR : Hid (PrC 7 #[.pointer (some ⟨w.heap.size, 0, none⟩)] (fun y => decide (y.ca < 0) || decide (y.ca = car)) W1) := fun W x hW => rmay_any x car w.heap.size W (by
      have : W.heap[w.heap.size]? = some (.cells #[.int .i64 car] 3 (0, 0)) := (hW.block _ (Array.getElem?_eq_some_iff.1 HH1.out).1).trans HH1.out
      rw [cell_of_row _ _ 0 _ _ _ this]; rfl)
    have HOL := Hid.intro' (oldest_any D _ L 7 _ _ age W1 (fun _ _ => rfl) (HC.out.below' HB1.out) hl HPR.out)
    have HEQ : Hid ((fun y : Ca => decide (age ≤ y.ag) && (decide (y.ca < 0) || decide (y.ca = car))) = oky car age) := rfl
    rw [HEQ.out] at HOL
    obtain ⟨o, HO⟩ : ∃ o, Hid (oldk (oky car age) L L.length = o) := ⟨_, Hid.intro' rfl⟩
    rw [HO.out] at HOL
    go_wp2_with fail
    refine HOL.out.mono ?_
    rintro e W2 ⟨rfl, hb2⟩
    have HB2 := Hid.intro' (below_class HB1.out hb2)
    have c0 : W2.cell? ⟨w.heap.size, 0, none⟩ = some (.int .i64 car) := by
      have : W2.heap[w.heap.size]? = some (.cells #[.int .i64 car] 3 (0, 0)) := (hb2.block _ (Array.getElem?_eq_some_iff.1 HH1.out).1).trans HH1.out
      rw [cell_of_row _ _ 0 _ _ _ this]; rfl
    have HZ := Hid.intro' (CaB.new W2 ca0)
    have HBZ := Hid.intro' ((Below.refl W2.heap.size W2).alloc (Nat.le_refl _) (.cells (cav ca0).toArray 25))
    have hw2 := HB2.out.size
    clear hb2 HOL HPR HB1 HH1
    go_wp2_with (refine wpList_storeCa rfl _ _ rfl W2.heap.size (ocl o) rfl rfl HZ.out ?_)
    intro W3 hk3 hc3
    have hcl := World.block_lt_of_cell? W2 _ c0
    have hk3' : Kp (fun k => k = W2.heap.size) (W2.alloc (.cells (cav ca0).toArray 25)) W3 := hk3
    have hb3 := hk3'.below HBZ.out HBZ.out.size (fun i hi e => by omega)
    have HB3 := Hid.intro' (below_class HB2.out hb3)
    have c1 : W3.cell? ⟨w.heap.size, 0, none⟩ = some (.int .i64 car) := (hb3.cell (p := ⟨w.heap.size, 0, none⟩) hcl).trans c0
    have HCB := Hid.intro' hc3
    have HRO := Hid.intro' (rold_any D _ L car age W3 (HC.out.below' HB3.out) hl)
    rw [HO.out] at HRO
    clear hk3 hk3' hc3 hb3 HZ HBZ HB2 c0 hcl
    generalize W2.heap.size = cb at HCB ⊢
    go_wp2_with fail
    refine HRO.out.mono ?_
    rintro e W4 ⟨rfl, hb4⟩
    have HB4 := Hid.intro' (below_class HB3.out hb4)
    have HC4 := Hid.intro' (HCB.out.below' hb4)
    clear hb4 HB3 HCB HRO c1
    cases o with
    | none =>
      have k0 : W4.cell? ⟨cb, 0, none⟩ = some (.int .i64 0) := HC4.out.cell 0
      have k1 : W4.cell? ⟨cb, 1, none⟩ = some (.int .i64 0) := HC4.out.cell 1
      have k2 : W4.cell? ⟨cb, 2, none⟩ = some (.int .i64 0) := HC4.out.cell 2
      have k3 : W4.cell? ⟨cb, 3, none⟩ = some (.bool false) := HC4.out.cell 3
      have heq := eqCa 0 0 0 false
      have hox : oix none = -1 := rfl
      rw [hox]
      go_wp2
      go_ret
      exact ⟨rfl, HB4.out⟩
    | some x =>
      obtain ⟨j, z⟩ := x
      obtain ⟨hj, hz, _⟩ := oldk_at HO.out
      obtain ⟨g2, o2, e2, _, m0, m1, m2, m3⟩ := (HC.out.below' HB4.out).at hz
      subst e2
      have hix : ∀ W : World, (Instr.indexAt 22 (.slice (some ⟨g2, o2, none⟩) L.length kv) (.int .i64 (j : Int))).run Try.prog W = .ok (.pointer (some ⟨g2, o2 + j * 4, none⟩)) W := fun W => ixCa W hj
      have k0 : W4.cell? ⟨cb, 0, none⟩ = some (.int .i64 z.fl) := HC4.out.cell 0
      have k1 : W4.cell? ⟨cb, 1, none⟩ = some (.int .i64 z.ca) := HC4.out.cell 1
      have k2 : W4.cell? ⟨cb, 2, none⟩ = some (.int .i64 z.ag) := HC4.out.cell 2
      have k3 : W4.cell? ⟨cb, 3, none⟩ = some (.bool z.up) := HC4.out.cell 3
      have heq := eqCa z.fl z.ca z.ag z.up
      have hox : oix (some (j, z)) = (j : Int) := rfl
      have d5 : ¬ (j : Int) < 0 := by omega
      rw [hox]
      have HBD : Hid (∀ n, Below w.heap.size w (W4.drewN n)) := fun n => HB4.out.trans ⟨rfl, rfl, rfl, Nat.le_refl _, fun _ _ => rfl⟩
      clear hz HO hj
      go_wp2_with fail
      go_quiet (fail)
      go_wp2
      go_ret
      exact ⟨rfl, HBD.out _⟩
  · have q1 : (200 : Int) < (L.length : Int) := by omega
    go_wp2
    go_ret
    exact ⟨rfl, HB1.out⟩

end Go.Proofs.Ytdfdkddjkhcgdai
