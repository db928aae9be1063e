/- A plan is the same as itself, wherever it lies, as the document looks at it. -/
import Derived.Test.YtigjbgecdaljkagPk10
import Derived.Test.YtigjbgecdaljkagPk9
namespace Go.Proofs.Ytigjbgecdaljkag
open Go.RowKit

set_option maxHeartbeats 4000000 in
theorem psame_any (D D' : Nat → Prop) (va vb : Value) (p : List (List Int)) (w : World) (ha : RL D w va p) (hb : RL D' w vb p) (hpl : p.length ≤ 100000) (hll : ∀ l ∈ p, l.length ≤ 100000) :
    Calls Try.prog 22 #[va, vb] w fun e w' => e = .returned (.bool true) ∧ Below w.heap.size w w' := by
  have HA := Hid.intro' ha
  have HB := Hid.intro' hb
  have HLL := Hid.intro' hll
  obtain ⟨aa, ka, rfl, _, _⟩ := ha.form
  obtain ⟨ab, kb, rfl, _, _⟩ := hb.form
  clear ha hb hll
  go_enter Try.func22, Try.ntmps22
  go_wp2_with fail
  go_loopw [5] (fun cv wr => ∃ c : Nat, c ≤ p.length ∧ cv = .int .i64 (c : Int) ∧ Hid (Below w.heap.size w wr)) (fun cv _ => p.length - (intOf cv).toNat)
  case atStart => exact ⟨0, Nat.zero_le _, rfl, Below.refl _ _⟩
  case round =>
    obtain ⟨c, hc, rfl, HBC⟩ := hrel
    by_cases hcc : c < p.length
    · have hcz : (c : Int) < (p.length : Int) := by omega
      obtain ⟨l, hl⟩ : ∃ l, p[c]? = some l := ⟨_, List.getElem?_eq_getElem hcc⟩
      have hln : l.length ≤ 100000 := HLL.out l (List.mem_of_getElem? hl)
      obtain ⟨ga, oa, rfl, ua, hca, hra⟩ := HA.out.at hl
      obtain ⟨gb, ob, rfl, ub, hcb, hrb⟩ := HB.out.at hl
      obtain ⟨a1, k1, rfl, _, _⟩ := hra.form
      obtain ⟨a2, k2, rfl, _, _⟩ := hrb.form
      have HRA := Hid.intro' hra
      have HRB := Hid.intro' hrb
      have HCA : Hid (∀ w', Below w.heap.size w w' → w'.cell? ⟨ga, oa + c, none⟩ = some (.slice a1 l.length k1)) := fun w' hw => (hw.cell (p := ⟨ga, oa + c, none⟩) (cell_lt hca)).trans hca
      have HCB : Hid (∀ w', Below w.heap.size w w' → w'.cell? ⟨gb, ob + c, none⟩ = some (.slice a2 l.length k2)) := fun w' hw => (hw.cell (p := ⟨gb, ob + c, none⟩) (cell_lt hcb)).trans hcb
      have HA1 : Hid (∀ w', Below wr.heap.size wr w' → w'.cell? ⟨ga, oa + c, none⟩ = some (.slice a1 l.length k1)) := fun w' hw => HCA.out w' (below_class HBC.out hw)
      have HB1 : Hid (∀ w', Below wr.heap.size wr w' → w'.cell? ⟨gb, ob + c, none⟩ = some (.slice a2 l.length k2)) := fun w' hw => HCB.out w' (below_class HBC.out hw)
      clear hl hca hcb hra hrb
      go_wp2_with fail
      refine wp_region_quiet (C := fun w' => Below wr.heap.size wr w') (by kernel_rfl) (by kernel_rfl) ((Below.refl _ _).drew) ?_
      simp only []
      unfold wpQuiet
      generalize hK : wpQuiet Try.prog _ _ _ _ = K
      go_simp
      refine ⟨_, fun _ _ => rfl, ?_⟩
      subst hK
      unfold wpQuiet
      generalize hK : wpQuiet Try.prog _ _ _ _ = K
      go_simp
      refine ⟨_, fun _ _ => rfl, ?_⟩
      subst hK
      unfold wpQuiet
      generalize hK : wpQuiet Try.prog _ _ _ _ = K
      rw [if_pos (by go_simp)]
      refine quiet_ixP _ _ rfl rfl rfl hcc ?_
      go_simp
      subst hK
      unfold wpQuiet
      generalize hK : wpQuiet Try.prog _ _ _ _ = K
      rw [if_pos (by go_simp)]
      refine quiet_loadLI _ _ _ rfl rfl HA1.out ?_
      go_simp
      subst hK
      unfold wpQuiet
      generalize hK : wpQuiet Try.prog _ _ _ _ = K
      go_simp
      refine ⟨_, fun _ _ => rfl, ?_⟩
      subst hK
      unfold wpQuiet
      generalize hK : wpQuiet Try.prog _ _ _ _ = K
      go_simp
      refine ⟨_, fun _ _ => rfl, ?_⟩
      subst hK
      unfold wpQuiet
      generalize hK : wpQuiet Try.prog _ _ _ _ = K
      go_simp
      refine ⟨_, fun _ _ => rfl, ?_⟩
      subst hK
      unfold wpQuiet
      generalize hK : wpQuiet Try.prog _ _ _ _ = K
      rw [if_pos (by go_simp)]
      refine quiet_ixP _ _ rfl rfl rfl hcc ?_
      go_simp
      subst hK
      unfold wpQuiet
      generalize hK : wpQuiet Try.prog _ _ _ _ = K
      rw [if_pos (by go_simp)]
      refine quiet_loadLI _ _ _ rfl rfl HB1.out ?_
      go_simp
      subst hK
      unfold wpQuiet
      generalize hK : wpQuiet Try.prog _ _ _ _ = K
      go_simp
      refine ⟨_, fun _ _ => rfl, ?_⟩
      subst hK
      unfold wpQuiet
      generalize hK : wpQuiet Try.prog _ _ _ _ = K
      go_simp
      refine ⟨_, fun _ _ => rfl, ?_⟩
      subst hK
      refine wpQuiet_nil ?_
      intro W2 hb2
      have HB2 := Hid.intro' (below_class HBC.out hb2)
      clear hb2 HA1 HB1 HBC
      go_wp2_with fail
      go_loopw [6] (fun jv wr => ∃ j : Nat, j ≤ l.length ∧ jv = .int .i64 (j : Int) ∧ Hid (Below w.heap.size w wr)) (fun jv _ => l.length - (intOf jv).toNat)
      case atStart => exact ⟨0, Nat.zero_le _, rfl, HB2⟩
      case round =>
        clear HB2
        obtain ⟨j, hj, rfl, HBJ⟩ := hrel
        have cA := HCA.out wr HBJ.out
        by_cases hjl : j < l.length
        · have hjz : (j : Int) < (l.length : Int) := by omega
          obtain ⟨x, hx⟩ : ∃ x, l[j]? = some x := ⟨_, List.getElem?_eq_getElem hjl⟩
          obtain ⟨g1, o1, rfl, h1⟩ := HRA.out.at hx
          obtain ⟨g2, o2, rfl, h2⟩ := HRB.out.at hx
          have HA1 : Hid (∀ w', Below wr.heap.size wr w' → w'.cell? ⟨ga, oa + c, none⟩ = some (.slice (some ⟨g1, o1, none⟩) l.length k1)) := fun w' hw => HCA.out w' (below_class HBJ.out hw)
          have HB1 : Hid (∀ w', Below wr.heap.size wr w' → w'.cell? ⟨gb, ob + c, none⟩ = some (.slice (some ⟨g2, o2, none⟩) l.length k2)) := fun w' hw => HCB.out w' (below_class HBJ.out hw)
          have HX1 : Hid (∀ w', Below wr.heap.size wr w' → w'.cell? ⟨g1, o1 + j, none⟩ = some (.int .i64 x)) := fun w' hw => ((below_class HBJ.out hw).cell (p := ⟨g1, o1 + j, none⟩) (cell_lt h1)).trans h1
          have HX2 : Hid (∀ w', Below wr.heap.size wr w' → w'.cell? ⟨g2, o2 + j, none⟩ = some (.int .i64 x)) := fun w' hw => ((below_class HBJ.out hw).cell (p := ⟨g2, o2 + j, none⟩) (cell_lt h2)).trans h2
          clear hx h1 h2
          go_wp2_with fail
          refine wp_region_quiet (C := fun w' => Below wr.heap.size wr w') (by kernel_rfl) (by kernel_rfl) ((Below.refl _ _).drew) ?_
          simp only []
          unfold wpQuiet
          generalize hK : wpQuiet Try.prog _ _ _ _ = K
          go_simp
          refine ⟨_, fun _ _ => rfl, ?_⟩
          subst hK
          unfold wpQuiet
          generalize hK : wpQuiet Try.prog _ _ _ _ = K
          go_simp
          refine ⟨_, fun _ _ => rfl, ?_⟩
          subst hK
          unfold wpQuiet
          generalize hK : wpQuiet Try.prog _ _ _ _ = K
          rw [if_pos (by go_simp)]
          refine quiet_ixP _ _ rfl rfl rfl hcc ?_
          go_simp
          subst hK
          unfold wpQuiet
          generalize hK : wpQuiet Try.prog _ _ _ _ = K
          rw [if_pos (by go_simp)]
          refine quiet_loadLI _ _ _ rfl rfl HA1.out ?_
          go_simp
          subst hK
          unfold wpQuiet
          generalize hK : wpQuiet Try.prog _ _ _ _ = K
          go_simp
          refine ⟨_, fun _ _ => rfl, ?_⟩
          subst hK
          unfold wpQuiet
          generalize hK : wpQuiet Try.prog _ _ _ _ = K
          rw [if_pos (by go_simp)]
          refine quiet_ixI _ _ rfl rfl rfl hjl ?_
          go_simp
          subst hK
          unfold wpQuiet
          generalize hK : wpQuiet Try.prog _ _ _ _ = K
          rw [if_pos (by go_simp)]
          refine quiet_load3 _ _ _ rfl rfl HX1.out ?_
          go_simp
          subst hK
          unfold wpQuiet
          generalize hK : wpQuiet Try.prog _ _ _ _ = K
          go_simp
          refine ⟨_, fun _ _ => rfl, ?_⟩
          subst hK
          unfold wpQuiet
          generalize hK : wpQuiet Try.prog _ _ _ _ = K
          go_simp
          refine ⟨_, fun _ _ => rfl, ?_⟩
          subst hK
          unfold wpQuiet
          generalize hK : wpQuiet Try.prog _ _ _ _ = K
          rw [if_pos (by go_simp)]
          refine quiet_ixP _ _ rfl rfl rfl hcc ?_
          go_simp
          subst hK
          unfold wpQuiet
          generalize hK : wpQuiet Try.prog _ _ _ _ = K
          rw [if_pos (by go_simp)]
          refine quiet_loadLI _ _ _ rfl rfl HB1.out ?_
          go_simp
          subst hK
          unfold wpQuiet
          generalize hK : wpQuiet Try.prog _ _ _ _ = K
          go_simp
          refine ⟨_, fun _ _ => rfl, ?_⟩
          subst hK
          unfold wpQuiet
          generalize hK : wpQuiet Try.prog _ _ _ _ = K
          rw [if_pos (by go_simp)]
          refine quiet_ixI _ _ rfl rfl rfl hjl ?_
          go_simp
          subst hK
          unfold wpQuiet
          generalize hK : wpQuiet Try.prog _ _ _ _ = K
          rw [if_pos (by go_simp)]
          refine quiet_load3 _ _ _ rfl rfl HX2.out ?_
          go_simp
          subst hK
          unfold wpQuiet
          generalize hK : wpQuiet Try.prog _ _ _ _ = K
          go_simp
          refine ⟨_, fun _ _ => rfl, ?_⟩
          subst hK
          refine wpQuiet_nil ?_
          intro W3 hb3
          have HB3 := Hid.intro' (below_class HBJ.out hb3)
          clear hb3 HA1 HB1 HX1 HX2 HBJ cA
          go_wp2
          go_roundw
          case rel => exact ⟨j + 1, by omega, by go_num, HB3⟩
          case measure => simp [intOf]; omega
        · have hjz : ¬ (j : Int) < (l.length : Int) := by omega
          go_wp2
          go_roundw
          case rel => exact ⟨c + 1, by omega, by go_num, HBJ⟩
          case measure => simp [intOf]; omega
    · have hcz : ¬ (c : Int) < (p.length : Int) := by omega
      go_wp2
      go_ret
      exact ⟨rfl, HBC.out⟩

end Go.Proofs.Ytigjbgecdaljkag
