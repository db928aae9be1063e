/- The document's example of a car. -/
import Derived.Test.YtjcccdlhdffbdacCarG
import Derived.Test.YtjcccdlhdffbdacNewL
namespace Go.Proofs.Ytjcccdlhdffbdac
open Go.RowKit

def exC : St := ⟨5, 1, 0, 2, 0, 3, 1, 1, 0, 1, 1, 1, 1⟩
theorem exC_rt : SM.Rt exC := (rightB_iff exC).1 (by decide +kernel)
theorem at_lit (f : Int) (w : World) : Calls Try.prog 20 #[.int .i64 f] w fun e w' => e = .returned (.agg #[.int .i64 f, .int .i64 f, .int .i64 0, .int .i64 0, .int .i64 0, .int .i64 0, .bool false, .bool false]) ∧ Below w.heap.size w w' := at_any f w
theorem ex_cstep (w : World) : Calls Try.prog 16 #[.agg (sv exC).toArray, .agg #[.int .i64 0, .int .i64 0, .int .i64 0, .int .i64 0, .int .i64 0, .int .i64 0, .bool false, .bool false], .agg #[.bool false, .int .i64 3], .bool false] w fun e w' => e = .returned (.agg #[.int .i64 0, .int .i64 3, .int .i64 6, .int .i64 0, .int .i64 0, .int .i64 0, .bool false, .bool false]) ∧ Below w.heap.size w w' :=
  cstep_any exC (CM.atF 0) (CM.rc_at exC_rt (by decide) (by decide)) false 3 false w
theorem ex_idle2 (w : World) : Calls Try.prog 18 #[.agg #[.int .i64 2, .int .i64 2, .int .i64 0, .int .i64 0, .int .i64 0, .int .i64 0, .bool false, .bool false]] w fun e w' => e = .returned (.bool true) ∧ Below w.heap.size w w' := idle_any (CM.atF 2) w
theorem ex_idle3 (w : World) : Calls Try.prog 18 #[.agg #[.int .i64 0, .int .i64 3, .int .i64 6, .int .i64 0, .int .i64 0, .int .i64 0, .bool false, .bool false]] w fun e w' => e = .returned (.bool false) ∧ Below w.heap.size w w' := idle_any ⟨0, 3, 6, DM.z, false⟩ w
def exR : Cr := ⟨0, 3, 6, DM.z, false⟩

set_option maxHeartbeats 2000000 in
theorem cspeaks_any (w : World) :
    Calls Try.prog 12 #[] w fun e w' => e = .returned (.bool true) ∧ Below w.heap.size w w' := by
  have HB0 : Hid (Below w.heap.size w (w.alloc (.cells (sv exC).toArray 23))) := Hid.intro' ((Below.refl _ w).alloc (Nat.le_refl _) _)
  have HN0 := Hid.intro' (SB.new w exC)
  go_enter Try.func12, Try.ntmps12
  go_wp2_with fail
  obtain ⟨W0, hW0⟩ : ∃ W0, w.alloc (.cells (sv exC).toArray 23) = W0 := ⟨_, rfl⟩
  rw [hW0] at HN0 HB0
  change Code.wp Try.prog _ _ _ (w.alloc (.cells (sv exC).toArray 23))
  rw [hW0]
  obtain ⟨B, hB⟩ : ∃ B, w.heap.size = B := ⟨_, rfl⟩
  rw [show Value.pointer (some ⟨w.heap.size, 0, none⟩) = Value.pointer (some ⟨B, 0, none⟩) by rw [hB]]
  rw [hB] at HN0
  clear hW0
  have hs : ∀ w', Below W0.drew.heap.size W0.drew w' → SB w' B exC := fun w' h' => (SB.drew HN0.out).below' h'
  refine wp_region_new1 4 2 (.cells #[.int .i64 (CM.atF 0).fl, .int .i64 (CM.atF 0).tg, .int .i64 (CM.atF 0).ti, .int .i64 (CM.atF 0).d.ph, .int .i64 (CM.atF 0).d.le, .int .i64 (CM.atF 0).d.ru, .bool (CM.atF 0).d.he, .bool (CM.atF 0).fa] 31) (by kernel_rfl) (by kernel_rfl) rfl ⟨_, rfl, rfl, fun _ => rfl, fun a w => by go_simp; rfl⟩ ?_
  simp only [List.take_succ_cons, List.take_zero, List.drop_succ_cons, List.drop_zero]
  unfold wpCalm
  generalize hK : wpCalm Try.prog _ _ _ _ = K
  rw [if_pos (by go_simp)]
  refine calm_load23 _ B exC rfl rfl hs ?_
  go_simp
  subst hK
  unfold wpCalm
  generalize hK : wpCalm Try.prog _ _ _ _ = K
  unfold Oper.calm
  go_simp
  refine ⟨_, fun w' hw => at_lit 0 w', ?_⟩
  subst hK
  unfold wpCalm
  generalize hK : wpCalm Try.prog _ _ _ _ = K
  unfold Oper.calm
  go_simp
  refine ⟨_, fun _ _ => rfl, ?_⟩
  subst hK
  unfold wpCalm
  generalize hK : wpCalm Try.prog _ _ _ _ = K
  unfold Oper.calm
  go_simp
  refine ⟨_, fun w' hw => ex_cstep w', ?_⟩
  subst hK
  refine wpCalm_nil ?_
  intro D W1 hb hD hz
  have HB1 := Hid.intro' (below_class (HB0.out.drew) hb)
  have HD1 := Hid.intro' (zeroC hz)
  have hDw : w.heap.size ≤ D := Nat.le_trans HB0.out.size hD
  clear hb hz hs HN0 HB0
  go_wp2_with (refine wpList_storeC (c' := exR) rfl _ _ rfl D rfl rfl HD1.out ?_)
  intro W2 hu hc
  have HB2 := Hid.intro' (hu.below HB1.out hDw)
  have HD2 := Hid.intro' hc
  clear hu hc HD1 HB1
  go_wp2_with (refine wpList_loadC (c := exR) rfl _ rfl D rfl HD2.out ?_)
  refine (at_lit 2 _).mono ?_
  rintro e W3 ⟨rfl, hb⟩
  have HB3 := Hid.intro' (below_class HB2.out hb)
  have HD3 := Hid.intro' (HD2.out.below' hb)
  clear hb HB2 HD2
  go_wp2_with fail
  refine (ex_idle2 _).mono ?_
  rintro e W4 ⟨rfl, hb⟩
  have HB4 := Hid.intro' (below_class HB3.out hb)
  have HD4 := Hid.intro' (HD3.out.below' hb)
  clear hb HB3 HD3
  go_wp2_with (refine wpList_loadCg (c := exR) rfl _ rfl D rfl HD4.out ?_)
  refine (ex_idle3 _).mono ?_
  rintro e W5 ⟨rfl, hb⟩
  have HB5 := Hid.intro' (below_class HB4.out hb)
  clear hb HB4 HD4
  go_wp2
  go_ret
  exact ⟨rfl, HB5.out⟩

end Go.Proofs.Ytjcccdlhdffbdac
