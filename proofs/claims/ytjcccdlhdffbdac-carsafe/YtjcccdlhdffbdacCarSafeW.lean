/- The walk of the law CarSafe. -/
import Derived.Test.YtjcccdlhdffbdacCarF
import Derived.Test.YtjcccdlhdffbdacCarK
namespace Go.Proofs.Ytjcccdlhdffbdac
open Go.RowKit

set_option maxRecDepth 100000 in
set_option maxHeartbeats 2000000 in
theorem safe_of (s : St) (a b : Cr) (w : World) :
    Calls Try.prog 5 #[.agg (sv s).toArray, .agg #[.int .i64 a.fl, .int .i64 a.tg, .int .i64 a.ti, .int .i64 a.d.ph, .int .i64 a.d.le, .int .i64 a.d.ru, .bool a.d.he, .bool a.fa], .agg #[.int .i64 b.fl, .int .i64 b.tg, .int .i64 b.ti, .int .i64 b.d.ph, .int .i64 b.d.le, .int .i64 b.d.ru, .bool b.d.he, .bool b.fa]] w fun e w' => e = .returned (.bool true) ∧ Below w.heap.size w w' := by
  have H0 := Hid.intro' (Bf.new w s a b)
  go_enter Try.func5, Try.ntmps5
  go_wp2_with fail
  refine (H0.out.keep (cspeaks_any _)).mono ?_
  rintro e W1 ⟨rfl, hk⟩
  have H1 := Hid.intro' hk
  clear hk H0
  go_wp2_with fail
  have hs : ∀ w', Below W1.heap.size W1 w' → SB w' w.heap.size s := fun w' h' => H1.out.sb.below' h'
  have ha : ∀ w', Below W1.heap.size W1 w' → CB w' (w.heap.size + 1) a := fun w' h' => H1.out.ab.below' h'
  have hb : ∀ w', Below W1.heap.size W1 w' → CB w' (w.heap.size + 1 + 1) b := fun w' h' => H1.out.bb.below' h'
  refine wp_region_quiet (C := fun w' => Below W1.heap.size W1 w') (by kernel_rfl) (by kernel_rfl) ((Below.refl _ W1).drew) ?_
  simp only []
  unfold wpQuiet
  generalize hK : wpQuiet Try.prog _ _ _ _ = K
  rw [if_pos (by go_simp)]
  refine quiet_load23 _ w.heap.size s rfl rfl hs ?_
  go_simp
  subst hK
  unfold wpQuiet
  generalize hK : wpQuiet Try.prog _ _ _ _ = K
  rw [if_pos (by go_simp)]
  refine quiet_loadC _ (w.heap.size + 1) rfl rfl ha ?_
  go_simp
  subst hK
  unfold wpQuiet
  generalize hK : wpQuiet Try.prog _ _ _ _ = K
  rw [if_pos (by go_simp)]
  refine quiet_loadC _ (w.heap.size + 1 + 1) rfl rfl hb ?_
  go_simp
  subst hK
  unfold wpQuiet
  generalize hK : wpQuiet Try.prog _ _ _ _ = K
  go_simp
  refine ⟨_, fun w' hw => (csafe_any s a b w').mono fun e w'' hh => ⟨hh.1, below_class hw hh.2⟩, ?_⟩
  subst hK
  unfold wpQuiet
  generalize hK : wpQuiet Try.prog _ _ _ _ = K
  rw [if_pos (by go_simp)]
  refine quiet_load23 _ w.heap.size s rfl rfl hs ?_
  go_simp
  subst hK
  unfold wpQuiet
  generalize hK : wpQuiet Try.prog _ _ _ _ = K
  rw [if_pos (by go_simp)]
  refine quiet_loadC _ (w.heap.size + 1) rfl rfl ha ?_
  go_simp
  subst hK
  unfold wpQuiet
  generalize hK : wpQuiet Try.prog _ _ _ _ = K
  rw [if_pos (by go_simp)]
  refine quiet_loadC _ (w.heap.size + 1 + 1) rfl rfl hb ?_
  go_simp
  subst hK
  unfold wpQuiet
  generalize hK : wpQuiet Try.prog _ _ _ _ = K
  go_simp
  refine ⟨_, fun w' hw => (rcsafe_any s a b w').mono fun e w'' hh => ⟨hh.1, below_class hw hh.2⟩, ?_⟩
  subst hK
  unfold wpQuiet
  generalize hK : wpQuiet Try.prog _ _ _ _ = K
  go_simp
  refine ⟨_, fun _ _ => rfl, ?_⟩
  subst hK
  unfold wpQuiet
  generalize hK : wpQuiet Try.prog _ _ _ _ = K
  go_simp
  refine ⟨_, fun _ _ => rfl, ?_⟩
  subst hK
  refine wpQuiet_nil ?_
  intro W2 hb2
  have HB2 := Hid.intro' (below_class H1.out.bel hb2)
  clear hb2 hs ha hb H1
  go_wp2
  go_ret
  exact ⟨ret_boo (by simp), HB2.out⟩

end Go.Proofs.Ytjcccdlhdffbdac
