/- Which doors may be, as the program tells it and as the document's answer does; a tick as the document's answer has it. -/
import Derived.Test.YtjcccdlhdffbdacDoorL
import Derived.Test.YtjcccdlhdffbdacSiteP
namespace Go.Proofs.Ytjcccdlhdffbdac
open Go.RowKit

/-- a right door, as a Boolean -/
def rdB (s : St) (p l r : Int) (h : Bool) : Bool := decide (p = 0 ∧ l = 0 ∧ r = 0 ∧ h = false) || decide (0 ≤ r ∧ r ≤ s.nud ∧ 1 ≤ l ∧ l ≤ DM.tk s p ∧ 1 ≤ p ∧ p ≤ 3)
theorem rdB_iff (s : St) (d : Dr) : rdB s d.ph d.le d.ru d.he = true ↔ DM.Rd s d := by
  unfold rdB DM.Rd
  rw [Bool.or_eq_true, decide_eq_true_eq, decide_eq_true_eq]
  constructor
  · rintro (⟨h1, h2, h3, h4⟩ | ⟨h1, h2, h3, h4, h5, h6⟩)
    · left; cases d; simp_all [DM.z]
    · right; exact ⟨h1, h2, h3, h4, h5, h6⟩
  · rintro (rfl | h)
    · left; simp [DM.z]
    · right; exact ⟨h.r1, h.r2, h.l1, h.l2, h.p1, h.p3⟩

/-- and of a right site -/
def drB (s : St) (p l r : Int) (h : Bool) : Bool := rightB s && rdB s p l r h
theorem drB_t {s : St} (R : SM.Rt s) (p l r : Int) (h : Bool) : drB s p l r h = rdB s p l r h := by unfold drB; rw [rightB_true R, Bool.true_and]
theorem drB_f {s : St} (R : ¬ SM.Rt s) (p l r : Int) (h : Bool) : drB s p l r h = false := by unfold drB; rw [rightB_false R, Bool.false_and]
theorem rdB_0 {s : St} {l r : Int} {h : Bool} : rdB s 0 l r h = shB 0 l r h := by unfold rdB shB; simp
theorem rdB_n {s : St} {p l r : Int} {h : Bool} (hp : p ≠ 0) : rdB s p l r h = decide (0 ≤ r ∧ r ≤ s.nud ∧ 1 ≤ l ∧ l ≤ DM.tk s p ∧ 1 ≤ p ∧ p ≤ 3) := by unfold rdB; simp [hp]
theorem tk_pos {s : St} {p l : Int} (h1 : 1 ≤ l) (h : l ≤ DM.tk s p) : 1 ≤ p ∧ p ≤ 3 := by
  unfold DM.tk at h
  split at h
  · omega
  · split at h
    · omega
    · split at h <;> omega

theorem right_t (s : St) (r : SM.Rt s) (w : World) : Calls Try.prog 37 #[.agg (sv s).toArray] w fun e w' => e = .returned (.bool true) ∧ Below w.heap.size w w' := by
  have := right_any s w
  rwa [rightB_true r] at this
theorem right_f (s : St) (r : ¬ SM.Rt s) (w : World) : Calls Try.prog 37 #[.agg (sv s).toArray] w fun e w' => e = .returned (.bool false) ∧ Below w.heap.size w w' := by
  have := right_any s w
  rwa [rightB_false r] at this
theorem calls_keep2 {f : FuncId} {args : Array Value} {w0 W : World} {bs bd : Nat} {s : St} {p l r : Int} {h : Bool} {R : Ending → Prop}
    (hc : Calls Try.prog f args W fun e w' => R e ∧ Below W.heap.size W w') (hB : Below w0.heap.size w0 W) (hS : SB W bs s) (hD : DB W bd p l r h) :
    Calls Try.prog f args W fun e w' => R e ∧ Below w0.heap.size w0 w' ∧ SB w' bs s ∧ DB w' bd p l r h :=
  hc.mono fun _ _ hh => ⟨hh.1, below_class hB hh.2, hS.below' hh.2, hD.below' hh.2⟩

set_option maxHeartbeats 2000000 in
theorem dright_any (s : St) (p l r : Int) (h : Bool) (w : World) :
    Calls Try.prog 27 #[.agg (sv s).toArray, .agg #[.int .i64 p, .int .i64 l, .int .i64 r, .bool h]] w fun e w' => e = .returned (.bool (drB s p l r h)) ∧ Below w.heap.size w w' := by
  go_enter Try.func27, Try.ntmps27
  go_wp2_with (refine wpList_load23 rfl _ rfl w.heap.size s rfl ((SB.new w s).alloc _) ?_)
  by_cases R : SM.Rt s
  · refine (calls_keep2 (bs := w.heap.size) (bd := w.heap.size + 1) (right_t s R _) (((Below.refl _ w).alloc (Nat.le_refl _) _).alloc (by simp) _) ((SB.new w s).alloc _) (DB.new' _ p l r h (by simp))).mono ?_
    rintro e W1 ⟨rfl, hB, hs, hd⟩
    have HB := Hid.intro' hB
    have HS := Hid.intro' hs
    have HD := Hid.intro' hd
    have HR := Hid.intro' (fun p l r h => drB_t R p l r h)
    have a0 := hd.c0; have a1 := hd.c1; have a2 := hd.c2; have a3 := hd.c3
    have c8 : W1.cell? ⟨w.heap.size, 8, none⟩ = some (.int .i64 s.nud) := hs.cell 8
    clear hB hs hd R
    by_cases hp : p = 0
    · subst hp
      go_wp2_with fail
      refine (isShut_any 0 l r h _).mono ?_
      rintro e W2 ⟨rfl, hb⟩
      have HB2 := Hid.intro' (below_class HB.out hb)
      clear hb a0 a1 a2 a3 c8
      go_wp2
      go_ret
      exact ⟨ret_boo (by rw [HR.out, rdB_0]), HB2.out⟩
    · have hq : (p == 0) = false := by simpa using hp
      have HP := Hid.intro' hp
      clear hp
      go_wp2_with fail
      have hs : ∀ w', Below W1.heap.size W1 w' → SB w' w.heap.size s := fun w' h' => HS.out.below' h'
      have q0 : ∀ w', Below W1.heap.size W1 w' → w'.cell? ⟨w.heap.size + 1, 0, none⟩ = some (.int .i64 p) := fun w' h' => (HD.out.below' h').c0
      have q1 : ∀ w', Below W1.heap.size W1 w' → w'.cell? ⟨w.heap.size + 1, 1, none⟩ = some (.int .i64 l) := fun w' h' => (HD.out.below' h').c1
      have q2 : ∀ w', Below W1.heap.size W1 w' → w'.cell? ⟨w.heap.size + 1, 2, none⟩ = some (.int .i64 r) := fun w' h' => (HD.out.below' h').c2
      have q8 : ∀ w', Below W1.heap.size W1 w' → w'.cell? ⟨w.heap.size, 8, none⟩ = some (.int .i64 s.nud) := fun w' h' => (HS.out.below' h').cell 8
      clear a0 a1 a2 a3 c8
      refine wp_region_quiet (C := fun w' => Below W1.heap.size W1 w') (by kernel_rfl) (by kernel_rfl) ((Below.refl _ W1).drew) ?_
      simp only []
      rcases Bool.eq_false_or_eq_true (decide (0 ≤ r)) with k1 | k1
      · rcases Bool.eq_false_or_eq_true (decide (r ≤ s.nud)) with k2 | k2
        · rcases Bool.eq_false_or_eq_true (decide (1 ≤ l)) with k3 | k3
          · unfold wpQuiet
            generalize hK : wpQuiet Try.prog _ _ _ _ = K
            go_simp
            refine ⟨_, fun _ _ => rfl, ?_⟩
            subst hK
            unfold wpQuiet
            generalize hK : wpQuiet Try.prog _ _ _ _ = K
            rw [if_pos (by go_simp)]
            refine quiet_load3 _ _ _ rfl rfl q2 ?_
            go_simp
            subst hK
            unfold wpQuiet
            generalize hK : wpQuiet Try.prog _ _ _ _ = K
            go_simp
            refine ⟨_, fun _ _ => rfl, ?_⟩
            subst hK
            unfold wpQuiet
            generalize hK : wpQuiet Try.prog _ _ _ _ = K
            go_simp
            refine ⟨_, fun _ _ => rfl, ?_⟩
            subst hK
            unfold wpQuiet
            generalize hK : wpQuiet Try.prog _ _ _ _ = K
            go_simp
            refine ⟨_, fun _ _ => rfl, ?_⟩
            subst hK
            unfold wpQuiet
            generalize hK : wpQuiet Try.prog _ _ _ _ = K
            rw [if_pos (by go_simp)]
            refine quiet_load3 _ _ _ rfl rfl q2 ?_
            go_simp
            subst hK
            unfold wpQuiet
            generalize hK : wpQuiet Try.prog _ _ _ _ = K
            go_simp
            refine ⟨_, fun _ _ => rfl, ?_⟩
            subst hK
            unfold wpQuiet
            generalize hK : wpQuiet Try.prog _ _ _ _ = K
            rw [if_pos (by go_simp)]
            refine quiet_load3 _ _ _ rfl rfl q8 ?_
            go_simp
            subst hK
            unfold wpQuiet
            generalize hK : wpQuiet Try.prog _ _ _ _ = K
            go_simp
            refine ⟨_, fun _ _ => rfl, ?_⟩
            subst hK
            unfold wpQuiet
            generalize hK : wpQuiet Try.prog _ _ _ _ = K
            go_simp
            refine ⟨_, fun _ _ => rfl, ?_⟩
            subst hK
            unfold wpQuiet
            generalize hK : wpQuiet Try.prog _ _ _ _ = K
            go_simp
            refine ⟨_, fun _ _ => rfl, ?_⟩
            subst hK
            unfold wpQuiet
            generalize hK : wpQuiet Try.prog _ _ _ _ = K
            go_simp
            refine ⟨_, fun _ _ => rfl, ?_⟩
            subst hK
            unfold wpQuiet
            generalize hK : wpQuiet Try.prog _ _ _ _ = K
            rw [if_pos (by go_simp)]
            refine quiet_load3 _ _ _ rfl rfl q1 ?_
            go_simp
            subst hK
            unfold wpQuiet
            generalize hK : wpQuiet Try.prog _ _ _ _ = K
            go_simp
            refine ⟨_, fun _ _ => rfl, ?_⟩
            subst hK
            unfold wpQuiet
            generalize hK : wpQuiet Try.prog _ _ _ _ = K
            go_simp
            refine ⟨_, fun _ _ => rfl, ?_⟩
            subst hK
            unfold wpQuiet
            generalize hK : wpQuiet Try.prog _ _ _ _ = K
            go_simp
            refine ⟨_, fun _ _ => rfl, ?_⟩
            subst hK
            unfold wpQuiet
            generalize hK : wpQuiet Try.prog _ _ _ _ = K
            go_simp
            refine ⟨_, fun _ _ => rfl, ?_⟩
            subst hK
            unfold wpQuiet
            generalize hK : wpQuiet Try.prog _ _ _ _ = K
            rw [if_pos (by go_simp)]
            refine quiet_load3 _ _ _ rfl rfl q1 ?_
            go_simp
            subst hK
            unfold wpQuiet
            generalize hK : wpQuiet Try.prog _ _ _ _ = K
            rw [if_pos (by go_simp)]
            refine quiet_load23 _ w.heap.size s rfl rfl hs ?_
            go_simp
            subst hK
            unfold wpQuiet
            generalize hK : wpQuiet Try.prog _ _ _ _ = K
            go_simp
            refine ⟨_, fun _ _ => rfl, ?_⟩
            subst hK
            unfold wpQuiet
            generalize hK : wpQuiet Try.prog _ _ _ _ = K
            rw [if_pos (by go_simp)]
            refine quiet_load3 _ _ _ rfl rfl q0 ?_
            go_simp
            subst hK
            unfold wpQuiet
            generalize hK : wpQuiet Try.prog _ _ _ _ = K
            go_simp
            refine ⟨_, fun w' hw => (ticks_any s _ w').mono fun e w'' hh => ⟨hh.1, below_class hw hh.2⟩, ?_⟩
            subst hK
            unfold wpQuiet
            generalize hK : wpQuiet Try.prog _ _ _ _ = K
            go_simp
            refine ⟨_, fun _ _ => rfl, ?_⟩
            subst hK
            unfold wpQuiet
            generalize hK : wpQuiet Try.prog _ _ _ _ = K
            go_simp
            refine ⟨_, fun _ _ => rfl, ?_⟩
            subst hK
            unfold wpQuiet
            generalize hK : wpQuiet Try.prog _ _ _ _ = K
            go_simp
            refine ⟨_, fun _ _ => rfl, ?_⟩
            subst hK
            refine wpQuiet_nil ?_
            intro W5 hb
            have HB5 := Hid.intro' (below_class HB.out hb)
            clear hb hs q0 q1 q2 q8
            go_wp2
            go_ret
            refine ⟨ret_boo ?_, HB5.out⟩
            rw [HR.out, rdB_n HP.out]
            simp only [decide_eq_true_eq] at k1 k2 k3
            by_cases hh : l ≤ DM.tk s p
            · have := tk_pos k3 hh
              simp [hh, k1, k2, k3, this]
            · simp [hh]
          · unfold wpQuiet
            generalize hK : wpQuiet Try.prog _ _ _ _ = K
            go_simp
            refine ⟨_, fun _ _ => rfl, ?_⟩
            subst hK
            unfold wpQuiet
            generalize hK : wpQuiet Try.prog _ _ _ _ = K
            rw [if_pos (by go_simp)]
            refine quiet_load3 _ _ _ rfl rfl q2 ?_
            go_simp
            subst hK
            unfold wpQuiet
            generalize hK : wpQuiet Try.prog _ _ _ _ = K
            go_simp
            refine ⟨_, fun _ _ => rfl, ?_⟩
            subst hK
            unfold wpQuiet
            generalize hK : wpQuiet Try.prog _ _ _ _ = K
            go_simp
            refine ⟨_, fun _ _ => rfl, ?_⟩
            subst hK
            unfold wpQuiet
            generalize hK : wpQuiet Try.prog _ _ _ _ = K
            go_simp
            refine ⟨_, fun _ _ => rfl, ?_⟩
            subst hK
            unfold wpQuiet
            generalize hK : wpQuiet Try.prog _ _ _ _ = K
            rw [if_pos (by go_simp)]
            refine quiet_load3 _ _ _ rfl rfl q2 ?_
            go_simp
            subst hK
            unfold wpQuiet
            generalize hK : wpQuiet Try.prog _ _ _ _ = K
            go_simp
            refine ⟨_, fun _ _ => rfl, ?_⟩
            subst hK
            unfold wpQuiet
            generalize hK : wpQuiet Try.prog _ _ _ _ = K
            rw [if_pos (by go_simp)]
            refine quiet_load3 _ _ _ rfl rfl q8 ?_
            go_simp
            subst hK
            unfold wpQuiet
            generalize hK : wpQuiet Try.prog _ _ _ _ = K
            go_simp
            refine ⟨_, fun _ _ => rfl, ?_⟩
            subst hK
            unfold wpQuiet
            generalize hK : wpQuiet Try.prog _ _ _ _ = K
            go_simp
            refine ⟨_, fun _ _ => rfl, ?_⟩
            subst hK
            unfold wpQuiet
            generalize hK : wpQuiet Try.prog _ _ _ _ = K
            go_simp
            refine ⟨_, fun _ _ => rfl, ?_⟩
            subst hK
            unfold wpQuiet
            generalize hK : wpQuiet Try.prog _ _ _ _ = K
            go_simp
            refine ⟨_, fun _ _ => rfl, ?_⟩
            subst hK
            unfold wpQuiet
            generalize hK : wpQuiet Try.prog _ _ _ _ = K
            rw [if_pos (by go_simp)]
            refine quiet_load3 _ _ _ rfl rfl q1 ?_
            go_simp
            subst hK
            unfold wpQuiet
            generalize hK : wpQuiet Try.prog _ _ _ _ = K
            go_simp
            refine ⟨_, fun _ _ => rfl, ?_⟩
            subst hK
            unfold wpQuiet
            generalize hK : wpQuiet Try.prog _ _ _ _ = K
            go_simp
            refine ⟨_, fun _ _ => rfl, ?_⟩
            subst hK
            unfold wpQuiet
            generalize hK : wpQuiet Try.prog _ _ _ _ = K
            go_simp
            refine ⟨_, fun _ _ => rfl, ?_⟩
            subst hK
            unfold wpQuiet
            generalize hK : wpQuiet Try.prog _ _ _ _ = K
            go_simp
            subst hK
            unfold wpQuiet
            generalize hK : wpQuiet Try.prog _ _ _ _ = K
            go_simp
            subst hK
            unfold wpQuiet
            generalize hK : wpQuiet Try.prog _ _ _ _ = K
            go_simp
            subst hK
            unfold wpQuiet
            generalize hK : wpQuiet Try.prog _ _ _ _ = K
            go_simp
            subst hK
            unfold wpQuiet
            generalize hK : wpQuiet Try.prog _ _ _ _ = K
            go_simp
            subst hK
            unfold wpQuiet
            generalize hK : wpQuiet Try.prog _ _ _ _ = K
            go_simp
            subst hK
            unfold wpQuiet
            generalize hK : wpQuiet Try.prog _ _ _ _ = K
            go_simp
            subst hK
            unfold wpQuiet
            generalize hK : wpQuiet Try.prog _ _ _ _ = K
            go_simp
            refine ⟨_, fun _ _ => rfl, ?_⟩
            subst hK
            unfold wpQuiet
            generalize hK : wpQuiet Try.prog _ _ _ _ = K
            go_simp
            refine ⟨_, fun _ _ => rfl, ?_⟩
            subst hK
            refine wpQuiet_nil ?_
            intro W5 hb
            have HB5 := Hid.intro' (below_class HB.out hb)
            clear hb hs q0 q1 q2 q8
            go_wp2
            go_ret
            refine ⟨ret_boo ?_, HB5.out⟩
            rw [HR.out, rdB_n HP.out]
            simp only [decide_eq_false_iff_not] at k3; symm; rw [decide_eq_false_iff_not]; omega
        · unfold wpQuiet
          generalize hK : wpQuiet Try.prog _ _ _ _ = K
          go_simp
          refine ⟨_, fun _ _ => rfl, ?_⟩
          subst hK
          unfold wpQuiet
          generalize hK : wpQuiet Try.prog _ _ _ _ = K
          rw [if_pos (by go_simp)]
          refine quiet_load3 _ _ _ rfl rfl q2 ?_
          go_simp
          subst hK
          unfold wpQuiet
          generalize hK : wpQuiet Try.prog _ _ _ _ = K
          go_simp
          refine ⟨_, fun _ _ => rfl, ?_⟩
          subst hK
          unfold wpQuiet
          generalize hK : wpQuiet Try.prog _ _ _ _ = K
          go_simp
          refine ⟨_, fun _ _ => rfl, ?_⟩
          subst hK
          unfold wpQuiet
          generalize hK : wpQuiet Try.prog _ _ _ _ = K
          go_simp
          refine ⟨_, fun _ _ => rfl, ?_⟩
          subst hK
          unfold wpQuiet
          generalize hK : wpQuiet Try.prog _ _ _ _ = K
          rw [if_pos (by go_simp)]
          refine quiet_load3 _ _ _ rfl rfl q2 ?_
          go_simp
          subst hK
          unfold wpQuiet
          generalize hK : wpQuiet Try.prog _ _ _ _ = K
          go_simp
          refine ⟨_, fun _ _ => rfl, ?_⟩
          subst hK
          unfold wpQuiet
          generalize hK : wpQuiet Try.prog _ _ _ _ = K
          rw [if_pos (by go_simp)]
          refine quiet_load3 _ _ _ rfl rfl q8 ?_
          go_simp
          subst hK
          unfold wpQuiet
          generalize hK : wpQuiet Try.prog _ _ _ _ = K
          go_simp
          refine ⟨_, fun _ _ => rfl, ?_⟩
          subst hK
          unfold wpQuiet
          generalize hK : wpQuiet Try.prog _ _ _ _ = K
          go_simp
          refine ⟨_, fun _ _ => rfl, ?_⟩
          subst hK
          unfold wpQuiet
          generalize hK : wpQuiet Try.prog _ _ _ _ = K
          go_simp
          refine ⟨_, fun _ _ => rfl, ?_⟩
          subst hK
          unfold wpQuiet
          generalize hK : wpQuiet Try.prog _ _ _ _ = K
          go_simp
          subst hK
          unfold wpQuiet
          generalize hK : wpQuiet Try.prog _ _ _ _ = K
          go_simp
          subst hK
          unfold wpQuiet
          generalize hK : wpQuiet Try.prog _ _ _ _ = K
          go_simp
          subst hK
          unfold wpQuiet
          generalize hK : wpQuiet Try.prog _ _ _ _ = K
          go_simp
          refine ⟨_, fun _ _ => rfl, ?_⟩
          subst hK
          unfold wpQuiet
          generalize hK : wpQuiet Try.prog _ _ _ _ = K
          go_simp
          refine ⟨_, fun _ _ => rfl, ?_⟩
          subst hK
          unfold wpQuiet
          generalize hK : wpQuiet Try.prog _ _ _ _ = K
          go_simp
          subst hK
          unfold wpQuiet
          generalize hK : wpQuiet Try.prog _ _ _ _ = K
          go_simp
          subst hK
          unfold wpQuiet
          generalize hK : wpQuiet Try.prog _ _ _ _ = K
          go_simp
          subst hK
          unfold wpQuiet
          generalize hK : wpQuiet Try.prog _ _ _ _ = K
          go_simp
          subst hK
          unfold wpQuiet
          generalize hK : wpQuiet Try.prog _ _ _ _ = K
          go_simp
          subst hK
          unfold wpQuiet
          generalize hK : wpQuiet Try.prog _ _ _ _ = K
          go_simp
          subst hK
          unfold wpQuiet
          generalize hK : wpQuiet Try.prog _ _ _ _ = K
          go_simp
          subst hK
          unfold wpQuiet
          generalize hK : wpQuiet Try.prog _ _ _ _ = K
          go_simp
          refine ⟨_, fun _ _ => rfl, ?_⟩
          subst hK
          unfold wpQuiet
          generalize hK : wpQuiet Try.prog _ _ _ _ = K
          go_simp
          refine ⟨_, fun _ _ => rfl, ?_⟩
          subst hK
          refine wpQuiet_nil ?_
          intro W5 hb
          have HB5 := Hid.intro' (below_class HB.out hb)
          clear hb hs q0 q1 q2 q8
          go_wp2
          go_ret
          refine ⟨ret_boo ?_, HB5.out⟩
          rw [HR.out, rdB_n HP.out]
          simp only [decide_eq_false_iff_not] at k2; symm; rw [decide_eq_false_iff_not]; omega
      · unfold wpQuiet
        generalize hK : wpQuiet Try.prog _ _ _ _ = K
        go_simp
        refine ⟨_, fun _ _ => rfl, ?_⟩
        subst hK
        unfold wpQuiet
        generalize hK : wpQuiet Try.prog _ _ _ _ = K
        rw [if_pos (by go_simp)]
        refine quiet_load3 _ _ _ rfl rfl q2 ?_
        go_simp
        subst hK
        unfold wpQuiet
        generalize hK : wpQuiet Try.prog _ _ _ _ = K
        go_simp
        refine ⟨_, fun _ _ => rfl, ?_⟩
        subst hK
        unfold wpQuiet
        generalize hK : wpQuiet Try.prog _ _ _ _ = K
        go_simp
        refine ⟨_, fun _ _ => rfl, ?_⟩
        subst hK
        unfold wpQuiet
        generalize hK : wpQuiet Try.prog _ _ _ _ = K
        go_simp
        subst hK
        unfold wpQuiet
        generalize hK : wpQuiet Try.prog _ _ _ _ = K
        go_simp
        subst hK
        unfold wpQuiet
        generalize hK : wpQuiet Try.prog _ _ _ _ = K
        go_simp
        subst hK
        unfold wpQuiet
        generalize hK : wpQuiet Try.prog _ _ _ _ = K
        go_simp
        subst hK
        unfold wpQuiet
        generalize hK : wpQuiet Try.prog _ _ _ _ = K
        go_simp
        subst hK
        unfold wpQuiet
        generalize hK : wpQuiet Try.prog _ _ _ _ = K
        go_simp
        refine ⟨_, fun _ _ => rfl, ?_⟩
        subst hK
        unfold wpQuiet
        generalize hK : wpQuiet Try.prog _ _ _ _ = K
        go_simp
        refine ⟨_, fun _ _ => rfl, ?_⟩
        subst hK
        unfold wpQuiet
        generalize hK : wpQuiet Try.prog _ _ _ _ = K
        go_simp
        subst hK
        unfold wpQuiet
        generalize hK : wpQuiet Try.prog _ _ _ _ = K
        go_simp
        subst hK
        unfold wpQuiet
        generalize hK : wpQuiet Try.prog _ _ _ _ = K
        go_simp
        subst hK
        unfold wpQuiet
        generalize hK : wpQuiet Try.prog _ _ _ _ = K
        go_simp
        refine ⟨_, fun _ _ => rfl, ?_⟩
        subst hK
        unfold wpQuiet
        generalize hK : wpQuiet Try.prog _ _ _ _ = K
        go_simp
        refine ⟨_, fun _ _ => rfl, ?_⟩
        subst hK
        unfold wpQuiet
        generalize hK : wpQuiet Try.prog _ _ _ _ = K
        go_simp
        subst hK
        unfold wpQuiet
        generalize hK : wpQuiet Try.prog _ _ _ _ = K
        go_simp
        subst hK
        unfold wpQuiet
        generalize hK : wpQuiet Try.prog _ _ _ _ = K
        go_simp
        subst hK
        unfold wpQuiet
        generalize hK : wpQuiet Try.prog _ _ _ _ = K
        go_simp
        subst hK
        unfold wpQuiet
        generalize hK : wpQuiet Try.prog _ _ _ _ = K
        go_simp
        subst hK
        unfold wpQuiet
        generalize hK : wpQuiet Try.prog _ _ _ _ = K
        go_simp
        subst hK
        unfold wpQuiet
        generalize hK : wpQuiet Try.prog _ _ _ _ = K
        go_simp
        subst hK
        unfold wpQuiet
        generalize hK : wpQuiet Try.prog _ _ _ _ = K
        go_simp
        refine ⟨_, fun _ _ => rfl, ?_⟩
        subst hK
        unfold wpQuiet
        generalize hK : wpQuiet Try.prog _ _ _ _ = K
        go_simp
        refine ⟨_, fun _ _ => rfl, ?_⟩
        subst hK
        refine wpQuiet_nil ?_
        intro W5 hb
        have HB5 := Hid.intro' (below_class HB.out hb)
        clear hb hs q0 q1 q2 q8
        go_wp2
        go_ret
        refine ⟨ret_boo ?_, HB5.out⟩
        rw [HR.out, rdB_n HP.out]
        simp only [decide_eq_false_iff_not] at k1; symm; rw [decide_eq_false_iff_not]; omega
  · refine (right_f s R _).mono ?_
    rintro e W1 ⟨rfl, hb⟩
    have HB2 := Hid.intro' (below_class (((Below.refl _ w).alloc (Nat.le_refl _) _).alloc (by simp) _) hb)
    have HR := Hid.intro' (drB_f R p l r h)
    clear hb R
    go_wp2
    go_ret
    exact ⟨ret_boo HR.out.symm, HB2.out⟩

set_option maxHeartbeats 2000000 in
theorem rdright_any (s : St) (p l r : Int) (h : Bool) (w : World) :
    Calls Try.prog 32 #[.agg (sv s).toArray, .agg #[.int .i64 p, .int .i64 l, .int .i64 r, .bool h]] w fun e w' => e = .returned (.bool (drB s p l r h)) ∧ Below w.heap.size w w' := by
  go_enter Try.func32, Try.ntmps32
  go_wp2_with (refine wpList_load23 rfl _ rfl w.heap.size s rfl ((SB.new w s).alloc _) ?_)
  by_cases R : SM.Rt s
  · refine (calls_keep2 (bs := w.heap.size) (bd := w.heap.size + 1) (rright_t s R _) (((Below.refl _ w).alloc (Nat.le_refl _) _).alloc (by simp) _) ((SB.new w s).alloc _) (DB.new' _ p l r h (by simp))).mono ?_
    rintro e W1 ⟨rfl, hB, hs, hd⟩
    have HB := Hid.intro' hB
    have HR := Hid.intro' (fun p l r h => drB_t R p l r h)
    have a0 := hd.c0; have a1 := hd.c1; have a2 := hd.c2; have a3 := hd.c3
    have c5 : W1.cell? ⟨w.heap.size, 5, none⟩ = some (.int .i64 s.opn) := hs.cell 5
    have c6 : W1.cell? ⟨w.heap.size, 6, none⟩ = some (.int .i64 s.wai) := hs.cell 6
    have c7 : W1.cell? ⟨w.heap.size, 7, none⟩ = some (.int .i64 s.clo) := hs.cell 7
    have c8 : W1.cell? ⟨w.heap.size, 8, none⟩ = some (.int .i64 s.nud) := hs.cell 8
    clear hB hs hd R
    go_wp2
    all_goals
      clear a0 a1 a2 a3 c5 c6 c7 c8
      go_ret
      refine ⟨ret_boo ?_, HB.out⟩
      rw [HR.out]
      clear HR HB
      unfold rdB DM.tk
      first | (simp_all; done) | (simp_all; omega)
  · refine (rright_f s R _).mono ?_
    rintro e W1 ⟨rfl, hb⟩
    have HB2 := Hid.intro' (below_class (((Below.refl _ w).alloc (Nat.le_refl _) _).alloc (by simp) _) hb)
    have HR := Hid.intro' (drB_f R p l r h)
    clear hb R
    go_wp2
    go_ret
    exact ⟨ret_boo HR.out.symm, HB2.out⟩

end Go.Proofs.Ytjcccdlhdffbdac
