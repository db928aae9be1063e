/- The cars that may serve a want, gone through by a function that is ranged over. -/
import Derived.Test.YtdfdkddjkhcgdahPk8
import Derived.Test.YtdfdkddjkhcgdahPlE
import Derived.RangeFuncBound
import Derived.Shelf.RegionOpen
import Derived.TacticsInMore
import Derived.LoopNIn
import Derived.LoopIn
import Derived.OwnWalkIn
namespace Go.Proofs.Ytdfdkddjkhcgdah
open Go.RowKit Go.Shelf
attribute [local go_sem] Oper.semAt_some

/-- the cars, of the first n, that stand in m -/
def svl (m n : Nat) : List Nat := (List.range n).filter (PM.bt m)
theorem svl_succ (m n : Nat) : svl m (n + 1) = svl m n ++ if PM.bt m n = true then [n] else [] := by
  unfold svl
  rw [List.range_succ, List.filter_append]
  congr 1
  by_cases h : PM.bt m n = true
  · simp [h]
  · simp [h]
theorem svl_pre {m c n : Nat} (h : c ≤ n) : svl m c <+: svl m n := by
  induction n with
  | zero => rw [show c = 0 by omega]; exact List.prefix_rfl
  | succ n ih =>
    by_cases e : c = n + 1
    · rw [e]; exact List.prefix_rfl
    · rw [svl_succ]; exact (ih (by omega)).trans (List.prefix_append _ _)
/-- what is handed out -/
def EC (n : Nat) (c : Nat) (_ : Nat → Prop) (_ : World) (args : Array Value) : Prop := args = #[.int .i64 (c : Int)] ∧ c < n
/-- what holds between two cars -/
structure Cj (w W : World) (c1 c2 : Nat) (f : Int) (m n : Nat) (J : List Nat → (Nat → Prop) → World → Prop) (pre : List Nat) : Prop where
  b1 : W.heap[c1]? = some (.cells #[.int .i64 (n : Int)] 3 (0, 0))
  b2 : W.heap[c2]? = some (.cells #[.int .i64 f, .int .i64 (m : Int)] 61 (0, 0))
  jj : J pre (fun _ => False) W
  sz : w.heap.size ≤ W.heap.size
set_option maxRecDepth 100000 in
set_option maxHeartbeats 4000000 in
theorem serving_seq (c1 c2 : Nat) (f : Int) (m n : Nat) (G : Nat → Prop) (w : World) (h1 : w.heap[c1]? = some (.cells #[.int .i64 (n : Int)] 3 (0, 0))) (h2 : w.heap[c2]? = some (.cells #[.int .i64 f, .int .i64 (m : Int)] 61 (0, 0))) (g1 : G c1) (g2 : G c2) (hn : n ≤ 8) :
    SeqF Try.prog 95 #[.pointer (some ⟨c1, 0, none⟩), .pointer (some ⟨c2, 0, none⟩)] (EC n) (fun _ => False) G (fun xs => xs = svl m n) (fun pre => pre <+: svl m n) w := by
  intro nn lo J Jx W hW hJ hJx hY h0
  show CallsIn Fence.wide nn Try.prog 95 #[.func (.yield lo) #[] #[], .pointer (some ⟨c1, 0, none⟩), .pointer (some ⟨c2, 0, none⟩)] W _
  have HQ0 : Hid (Cj w W c1 c2 f m n J (svl m 0)) := ⟨(hW.block c1 (Array.getElem?_eq_some_iff.1 h1).1).trans h1, (hW.block c2 (Array.getElem?_eq_some_iff.1 h2).1).trans h2, h0, hW.size⟩
  have HY := Hid.intro' hY
  have HG := Hid.intro' (And.intro g1 g2)
  have cp : W.cell? ⟨c1, 0, none⟩ = some (.int .i64 (n : Int)) := by rw [cell_of_row _ _ 0 _ _ _ HQ0.out.b1]; rfl
  refine callsIn_of_wp Try.func95 rfl trivial ?_ rfl
  simp only [Try.ntmps95, List.size_toArray, List.length_cons, List.length_nil, Nat.reduceAdd, Nat.reduceSub, Array.replicate_succ, Array.replicate_zero, List.push_toArray, List.append_toArray, List.nil_append, List.cons_append]
  have hwf : ∀ k, Fence.wide.fn k := fun _ => trivial
  have hdd : ∀ k : Nat, (Fence.wide.depth.isSome = true → 1 ≤ k) := fun k h => by cases h
  clear h1 h2 g1 g2 hW hJ hJx hY h0
  gi_wp2_with fail
  gi_loopw [6] (fun i wr => ∃ (c : Nat), c ≤ n ∧ i = .int .i64 (c : Int) ∧ Hid (Cj w wr c1 c2 f m n J (svl m c))) (fun i _ => n - (intOf i).toNat)
  case atStart => exact ⟨0, Nat.zero_le _, rfl, HQ0⟩
  case round =>
    clear HQ0 cp
    obtain ⟨c, hcn, rfl, HQ⟩ := hrel
    by_cases hlt : c < n
    · have hcz : (c : Int) < (n : Int) := by omega
      have cm : wr.cell? ⟨c2, 1, none⟩ = some (.int .i64 (m : Int)) := by rw [cell_of_row _ _ 1 _ _ _ HQ.out.b2]; rfl
      have hsh := shr_any m c (by omega)
      have hbb := bt_bits m c
      have HSU := Hid.intro' (svl_succ m c)
      cases hbt : PM.bt m c with
      | false =>
        rw [hbt] at hbb HSU
        have HQ2 : Hid (Cj w wr c1 c2 f m n J (svl m (c + 1))) := by
          rw [HSU.out, if_neg (by simp), List.append_nil]; exact HQ.out
        clear hbt HQ HSU
        gi_wp2
        go_roundw
        case rel => exact ⟨c + 1, by omega, by go_num, HQ2⟩
        case measure => simp [intOf]; omega
      | true =>
        rw [hbt, if_pos rfl] at HSU
        rw [hbt] at hbb
        obtain ⟨fn, tmps, assign, body, hy5, hR5⟩ := HY.out (nn - 1) _ c (fun _ => False) wr #[.int .i64 (c : Int)] HQ.out.jj ⟨rfl, hlt⟩
        have HR5 := Hid.intro' hR5
        have HPR : Hid (svl m c ++ [c] <+: svl m n) := by rw [← HSU.out]; exact svl_pre (by omega)
        clear hR5 hbt
        gi_wp2_with fail
        refine ⟨hdd _, HR5.out.mono ?_⟩
        rintro e W6 (⟨rfl, hj6, hk6⟩ | ⟨rfl, hx6, _⟩)
        · have HQ6 : Hid (Cj w W6 c1 c2 f m n J (svl m (c + 1))) := by
            rw [HSU.out]
            exact ⟨(hk6.same c1 (Array.getElem?_eq_some_iff.1 HQ.out.b1).1 (.inr HG.out.1)).trans HQ.out.b1, (hk6.same c2 (Array.getElem?_eq_some_iff.1 HQ.out.b2).1 (.inr HG.out.2)).trans HQ.out.b2, hj6, Nat.le_trans HQ.out.sz hk6.size⟩
          clear hj6 hk6 HQ hy5 HR5 HPR cm
          gi_wp2
          go_roundw
          case rel => exact ⟨c + 1, by omega, by go_num, HQ6⟩
          case measure => simp [intOf]; omega
        · have HX6 := Hid.intro' (And.intro HPR.out hx6)
          clear hx6 HQ hy5 HR5 HPR cm
          gi_wp2
          refine bodyPost_ret (results_none rfl _ _ _) rfl ?_
          exact ⟨⟨_, rfl⟩, .inr ⟨_, _, HX6.out.1, HX6.out.2⟩⟩
    · have hcz : ¬ (c : Int) < (n : Int) := by omega
      have HE := Hid.intro' HQ.out.jj
      rw [show c = n by omega] at HE
      clear HQ
      gi_wp2
      go_end0
      exact ⟨⟨_, rfl⟩, .inl ⟨_, HE.out⟩⟩

set_option maxHeartbeats 1000000 in
theorem serving_any (f : Int) (m n : Nat) (w : World) : Calls Try.prog 76 #[.agg #[.int .i64 f, .int .i64 (m : Int)], .int .i64 (n : Int)] w fun e w' => e = .returned (.func (.func 95) #[] #[.pointer (some ⟨w.heap.size + 1, 0, none⟩), .pointer (some ⟨w.heap.size, 0, none⟩)]) ∧ w' = (w.alloc (.cells #[.int .i64 f, .int .i64 (m : Int)] 61)).alloc (.cells #[.int .i64 (n : Int)] 3) := by
  go_enter Try.func76, Try.ntmps76
  go_wp2
  go_ret
  exact ⟨rfl, rfl⟩

end Go.Proofs.Ytdfdkddjkhcgdah
