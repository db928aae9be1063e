/- Service and bound, as the program and as the document's answer reckon them. -/
import Derived.Test.YtjcccdlhdffbdacSiteR
namespace Go.Proofs.Ytjcccdlhdffbdac
open Go.RowKit

theorem SM.nud_one (k c : Int) : (k + 1) * c = k * c + c := by rw [Int.add_mul, Int.one_mul]

set_option maxHeartbeats 1000000 in
theorem rservice_of (s : St) (r : SM.Rt s) (h g : Int) (hg : SM.hol h = g) (hp : (h < 0 ∧ g = 0) ∨ (0 ≤ h ∧ 1000000 < h ∧ g = 1000000) ∨ (0 ≤ h ∧ h ≤ 1000000 ∧ g = h)) (w : World) :
    Calls Try.prog 22 #[.agg (sv s).toArray, .int .i64 h] w fun e w' => e = .returned (.int .i64 (SM.ser s h)) ∧ Below w.heap.size w w' := by
  have n0 := SB.new w s
  have hc0 := n0.c0
  have hc2 := n0.c2
  have hc3 := n0.c3
  have hc4 := n0.c4
  have hc5 := n0.c5
  have hc6 := n0.c6
  have hc7 := n0.c7
  have hc8 := n0.c8
  have HB : Hid (Below w.heap.size w (w.alloc (.cells (sv s).toArray 23))) := Hid.intro' ((Below.refl _ w).alloc (Nat.le_refl _) _)
  have f1 := r.fl1
  have f2 := r.fl2
  have a1 := r.sta1
  have a2 := r.sta2
  have a3 := r.sto1
  have a4 := r.sto2
  have a5 := r.opn1
  have a6 := r.opn2
  have a7 := r.wai1
  have a8 := r.wai2
  have a9 := r.clo1
  have a10 := r.clo2
  have a11 := r.nud1
  have a12 := r.nud2
  obtain ⟨m1, m2⟩ := SM.step_bd r (d := s.fl - 1) (by omega) (by omega)
  have g1 := SM.hol_bd h
  rw [hg] at g1
  obtain ⟨g1, g2⟩ := g1
  have HE := Hid.intro' (show SM.ser s h = s.sta + s.ste * (s.fl - 1) + s.sto + (s.opn + s.wai + s.clo + 4) + s.nud * (s.opn + s.wai + s.clo + 4 + g) by
    unfold SM.ser SM.run; rw [hg])
  clear n0 hg r
  have HM : Hid (∀ k : Int, 0 ≤ k → k ≤ s.nud → 0 ≤ k * (s.opn + s.wai + s.clo + 4 + g) ∧ k * (s.opn + s.wai + s.clo + 4 + g) ≤ 10030040) := Hid.intro' (fun k k1 k2 => by
    have := SM.mul_bd (a := k) (b := s.opn + s.wai + s.clo + 4 + g) (A := 10) (B := 1003004) k1 (by omega) (by omega) (by omega)
    omega)
  rcases hp with ⟨p1, rfl⟩ | ⟨p1, p2, rfl⟩ | ⟨p1, p2, rfl⟩
  · go_enter Try.func22, Try.ntmps22
    go_wp2
    go_loop [5, 6] (fun n i => ∃ k m : Int, 0 ≤ k ∧ k ≤ s.nud ∧ 0 ≤ m ∧ m ≤ 10030040 ∧ n = .int .i64 (s.sta + s.ste * (s.fl - 1) + s.sto + (s.opn + s.wai + s.clo + 4) + m) ∧ i = .int .i64 k ∧ Hid (m = k * (s.opn + s.wai + s.clo + 4 + 0))) (fun _ i => (s.nud - intOf i).toNat)
    case atStart => exact ⟨0, 0, by omega, by omega, by omega, by omega, by go_num, rfl, Hid.intro' (by simp)⟩
    case round =>
      obtain ⟨k, m, hk1, hk2, hm1, hm2, rfl, rfl, HK⟩ := hrel
      by_cases hl : k < s.nud
      · have HM2 := Hid.intro' (show m + (s.opn + s.wai + s.clo + 4 + 0) = (k + 1) * (s.opn + s.wai + s.clo + 4 + 0) by rw [SM.nud_one, ← HK.out])
        have hb := HM.out (k + 1) (by omega) (by omega)
        rw [← HM2.out] at hb
        obtain ⟨hb1, hb2⟩ := hb
        go_wp2
        go_round
        case rel => exact ⟨k + 1, _, by omega, by omega, hb1, hb2, by go_num, by go_num, HM2⟩
        case measure => simp [intOf]; omega
      · obtain rfl : k = s.nud := by omega
        go_wp2
        go_ret
        exact ⟨ret_int (by rw [HE.out, ← HK.out]), HB.out⟩
  · go_enter Try.func22, Try.ntmps22
    go_wp2
    go_loop [5, 6] (fun n i => ∃ k m : Int, 0 ≤ k ∧ k ≤ s.nud ∧ 0 ≤ m ∧ m ≤ 10030040 ∧ n = .int .i64 (s.sta + s.ste * (s.fl - 1) + s.sto + (s.opn + s.wai + s.clo + 4) + m) ∧ i = .int .i64 k ∧ Hid (m = k * (s.opn + s.wai + s.clo + 4 + 1000000))) (fun _ i => (s.nud - intOf i).toNat)
    case atStart => exact ⟨0, 0, by omega, by omega, by omega, by omega, by go_num, rfl, Hid.intro' (by simp)⟩
    case round =>
      obtain ⟨k, m, hk1, hk2, hm1, hm2, rfl, rfl, HK⟩ := hrel
      by_cases hl : k < s.nud
      · have HM2 := Hid.intro' (show m + (s.opn + s.wai + s.clo + 4 + 1000000) = (k + 1) * (s.opn + s.wai + s.clo + 4 + 1000000) by rw [SM.nud_one, ← HK.out])
        have hb := HM.out (k + 1) (by omega) (by omega)
        rw [← HM2.out] at hb
        obtain ⟨hb1, hb2⟩ := hb
        go_wp2
        go_round
        case rel => exact ⟨k + 1, _, by omega, by omega, hb1, hb2, by go_num, by go_num, HM2⟩
        case measure => simp [intOf]; omega
      · obtain rfl : k = s.nud := by omega
        go_wp2
        go_ret
        exact ⟨ret_int (by rw [HE.out, ← HK.out]), HB.out⟩
  · go_enter Try.func22, Try.ntmps22
    go_wp2
    go_loop [5, 6] (fun n i => ∃ k m : Int, 0 ≤ k ∧ k ≤ s.nud ∧ 0 ≤ m ∧ m ≤ 10030040 ∧ n = .int .i64 (s.sta + s.ste * (s.fl - 1) + s.sto + (s.opn + s.wai + s.clo + 4) + m) ∧ i = .int .i64 k ∧ Hid (m = k * (s.opn + s.wai + s.clo + 4 + g))) (fun _ i => (s.nud - intOf i).toNat)
    case atStart => exact ⟨0, 0, by omega, by omega, by omega, by omega, by go_num, rfl, Hid.intro' (by simp)⟩
    case round =>
      obtain ⟨k, m, hk1, hk2, hm1, hm2, rfl, rfl, HK⟩ := hrel
      by_cases hl : k < s.nud
      · have HM2 := Hid.intro' (show m + (s.opn + s.wai + s.clo + 4 + g) = (k + 1) * (s.opn + s.wai + s.clo + 4 + g) by rw [SM.nud_one, ← HK.out])
        have hb := HM.out (k + 1) (by omega) (by omega)
        rw [← HM2.out] at hb
        obtain ⟨hb1, hb2⟩ := hb
        go_wp2
        go_round
        case rel => exact ⟨k + 1, _, by omega, by omega, hb1, hb2, by go_num, by go_num, HM2⟩
        case measure => simp [intOf]; omega
      · obtain rfl : k = s.nud := by omega
        go_wp2
        go_ret
        exact ⟨ret_int (by rw [HE.out, ← HK.out]), HB.out⟩
theorem SM.hol_cases (h : Int) : (h < 0 ∧ SM.hol h = 0) ∨ (0 ≤ h ∧ 1000000 < h ∧ SM.hol h = 1000000) ∨ (0 ≤ h ∧ h ≤ 1000000 ∧ SM.hol h = h) := by
  unfold SM.hol; split
  · exact .inl ⟨by assumption, rfl⟩
  · split
    · exact .inr (.inl ⟨by omega, by assumption, rfl⟩)
    · exact .inr (.inr ⟨by omega, by omega, rfl⟩)
theorem rservice_any (s : St) (r : SM.Rt s) (h : Int) (w : World) :
    Calls Try.prog 22 #[.agg (sv s).toArray, .int .i64 h] w fun e w' => e = .returned (.int .i64 (SM.ser s h)) ∧ Below w.heap.size w w' :=
  rservice_of s r h _ rfl (SM.hol_cases h) w

end Go.Proofs.Ytjcccdlhdffbdac
