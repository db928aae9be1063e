/- A plan on its way: the last want is taken back; whether a list may end; whether nothing is left. -/
import Derived.Test.YtkcppidmbojglafPlE
namespace Go.Proofs.Ytkcppidmbojglaf
open Go.RowKit

section
variable {W : World} {B b sb lb : Nat} {vw : Value} {vs : List Value} {G : Nat → Prop} {ws : List (Int × Int)} {st : List Bool} {ls : List (List Int)}
set_option maxHeartbeats 4000000 in
theorem giveBack_any (h : Dq W B b sb lb vw vs G ws st ls) (c i : Nat) (x : Bool) (l : List Int) (hx : st[i]? = some x) (hl : ls[c]? = some (l ++ [(i : Int)])) (hll : l.length ≤ 100000) :
    Calls Try.prog 60 #[.pointer (some ⟨b, 0, none⟩), .int .i64 (c : Int)] W fun e w' => (∃ v, e = .returned v) ∧ ∃ vs', Dq w' B b sb lb vw vs' G ws (st.set i false) (ls.set c l) ∧
      Kp (fp b sb lb vs) W w' ∧ ∀ k, fp b sb lb vs' k → fp b sb lb vs k := by
  obtain ⟨v, hv, hov⟩ := h.val hl
  obtain ⟨g, cap, rfl, hgB, hgW, hlc, hcm⟩ : ∃ g cap, v = .slice (some ⟨g, 0, none⟩) (l.length + 1) cap ∧ B ≤ g ∧ g < W.heap.size ∧ l.length + 1 ≤ cap ∧ cap ≤ maxLen := by
    rcases hov.form with ⟨_, e⟩ | ⟨g, cap, e, h1, h2, h3, h4⟩
    · simp at e
    · exact ⟨g, cap, by rw [e]; simp, h1, h2, by simpa using h3, h4⟩
  have c1 := h.c1
  have c2 := h.c2
  have d1 := h.cs hx
  have d2 := h.fs i
  have e1 := h.cl hv
  have e2 : W.cell? ⟨g, l.length, none⟩ = some (.int .i64 (i : Int)) := hov.cell (by simp)
  have hi : (i : Int) < (st.length : Int) := by have := (List.getElem?_eq_some_iff.1 hx).1; omega
  have hj : (c : Int) < (ls.length : Int) := by have := (List.getElem?_eq_some_iff.1 hl).1; omega
  have hz : (l.length : Int) ≤ 100000 := by omega
  have hcz : (l.length : Int) + 1 ≤ (cap : Int) := by omega
  have HM := Hid.intro' (h.mark i false)
  have HK := Hid.intro' ((Kp.refl (fp b sb lb vs) W).set sb i (.bool false) (fun _ => .inr (.inl rfl)))
  have HV := Hid.intro' hv
  have HL := Hid.intro' hl
  clear h hx hl hv hov
  go_enter Try.func60, Try.ntmps60
  go_wp2_with fail
  go_region
  clear c1 c2 d1 d2 e1 e2
  go_wp2_with fail
  have HMd := Hid.intro' HM.out.drew
  have HKd := Hid.intro' HK.out.drew
  generalize (W.setCell ⟨sb, i, none⟩ (.bool false)).drew = W7 at HMd HKd ⊢
  have c2 := HMd.out.c2
  have d2 := HMd.out.fl c
  have e1 := HMd.out.cl HV.out
  go_region
  have hW8 : Hid (∃ vs', Dq (W7.setCell ⟨lb, c, none⟩ (.slice (some ⟨g, 0, none⟩) l.length cap)) B b sb lb vw vs' G ws (st.set i false) (ls.set c l) ∧
      Kp (fp b sb lb vs) W (W7.setCell ⟨lb, c, none⟩ (.slice (some ⟨g, 0, none⟩) l.length cap)) ∧ ∀ k, fp b sb lb vs' k → fp b sb lb vs k) := by
    refine ⟨_, HMd.out.store HV.out (Nat.le_refl _) (fun _ _ _ => rfl) ((HMd.out.own c _ _ HV.out HL.out).drop rfl) (fun g hg => .inl hg), HKd.out.set lb c _ (fun _ => .inr (.inr (.inl rfl))), fun k hk => ?_⟩
    rcases fp_set hk with h | h
    · exact h
    · exact .inr (.inr (.inr ⟨c, _, HV.out, h⟩))
  clear c2 d2 e1 HMd HKd HM HK
  go_wp2_with fail
  go_end0
  obtain ⟨vs', h1, h2, h3⟩ := hW8.out
  exact ⟨⟨_, rfl⟩, vs', h1.drew, h2.drew, h3⟩
theorem shr1_any (m c : Nat) (hc : c ≤ 8) (W : World) : (binOp .shr 3 (.int .i64 (m : Int)) (.int .i64 ((c : Int) + 1))).run Try.prog W = .ok (.int .i64 ((m / 2 ^ (c + 1) : Nat) : Int)) W := by
  have := shr_any m (c + 1) (by omega) W
  rwa [Int.natCast_add] at this
theorem div_zero (m c : Nat) : ((m : Int) / 2 ^ (c + 1) == 0) = (m / 2 ^ (c + 1) == 0) := by
  have h : (m : Int) / 2 ^ (c + 1) = ((m / 2 ^ (c + 1) : Nat) : Int) := by rw [Int.natCast_ediv, Int.natCast_pow]; rfl
  rw [h, Bool.eq_iff_iff]
  simp only [beq_iff_eq]
  omega
set_option maxHeartbeats 4000000 in
theorem mayEnd_any (h : Dq W B b sb lb vw vs G ws st ls) (ms : List Nat) (hmk : Mk ws ms) (hsl : st.length = ws.length) (hwl : ws.length ≤ 200) (c : Nat) (hc : c ≤ 8) :
    Calls Try.prog 61 #[.pointer (some ⟨b, 0, none⟩), .int .i64 (c : Int)] W fun e w' => e = .returned (.bool (PM.meTo ms st c ms.length)) ∧ Below W.heap.size W w' := by
  obtain ⟨aw, kw, rfl, _, _⟩ := h.rw.form
  have c0 := h.c0
  have HD := Hid.intro' h
  have HMK := Hid.intro' hmk
  have hcz : (c : Int) ≤ 8 := by omega
  have hwz : (ws.length : Int) ≤ 200 := by omega
  have HSL := Hid.intro' hsl
  have hsz : (st.length : Int) = (ws.length : Int) := by omega
  clear h hmk hsl
  go_enter Try.func61, Try.ntmps61
  go_wp2_with fail
  clear c0
  go_loopw [12] (fun i wr => ∃ k : Nat, k ≤ ws.length ∧ i = .int .i64 (k : Int) ∧ Hid (Below W.heap.size W wr) ∧ Hid (PM.meTo ms st c k = true)) (fun i _ => ws.length - (intOf i).toNat)
  case atStart => exact ⟨0, Nat.zero_le _, rfl, Below.refl _ _, rfl⟩
  case round =>
    obtain ⟨k, hk, rfl, HB, HA⟩ := hrel
    by_cases hlt : k < ws.length
    · have hkz : (k : Int) < (ws.length : Int) := by omega
      have hkz2 : (k : Int) < (st.length : Int) := by omega
      obtain ⟨y, hy⟩ : ∃ y, ws[k]? = some y := ⟨_, List.getElem?_eq_getElem hlt⟩
      obtain ⟨x, hx⟩ : ∃ x, st[k]? = some x := ⟨_, List.getElem?_eq_getElem (by have := HSL.out; omega)⟩
      obtain ⟨m, hm, hym⟩ := HMK.out.eq k y hy
      obtain ⟨gb, o, rfl, e0, e1⟩ := (HD.out.below' HB.out).rw.at hy
      rw [hym] at e1
      have hb1 := (Below.refl wr.heap.size wr).alloc (Nat.le_refl _) (.cells #[.int .i64 y.1, .int .i64 (m : Int)] 40)
      have HB1 := Hid.intro' (below_class HB.out hb1)
      have f1 := (HD.out.below' HB1.out).c1
      have f2 := (HD.out.below' HB1.out).cs hx
      have hsh := shr1_any m c hc
      have HNEXT := Hid.intro' (PM.meTo_succ ms st c k)
      rw [HA.out, hx, hm] at HNEXT
      have hqz := div_zero m c
      have HY := Hid.intro' hy
      clear hy hx hm hym hb1
      cases x with
      | true =>
        clear hqz hsh
        go_wp2
        go_roundw
        case rel => exact ⟨k + 1, by omega, by go_num, HB1, by rw [HNEXT.out]; rfl⟩
        case measure => simp [intOf]; omega
      | false =>
        cases hq : (m / 2 ^ (c + 1) == 0) with
        | true =>
          rw [hq] at hqz
          go_wp2
          go_ret
          refine ⟨ret_bool ?_, HB1.out⟩
          have hf : PM.meTo ms st c (k + 1) = false := by rw [HNEXT.out]; simp at hq ⊢; exact hq
          exact (PM.meTo_false hf (by have := HMK.out.len; omega)).symm
        | false =>
          rw [hq] at hqz
          go_wp2
          go_roundw
          case rel => exact ⟨k + 1, by omega, by go_num, HB1, by rw [HNEXT.out]; simp at hq ⊢; exact hq⟩
          case measure => simp [intOf]; omega
    · have hkz : ¬ (k : Int) < (ws.length : Int) := by omega
      have HE : Hid (PM.meTo ms st c ms.length = true) := by
        have h := HA.out
        rw [show k = ms.length by have := HMK.out.len; omega] at h
        exact h
      go_wp2
      go_ret
      exact ⟨ret_bool HE.out.symm, HB.out⟩
set_option maxHeartbeats 1000000 in
theorem everyB (g n : Nat) (st : List Bool) (w : World) (hg : w.heap[g]? = some (.cells (bv st).toArray 4 (0, 0))) (hn : st.length = n) (hL : n ≤ 200) :
    Calls Try.prog 54 #[.slice (some ⟨g, 0, none⟩) n n, .func (.func 55) #[] #[]] w fun e w' => e = .returned (.bool (st.all id)) ∧ w' = w := by
  have HG := Hid.intro' hg
  have HN := Hid.intro' hn
  clear hg hn
  go_enter Try.func54, Try.ntmps54
  go_wp2
  go_loop [6, 9] (fun _ i => ∃ k : Nat, k ≤ n ∧ i = .int .i64 k ∧ Hid ((st.take k).all id = true)) (fun _ i => n - (intOf i).toNat)
  case atStart => exact ⟨0, Nat.zero_le _, rfl, rfl⟩
  case round =>
    obtain ⟨k, hk, rfl, HNO⟩ := hrel
    by_cases hlt2 : k < n
    · have hkz : (k : Int) < (n : Int) := by omega
      obtain ⟨y, hy⟩ : ∃ y, st[k]? = some y := ⟨_, List.getElem?_eq_getElem (by have := HN.out; omega)⟩
      have c0 : w.cell? ⟨g, k, none⟩ = some (.bool y) := (blk_cell HG.out k).trans (bv_some hy)
      have HY := Hid.intro' hy
      clear hy
      cases y with
      | true =>
        go_wp2
        go_round
        case rel => exact ⟨k + 1, by omega, by go_num, by rw [all_take HY.out, HNO.out]; rfl⟩
        case measure => simp [intOf]; omega
      | false =>
        go_wp2
        go_ret
        exact ⟨ret_bool (all_not HY.out rfl).symm, rfl⟩
    · have HKN : Hid (k = n) := by show k = n; omega
      have hkz : ¬ (k : Int) < (n : Int) := by omega
      go_wp2
      go_ret
      refine ⟨ret_bool ?_, rfl⟩
      have h1 := HNO.out
      rw [HKN.out, ← HN.out, List.take_length] at h1
      exact h1.symm
set_option maxHeartbeats 1000000 in
theorem nothingLeft_any (h : Dq W B b sb lb vw vs G ws st ls) (hwl : st.length ≤ 200) :
    Calls Try.prog 40 #[.pointer (some ⟨b, 0, none⟩)] W fun e w' => e = .returned (.bool (st.all id)) ∧ w' = W := by
  have c1 := h.c1
  have HC := Hid.intro' (everyB sb st.length st W h.hs rfl hwl)
  clear h
  go_enter Try.func40, Try.ntmps40
  go_wp2_with fail
  refine HC.out.mono ?_
  rintro e w' ⟨rfl, rfl⟩
  clear HC
  go_wp2
  go_ret
  exact ⟨rfl, rfl⟩
end
end Go.Proofs.Ytkcppidmbojglaf
