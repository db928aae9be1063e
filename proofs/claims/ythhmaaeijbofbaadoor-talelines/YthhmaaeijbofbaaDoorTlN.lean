/- What the library's functions give of the words of events: plain mathematics. No program is named here. -/
import Derived.Test.YthhmaaeijbofbaaDoorTlM
import Derived.Lib.AtoiAllCases
import Derived.Lib.ItoaMem
import Derived.Lib.Split
namespace Go.Proofs.YthhmaaeijbofbaaDoor
namespace TM

theorem dg_zero (k : Nat) : dg k 0 = [] := by cases k <;> rfl
theorem decDigits_dg : ∀ (k m : Nat), 0 < m → m < 10 ^ k → Lib.decDigits m = dg k m
  | 0, m, h0, h => by simp at h; omega
  | k + 1, m, h0, h => by
    have hm : m ≠ 0 := by omega
    unfold dg
    rw [if_neg hm, Lib.decDigits]
    split
    · rename_i h9
      rw [show m / 10 = 0 by omega, dg_zero, show m % 10 = m by omega]
      rfl
    · rw [decDigits_dg k (m / 10) (by omega) (by rw [Nat.pow_succ] at h; omega)]
theorem decDigits_dec {m : Nat} (h : m < 10 ^ 20) : Lib.decDigits m = dec m := by
  unfold dec
  split
  · rename_i e
    subst e
    rw [Lib.decDigits]
    rfl
  · exact decDigits_dg 20 m (by omega) h
/-- the library's numeral is ours -/
theorem itoa_num {n : Int} (h : In64 n) : Lib.itoa n = num n := by
  have hb : n.natAbs < 10 ^ 20 := by have := h.1; have := h.2; omega
  unfold Lib.itoa num
  rw [← decDigits_dec hb]
  split
  · rfl
  · rw [show n.toNat = n.natAbs by omega]
theorem fold_ge : ∀ (l : List UInt8) (a : Nat), a ≤ l.foldl (fun a d => 10 * a + (d.toNat - 48)) a
  | [], a => Nat.le_refl _
  | d :: l, a => by
    have := fold_ge l (10 * a + (d.toNat - 48))
    rw [List.foldl_cons]
    omega
theorem parse_fold : ∀ (l : List UInt8) (a : Nat), (∀ d ∈ l, isD d) → l.foldl (fun a d => 10 * a + (d.toNat - 48)) a < 18446744073709551616 → Lib.parseUint10 a l = .ok (l.foldl (fun a d => 10 * a + (d.toNat - 48)) a)
  | [], a, _, _ => rfl
  | d :: l, a, hd, h => by
    rw [List.foldl_cons] at h ⊢
    have h1 := fold_ge l (10 * a + (d.toNat - 48))
    have h2 : isD d := hd d (List.mem_cons_self ..)
    unfold Lib.parseUint10
    rw [if_pos (show 48 ≤ d.toNat ∧ d.toNat ≤ 57 from h2), if_neg (by omega), if_neg (by omega), show a * 10 + (d.toNat - 48) = 10 * a + (d.toNat - 48) by omega]
    exact parse_fold l _ (fun x hx => hd x (List.mem_cons_of_mem _ hx)) h
theorem parse_dec {m : Nat} (h : m < 18446744073709551616) : Lib.parseMag (dec m) = .ok m := by
  have h20 : m < 10 ^ 20 := by omega
  have hv := vl_dec h20
  unfold Lib.parseMag
  rw [if_neg (dec_ne h20)]
  have := parse_fold (dec m) 0 dec_dig (by show vl (dec m) < _; rw [hv]; exact h)
  rw [this]
  show Lib.NumEnd.ok (vl (dec m)) = _
  rw [hv]
/-- a numeral is read as its number -/
theorem atoi_num {n : Int} (h : In64 n) : Lib.atoiAll (num n) = .ok n := by
  obtain ⟨h1, h2⟩ := h
  unfold num
  split
  · rename_i hn
    rw [Lib.atoiAll_minus, parse_dec (by omega)]
    simp only [Lib.signed]
    rw [if_neg (by omega)]
    congr 1
    omega
  · rename_i hn
    have hm := parse_dec (m := n.natAbs) (by omega)
    have hd := dec_dig (m := n.natAbs)
    have hne := dec_ne (m := n.natAbs) (by omega)
    generalize dec n.natAbs = l at hm hd hne
    cases l with
    | nil => exact absurd rfl hne
    | cons c r =>
      have hc : isD c := hd c (List.mem_cons_self ..)
      obtain ⟨c1, c2⟩ := hc
      rw [Lib.atoiAll_plain c r (by omega) (by omega), hm]
      simp only [Lib.signless]
      rw [if_neg (by omega)]
      congr 1
      omega
theorem atoi_tr (x : Bool) : Lib.atoiAll (tr x) = .ok (if x then 1 else 0) := by cases x <;> rfl

/-- where the first blank is -/
theorem index_hit : ∀ (w r : List UInt8), (32 : UInt8) ∉ w → Lib.index (w ++ 32 :: r) [32] = (w.length : Int)
  | [], r, _ => by
    show Lib.index (32 :: r) [32] = _
    unfold Lib.index
    rw [if_pos (by simp)]
    rfl
  | c :: w, r, h => by
    have hc : c ≠ 32 := fun e => h (e ▸ List.mem_cons_self ..)
    have ih := index_hit w r (fun hh => h (List.mem_cons_of_mem _ hh))
    show Lib.index (c :: (w ++ 32 :: r)) [32] = _
    unfold Lib.index
    rw [if_neg (by simp [Ne.symm hc]), ih]
    have : ((w.length : Int) == -1) = false := by rw [beq_eq_false_iff_ne]; omega
    rw [this]
    simp
theorem index_miss : ∀ (w : List UInt8), (32 : UInt8) ∉ w → Lib.index w [32] = -1
  | [], _ => rfl
  | c :: w, h => by
    have hc : c ≠ 32 := fun e => h (e ▸ List.mem_cons_self ..)
    have ih := index_miss w (fun hh => h (List.mem_cons_of_mem _ hh))
    unfold Lib.index
    rw [if_neg (by simp [Ne.symm hc]), ih]
    rfl
/-- words with one blank between each two are cut into the words -/
theorem split_glue : ∀ (xs : List (List UInt8)) (w : List UInt8) (k : Nat), Nb (w :: xs) → xs.length ≤ k → Lib.splitK [32] 0 k (glue w xs) = w :: xs
  | [], w, 0, _, _ => rfl
  | [], w, k + 1, h, _ => by
    show Lib.splitK [32] 0 (k + 1) w = [w]
    unfold Lib.splitK
    rw [index_miss w (h w (List.mem_cons_self ..))]
    rfl
  | x :: xs, w, 0, _, hk => by simp at hk
  | x :: xs, w, k + 1, h, hk => by
    show Lib.splitK [32] 0 (k + 1) (w ++ 32 :: glue x xs) = w :: x :: xs
    unfold Lib.splitK
    have hi := index_hit w (glue x xs) (h w (List.mem_cons_self ..))
    rw [hi, if_neg (by rw [beq_iff_eq]; omega), Int.toNat_natCast]
    congr 1
    · simp
    · rw [show w.length + [(32 : UInt8)].length = w.length + 1 from rfl, ← List.drop_drop, List.drop_left]
      exact split_glue xs x k (fun z hz => h z (List.mem_cons_of_mem _ hz)) (by simp at hk; omega)
/-- how many words there are at most, and none is longer than the text -/
theorem split_len : ∀ (k : Nat) (s : List UInt8), (Lib.splitK [32] 0 k s).length ≤ k + 1 ∧ 1 ≤ (Lib.splitK [32] 0 k s).length ∧ ∀ x ∈ Lib.splitK [32] 0 k s, x.length ≤ s.length
  | 0, s => by simp [Lib.splitK]
  | k + 1, s => by
    unfold Lib.splitK
    split
    · simp
    · obtain ⟨h1, h2, h3⟩ := split_len k (s.drop ((Lib.index s [32]).toNat + [(32 : UInt8)].length))
      generalize Lib.splitK [32] 0 k (s.drop ((Lib.index s [32]).toNat + [(32 : UInt8)].length)) = L at h1 h2 h3 ⊢
      refine ⟨by rw [List.length_cons]; omega, by rw [List.length_cons]; omega, fun x hx => ?_⟩
      rcases List.mem_cons.1 hx with rfl | hx
      · rw [List.length_take]; omega
      · have := h3 x hx
        rw [List.length_drop] at this
        omega

end TM
end Go.Proofs.YthhmaaeijbofbaaDoor
