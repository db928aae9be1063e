/- What a text tells: plain mathematics. -/
import Derived.Test.YthhmaaeijbofbaaDoorTlP
namespace Go.Proofs.YthhmaaeijbofbaaDoor

/-- what a word tells, 0 if it tells nothing -/
def vv : Option (List UInt8) → Int
  | some x => match Lib.atoiAll x with
    | .ok v => v
    | _ => 0
  | none => 0
theorem vv_ok {x : List UInt8} {v : Int} (h : Lib.atoiAll x = .ok v) : vv (some x) = v := by simp [vv, h]
theorem vv_in (o : Option (List UInt8)) : TM.In64 (vv o) := by
  cases o with
  | none => exact ⟨by decide, by decide⟩
  | some x =>
    by_cases h : ∃ v, Lib.atoiAll x = .ok v
    · obtain ⟨v, h⟩ := h
      rw [vv_ok h]
      exact Lib.atoiAll_bounds h
    · have h0 : vv (some x) = 0 := by
        unfold vv
        cases hr : Lib.atoiAll x
        · exact absurd ⟨_, hr⟩ h
        · simp only [hr]
        · simp only [hr]
      rw [h0]
      exact ⟨by decide, by decide⟩
theorem vv_num {n : Int} (h : TM.In64 n) : vv (some (TM.num n)) = n := vv_ok (TM.atoi_num h)
theorem vv_tr (x : Bool) : (vv (some (TM.tr x)) == 1) = x := by
  rw [vv_ok (TM.atoi_tr x)]
  cases x <;> rfl
theorem mk_ki {k a b c : Int} (h : 1 ≤ k ∧ k ≤ 8) : (mk k a b c).ki = k := by
  have h8 : k = 1 ∨ k = 2 ∨ k = 3 ∨ k = 4 ∨ k = 5 ∨ k = 6 ∨ k = 7 ∨ k = 8 := by omega
  rcases h8 with rfl | rfl | rfl | rfl | rfl | rfl | rfl | rfl <;> rfl
theorem mk_known {k a b c : Int} (h : 1 ≤ k ∧ k ≤ 8) : TM.known (mk k a b c) := by
  unfold TM.known
  rw [mk_ki h]
  exact h
theorem mk_told {k a b c : Int} (h : 1 ≤ k ∧ k ≤ 8) : TM.told (mk k a b c) = mk k a b c := by
  have h8 : k = 1 ∨ k = 2 ∨ k = 3 ∨ k = 4 ∨ k = 5 ∨ k = 6 ∨ k = 7 ∨ k = 8 := by omega
  rcases h8 with rfl | rfl | rfl | rfl | rfl | rfl | rfl | rfl <;> rfl
theorem mk_ok {k a b c : Int} (h : 1 ≤ k ∧ k ≤ 8) (ha : TM.In64 a) (hb : TM.In64 b) : TM.Ok (mk k a b c) := by
  have h0 : TM.In64 0 := ⟨by decide, by decide⟩
  have h8 : k = 1 ∨ k = 2 ∨ k = 3 ∨ k = 4 ∨ k = 5 ∨ k = 6 ∨ k = 7 ∨ k = 8 := by omega
  rcases h8 with rfl | rfl | rfl | rfl | rfl | rfl | rfl | rfl
  · exact ⟨h0, h0, ha, hb⟩
  · exact ⟨ha, hb, h0, h0⟩
  · exact ⟨ha, h0, h0, h0⟩
  · exact ⟨ha, h0, h0, h0⟩
  · exact ⟨ha, h0, h0, h0⟩
  · exact ⟨ha, h0, h0, h0⟩
  · exact ⟨ha, h0, h0, h0⟩
  · exact ⟨h0, h0, h0, h0⟩
theorem wd_word {e : TM.Ev} (h : TM.known e) : wd e.ki = TM.word e := by
  rcases TM.kinds h with k | k | k | k | k | k | k | k <;> simp [wd, TM.word, k]
theorem wd_inj {i j : Int} (hi : 1 ≤ i ∧ i ≤ 8) (hj : 1 ≤ j ∧ j ≤ 8) (h : wd i = wd j) : i = j := by
  have h1 : i = 1 ∨ i = 2 ∨ i = 3 ∨ i = 4 ∨ i = 5 ∨ i = 6 ∨ i = 7 ∨ i = 8 := by omega
  have h2 : j = 1 ∨ j = 2 ∨ j = 3 ∨ j = 4 ∨ j = 5 ∨ j = 6 ∨ j = 7 ∨ j = 8 := by omega
  rcases h1 with rfl | rfl | rfl | rfl | rfl | rfl | rfl | rfl <;> rcases h2 with rfl | rfl | rfl | rfl | rfl | rfl | rfl | rfl <;> first | rfl | exact absurd h (by decide)
theorem args_len (e : TM.Ev) : (TM.args e).length ≤ 3 := by
  unfold TM.args
  repeat' split
  all_goals simp
/-- the words of a line -/
theorem wds_line {e : TM.Ev} (h : TM.known e) : wds (TM.line e) = TM.word e :: TM.args e := by
  have h4 : 3 ≤ (TM.line e).length := by
    rw [TM.line_is h]
    have hg : ∀ w xs, w.length ≤ (TM.glue w xs).length := fun w xs => by
      cases xs with
      | nil => exact Nat.le_refl _
      | cons x r => show _ ≤ (w ++ 32 :: _).length; rw [List.length_append]; omega
    have := hg (TM.word e) (TM.args e)
    have h6 : 4 ≤ (TM.word e).length := by
      unfold TM.word
      repeat' split
      all_goals decide
    omega
  unfold wds
  rw [show min 4 ((TM.line e).length + 1) - 1 = 3 by omega, TM.line_is h]
  exact TM.split_glue (TM.args e) (TM.word e) 3 (TM.nb_line e) (args_len e)
/-- the event of a line is what the line tells -/
theorem mk_args {e : TM.Ev} (h : TM.known e) (ok : TM.Ok e) : mk e.ki (vv (TM.args e)[0]?) (vv (TM.args e)[1]?) (vv (TM.args e)[2]?) = TM.told e := by
  have h1 := vv_num ok.a; have h2 := vv_num ok.b; have h3 := vv_num ok.fl; have h4 := vv_num ok.ca
  have h5 := vv_tr e.on; have h6 := vv_tr e.up
  rcases TM.kinds h with k | k | k | k | k | k | k | k <;> simp [TM.args, mk, TM.told, k, h1, h2, h3, h4, h5, h6]
theorem args_ok {e : TM.Ev} (ok : TM.Ok e) : ∀ x ∈ TM.args e, ∃ v, Lib.atoiAll x = .ok v := by
  intro x hx
  have n1 := TM.atoi_num ok.a; have n2 := TM.atoi_num ok.b; have n3 := TM.atoi_num ok.fl; have n4 := TM.atoi_num ok.ca
  unfold TM.args at hx
  repeat' split at hx
  all_goals
    first
      | exact absurd hx List.not_mem_nil
      | (simp only [List.mem_cons, List.not_mem_nil, or_false] at hx
         rcases hx with rfl | rfl | rfl
         · exact ⟨_, by assumption⟩
         · exact ⟨_, by assumption⟩
         · exact ⟨_, TM.atoi_tr _⟩)
      | (simp only [List.mem_cons, List.not_mem_nil, or_false] at hx
         rcases hx with rfl | rfl
         · exact ⟨_, by assumption⟩
         · exact ⟨_, TM.atoi_tr _⟩)
      | (simp only [List.mem_cons, List.not_mem_nil, or_false] at hx
         subst hx
         exact ⟨_, by assumption⟩)
theorem line_told_line {e : TM.Ev} (h : TM.known e) (ok : TM.Ok e) : TM.line (TM.told e) = TM.line e := by
  have hk : TM.known (TM.told e) := by unfold TM.known; rw [TM.told_ki]; exact h
  have := mk_args h ok
  have ok2 : TM.Ok (TM.told e) := by rw [← this]; exact mk_ok h (vv_in _) (vv_in _)
  refine (TM.line_told hk h ok2 ok).2 ?_
  rw [← this, mk_told h]
/-- no event of this kind or a later one has this line -/
def Nl (s : List UInt8) (k : Int) : Prop := ∀ e, TM.known e → TM.Ok e → TM.line e = s → k ≤ e.ki
theorem Nl.one (s : List UInt8) : Nl s 1 := fun _ h _ _ => h.1
theorem Nl.next {s w : List UInt8} {xs : List (List UInt8)} {k : Int} (h : Nl s k) (hs : wds s = w :: xs) (hw : wd k ≠ w) : Nl s (k + 1) := fun e he ok hl => by
  have h1 := h e he ok hl
  have h2 : e.ki ≠ k := fun ek => by
    have h3 := wds_line he
    rw [hl, hs] at h3
    injection h3 with h4 _
    rw [h4, ← wd_word he, ek] at hw
    exact hw rfl
  omega
/-- a word that isn't a number -/
theorem Nl.bad {s w x : List UInt8} {xs : List (List UInt8)} (hs : wds s = w :: xs) (hx : x ∈ xs) (hb : ∀ v, Lib.atoiAll x ≠ .ok v) : ∀ e, TM.known e → TM.Ok e → TM.line e ≠ s := fun e he ok hl => by
  have h3 := wds_line he
  rw [hl, hs] at h3
  injection h3 with _ h4
  subst h4
  obtain ⟨v, hv⟩ := args_ok ok x hx
  exact hb v hv
theorem Nl.made {s w : List UInt8} {xs : List (List UInt8)} {k : Int} (h : Nl s k) (hs : wds s = w :: xs) (hn : TM.line (mk k (vv xs[0]?) (vv xs[1]?) (vv xs[2]?)) ≠ s) : Nl s (k + 1) := fun e he ok hl => by
  have h1 := h e he ok hl
  have h2 : e.ki ≠ k := fun ek => by
    have h3 := wds_line he
    rw [hl, hs] at h3
    injection h3 with _ h4
    subst h4
    rw [← ek, mk_args he ok, line_told_line he ok] at hn
    exact hn hl
  omega
theorem Nl.none {s : List UInt8} (h : Nl s 9) : ∀ e, TM.known e → TM.Ok e → TM.line e ≠ s := fun e he ok hl => by
  have h1 := h e he ok hl
  have h2 := he.2
  omega
/-- what Read answers -/
def RP (s : List UInt8) (x : TM.Ev) (c : Int) : Prop := (c = 0 ∧ TM.known x ∧ TM.Ok x ∧ TM.line x = s ∧ TM.told x = x) ∨ (c = 3 ∧ x = ez ∧ ∀ e, TM.known e → TM.Ok e → TM.line e ≠ s)
/-- the numbers that have been read so far -/
def vat (xs : List (List UInt8)) (i j : Nat) : Int := if j < i then vv xs[j]? else 0
theorem vat_all {xs : List (List UInt8)} (j : Nat) : vat xs xs.length j = vv xs[j]? := by
  unfold vat
  split
  · rfl
  · rw [List.getElem?_eq_none (by omega)]
    rfl
end Go.Proofs.YthhmaaeijbofbaaDoor
