/- Calls, and a book of calls as a machine on lists. No program is named here. -/
import Derived.Test.YtiihnjfknohhbadFloorM
namespace Go.Proofs.Ytiihnjfknohhbad

/-- a call's numbers -/
structure Cl where
  fl : Int
  ca : Int
  ag : Int
  up : Bool

namespace KM

theorem ext {a b : Cl} (h1 : a.fl = b.fl) (h2 : a.ca = b.ca) (h3 : a.ag = b.ag) (h4 : a.up = b.up) : a = b := by
  cases a; cases b; simp_all
/-- are two alike? -/
def like (a b : Cl) : Bool := (a.fl == b.fl && a.ca == b.ca) && a.up == b.up
/-- are two one? -/
def same (a b : Cl) : Bool := ((a.fl == b.fl && a.ca == b.ca) && a.ag == b.ag) && a.up == b.up
theorem same_iff (a b : Cl) : same a b = true ↔ a = b := by
  unfold same
  constructor
  · intro h
    simp only [Bool.and_eq_true, beq_iff_eq] at h
    exact ext h.1.1.1 h.1.1.2 h.1.2 h.2
  · rintro rfl; simp
theorem same_refl (a : Cl) : same a a = true := (same_iff a a).2 rfl
theorem same_no {a b : Cl} (h : a ≠ b) : same a b = false := by
  cases hs : same a b
  · rfl
  · exact absurd ((same_iff a b).1 hs) h
/-- a floor and a car that there are -/
def inR (F C : Int) (c : Cl) : Bool := ((decide (0 ≤ c.fl) && decide (c.fl < F)) && decide (-1 ≤ c.ca)) && decide (c.ca < C)
theorem inR_iff {F C : Int} {c : Cl} : inR F C c = true ↔ 0 ≤ c.fl ∧ c.fl < F ∧ -1 ≤ c.ca ∧ c.ca < C := by
  unfold inR; simp [and_assoc]
/-- may it be? -/
def can (F : Int) (c : Cl) : Bool := if c.ca = -1 then (if c.up = true then decide (c.fl ≠ F - 1) else decide (c.fl ≠ 0)) else !c.up
/-- what a press answers -/
def err (F C : Int) (bar : Bool) (L : List Cl) (c : Cl) : Int :=
  if inR F C c = false then 2 else if can F c = false then 1 else if bar = true then 8 else if L.any (like c) = true then 0 else if 128 ≤ L.length then 4 else 0
/-- is it noted? -/
def adds (F C : Int) (bar : Bool) (L : List Cl) (c : Cl) : Bool := (((inR F C c && can F c) && !bar) && !L.any (like c)) && decide (L.length < 128)
/-- the calls behind a press -/
def put (F C : Int) (bar : Bool) (L : List Cl) (c : Cl) : List Cl := if adds F C bar L c = true then L ++ [⟨c.fl, c.ca, 0, c.up⟩] else L
/-- a tick later -/
def older (c : Cl) : Cl := ⟨c.fl, c.ca, if c.ag < 1099511627776 then c.ag + 1 else c.ag, c.up⟩
/-- does an opening serve a call? -/
def srv (car floor : Int) (u d : Bool) (c : Cl) : Bool := decide (c.fl = floor) && (if c.ca = -1 then (if c.up = true then u else d) else decide (c.ca = car))

theorem put_len {F C : Int} {bar : Bool} {L : List Cl} {c : Cl} (h : L.length ≤ 128) : (put F C bar L c).length ≤ 128 := by
  unfold put; split
  · rename_i h1
    unfold adds at h1
    simp only [Bool.and_eq_true, decide_eq_true_eq] at h1
    simp; omega
  · exact h
theorem adds_no {F C : Int} {bar : Bool} {L : List Cl} {c : Cl} (h : err F C bar L c ≠ 0) : adds F C bar L c = false := by
  unfold err at h
  unfold adds
  split at h
  · simp_all
  · split at h
    · simp_all
    · split at h
      · simp_all
      · split at h
        · simp_all
        · split at h
          · rename_i h1 h2 h3 h4 h5
            rw [show decide (L.length < 128) = false by simp; omega]; simp
          · simp_all
theorem put_no {F C : Int} {bar : Bool} {L : List Cl} {c : Cl} (h : adds F C bar L c = false) : put F C bar L c = L := by unfold put; rw [h]; simp
theorem put_yes {F C : Int} {bar : Bool} {L : List Cl} {c : Cl} (h : adds F C bar L c = true) : put F C bar L c = L ++ [⟨c.fl, c.ca, 0, c.up⟩] := by unfold put; rw [h]; simp
theorem adds_inR {F C : Int} {bar : Bool} {L : List Cl} {c : Cl} (h : adds F C bar L c = true) : inR F C c = true := by
  unfold adds at h; simp only [Bool.and_eq_true] at h; exact h.1.1.1.1
/-- the five ways of a press -/
theorem press_ways (F C : Int) (bar : Bool) (L : List Cl) (c : Cl) :
    (inR F C c = false ∧ err F C bar L c = 2 ∧ put F C bar L c = L) ∨
    (inR F C c = true ∧ can F c = false ∧ err F C bar L c = 1 ∧ put F C bar L c = L) ∨
    (inR F C c = true ∧ can F c = true ∧ bar = true ∧ err F C bar L c = 8 ∧ put F C bar L c = L) ∨
    (inR F C c = true ∧ can F c = true ∧ bar = false ∧ L.any (like c) = true ∧ err F C bar L c = 0 ∧ put F C bar L c = L) ∨
    (inR F C c = true ∧ can F c = true ∧ bar = false ∧ L.any (like c) = false ∧ 128 ≤ L.length ∧ err F C bar L c = 4 ∧ put F C bar L c = L) ∨
    (inR F C c = true ∧ can F c = true ∧ bar = false ∧ L.any (like c) = false ∧ L.length < 128 ∧ err F C bar L c = 0 ∧ put F C bar L c = L ++ [⟨c.fl, c.ca, 0, c.up⟩]) := by
  cases h1 : inR F C c
  · exact .inl ⟨rfl, by simp [err, h1], by simp [put, adds, h1]⟩
  · cases h2 : can F c
    · exact .inr (.inl ⟨rfl, rfl, by simp [err, h1, h2], by simp [put, adds, h2]⟩)
    · cases h3 : bar
      · cases h4 : L.any (like c)
        · by_cases h5 : 128 ≤ L.length
          · refine .inr (.inr (.inr (.inr (.inl ⟨rfl, rfl, rfl, rfl, h5, by simp only [err, h1, h2, h4, if_pos h5]; simp, ?_⟩))))
            rw [put_no]
            unfold adds; rw [show decide (L.length < 128) = false by simp; omega]; simp
          · refine .inr (.inr (.inr (.inr (.inr ⟨rfl, rfl, rfl, rfl, by omega, by simp only [err, h1, h2, h4, if_neg h5]; simp, ?_⟩))))
            rw [put_yes]
            unfold adds; rw [show decide (L.length < 128) = true by simp; omega, h1, h2, h4]; rfl
        · exact .inr (.inr (.inr (.inl ⟨rfl, rfl, rfl, rfl, by simp [err, h1, h2, h4], by simp [put, adds, h4]⟩)))
      · exact .inr (.inr (.inl ⟨rfl, rfl, rfl, by simp [err, h1, h2], by simp [put, adds]⟩))

/-- a book's calls: where they are, how old, how many, the oldest ahead -/
structure Gd (F C n : Int) (L : List Cl) : Prop where
  rng : ∀ c ∈ L, 0 ≤ c.fl ∧ c.fl < F ∧ -1 ≤ c.ca ∧ c.ca < C
  age : ∀ c ∈ L, 0 ≤ c.ag ∧ c.ag ≤ n
  len : L.length ≤ 128
  des : L.Pairwise fun a b => b.ag ≤ a.ag
section
variable {F C n : Int} {L : List Cl}
theorem Gd.nil (F C n : Int) : Gd F C n [] := ⟨fun _ h => absurd h (List.not_mem_nil), fun _ h => absurd h (List.not_mem_nil), by simp, List.Pairwise.nil⟩
theorem Gd.up {m : Int} (h : Gd F C n L) (hm : n ≤ m) : Gd F C m L := ⟨h.rng, fun c hc => ⟨(h.age c hc).1, Int.le_trans (h.age c hc).2 hm⟩, h.len, h.des⟩
theorem Gd.put (h : Gd F C n L) (hn : 0 ≤ n) (bar : Bool) (c : Cl) : Gd F C n (put F C bar L c) := by
  cases ha : adds F C bar L c
  · rw [put_no ha]; exact h
  · have hr := inR_iff.1 (adds_inR ha)
    have hl := put_len (F := F) (C := C) (bar := bar) (c := c) h.len
    rw [put_yes ha] at hl ⊢
    refine ⟨fun x hx => ?_, fun x hx => ?_, hl, ?_⟩
    · rcases List.mem_append.1 hx with hx | hx
      · exact h.rng x hx
      · simp at hx; subst hx; exact hr
    · rcases List.mem_append.1 hx with hx | hx
      · exact h.age x hx
      · simp at hx; subst hx; exact ⟨by simp, hn⟩
    · rw [List.pairwise_append]
      refine ⟨h.des, by simp, fun a ha b hb => ?_⟩
      simp at hb; subst hb
      exact (h.age a ha).1
theorem older_ag {c : Cl} (h : c.ag ≤ n) (hn : n ≤ 1000) : (older c).ag = c.ag + 1 := by unfold older; show (if c.ag < 1099511627776 then c.ag + 1 else c.ag) = _; rw [if_pos (by omega)]
theorem Gd.tick (h : Gd F C n L) (hn : n ≤ 1000) : Gd F C (n + 1) (L.map older) := by
  refine ⟨fun x hx => ?_, fun x hx => ?_, by simpa using h.len, ?_⟩
  · obtain ⟨c, hc, rfl⟩ := List.mem_map.1 hx
    exact h.rng c hc
  · obtain ⟨c, hc, rfl⟩ := List.mem_map.1 hx
    have := h.age c hc
    rw [older_ag this.2 hn]; omega
  · rw [List.pairwise_map]
    refine List.Pairwise.imp_of_mem ?_ h.des
    intro a b ha hb hab
    rw [older_ag (h.age a ha).2 hn, older_ag (h.age b hb).2 hn]; omega
theorem Gd.filter (h : Gd F C n L) (p : Cl → Bool) : Gd F C n (L.filter p) :=
  ⟨fun c hc => h.rng c (List.mem_filter.1 hc).1, fun c hc => h.age c (List.mem_filter.1 hc).1, Nat.le_trans (List.length_filter_le _ _) h.len, h.des.filter p⟩
end

/-- the floors that calls of a kind have -/
def lamp (p : Cl → Bool) (L : List Cl) : Nat := L.foldl (fun s c => if p c = true then FM.withN s c.fl else s) 0
theorem lamp_from (p : Cl → Bool) (L : List Cl) (s : Nat) (f : Nat) (hf : f < 64) :
    (L.foldl (fun s c => if p c = true then FM.withN s c.fl else s) s).testBit f = (s.testBit f || L.any fun c => p c && decide (c.fl = (f : Int))) := by
  induction L generalizing s with
  | nil => simp
  | cons c r ih =>
    rw [List.foldl_cons, ih, List.any_cons]
    cases hp : p c
    · simp
    · rw [if_pos rfl, FM.withN_bit s c.fl f hf, Bool.or_assoc]; simp
theorem lamp_bit (p : Cl → Bool) (L : List Cl) (f : Nat) (hf : f < 64) : (lamp p L).testBit f = L.any fun c => p c && decide (c.fl = (f : Int)) := by
  unfold lamp; rw [lamp_from p L 0 f hf]; simp
theorem lamp_lt (p : Cl → Bool) (L : List Cl) : lamp p L < 18446744073709551616 := by
  unfold lamp
  have : ∀ (r : List Cl) (s : Nat), s < 18446744073709551616 → r.foldl (fun s c => if p c = true then FM.withN s c.fl else s) s < 18446744073709551616 := by
    intro r
    induction r with
    | nil => intro s hs; exact hs
    | cons c r ih =>
      intro s hs
      rw [List.foldl_cons]
      apply ih
      split
      · exact FM.withN_lt _ hs
      · exact hs
  exact this L 0 (by omega)
theorem lamp_take (p : Cl → Bool) (L : List Cl) (k : Nat) (h : k < L.length) : lamp p (L.take (k + 1)) = if p L[k] = true then FM.withN (lamp p (L.take k)) L[k].fl else lamp p (L.take k) := by
  unfold lamp; rw [List.take_succ_eq_append_getElem h, List.foldl_append]; rfl
def isU (c : Cl) : Bool := decide (c.ca = -1) && c.up
def isD (c : Cl) : Bool := decide (c.ca = -1) && !c.up
def isI (n : Int) (c : Cl) : Bool := decide (c.ca ≠ -1) && decide (c.ca = n)

/-- what is taken of a row, one by one -/
theorem filter_take (p : Cl → Bool) (L : List Cl) (k : Nat) (h : k < L.length) : (L.take (k + 1)).filter p = (L.take k).filter p ++ (if p L[k] = true then [L[k]] else []) := by
  rw [List.take_succ_eq_append_getElem h, List.filter_append]
  cases hp : p L[k]
  · simp [hp]
  · simp [hp]

end KM
end Go.Proofs.Ytiihnjfknohhbad
