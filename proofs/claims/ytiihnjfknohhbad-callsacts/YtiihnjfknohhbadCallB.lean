/- Rows of calls in memory, and what a call of a function leaves as it was. -/
import Derived.Test.YtiihnjfknohhbadSiteB
import Derived.Test.YtiihnjfknohhbadCallM
import Derived.WalkKit
import Derived.WalkSpells
import Derived.WalkLawsBesides
import Derived.Deep.MidRow
import Derived.Deep.AppendLies
import Derived.Laws.OwnMore
namespace Go.Proofs.Ytiihnjfknohhbad
open Go.RowKit

/-- the cells of a call, of a row of calls -/
def cv (c : Cl) : List Value := [.int .i64 c.fl, .int .i64 c.ca, .int .i64 c.ag, .bool c.up]
def rv (L : List Cl) : List Value := L.flatMap cv
theorem cv_length (c : Cl) : (cv c).length = 4 := rfl
theorem rv_length (L : List Cl) : (rv L).length = L.length * 4 := by
  induction L with
  | nil => rfl
  | cons c r ih => show (cv c ++ rv r).length = _; rw [List.length_append, ih, cv_length, List.length_cons]; omega
theorem rv_append (L M : List Cl) : rv (L ++ M) = rv L ++ rv M := by unfold rv; rw [List.flatMap_append]
theorem rv_get {L : List Cl} {i j : Nat} (h : i < L.length) (hj : j < 4) : (rv L)[i * 4 + j]? = (cv L[i])[j]? := by
  induction L generalizing i with
  | nil => simp at h
  | cons c r ih =>
    show (cv c ++ rv r)[i * 4 + j]? = _
    cases i with
    | zero => rw [List.getElem?_append_left (by rw [cv_length]; omega)]; simp
    | succ i =>
      rw [List.getElem?_append_right (by rw [cv_length]; omega), cv_length, show (i + 1) * 4 + j - 4 = i * 4 + j by omega, ih (by simpa using h)]
      simp
theorem rv_one (L : List Cl) : ∀ u ∈ rv L, u.oneCell' = true := by
  intro u hu
  obtain ⟨c, _, hc⟩ := List.mem_flatMap.1 hu
  simp only [cv, List.mem_cons, List.not_mem_nil, or_false] at hc
  rcases hc with rfl | rfl | rfl | rfl <;> rfl
theorem rv_take (L : List Cl) (k : Nat) : (rv L).take (k * 4) = rv (L.take k) := by
  induction L generalizing k with
  | nil => simp [rv]
  | cons c r ih =>
    cases k with
    | zero => simp [rv]
    | succ k =>
      show (cv c ++ rv r).take ((k + 1) * 4) = cv c ++ rv (r.take k)
      rw [List.take_append, cv_length, List.take_of_length_le (by rw [cv_length]; omega), show (k + 1) * 4 - 4 = k * 4 by omega, ih]
theorem rv_drop (L : List Cl) (k : Nat) : (rv L).drop (k * 4) = rv (L.drop k) := by
  induction L generalizing k with
  | nil => simp [rv]
  | cons c r ih =>
    cases k with
    | zero => simp
    | succ k =>
      show (cv c ++ rv r).drop ((k + 1) * 4) = rv (r.drop k)
      rw [List.drop_append, cv_length, List.drop_of_length_le (by rw [cv_length]; omega), show (k + 1) * 4 - 4 = k * 4 by omega, ih]; rfl

/-- what is written lies in F; all else that was there is as it was -/
structure Kp (F : Nat → Prop) (w w' : World) : Prop where
  os : w'.os = w.os
  tape : w'.tape = w.tape
  output : w'.output = w.output
  size : w.heap.size ≤ w'.heap.size
  block : ∀ k, k < w.heap.size → ¬ F k → w'.heap[k]? = w.heap[k]?
section
variable {F G : Nat → Prop} {w w' w'' : World}
theorem Kp.refl (F : Nat → Prop) (w : World) : Kp F w w := ⟨rfl, rfl, rfl, Nat.le_refl _, fun _ _ _ => rfl⟩
theorem Kp.trans (h : Kp F w w') (k : Kp G w' w'') (hg : ∀ i, i < w.heap.size → G i → F i) : Kp F w w'' :=
  ⟨k.os.trans h.os, k.tape.trans h.tape, k.output.trans h.output, Nat.le_trans h.size k.size, fun i hi hf => (k.block i (Nat.lt_of_lt_of_le hi h.size) (fun hG => hf (hg i hi hG))).trans (h.block i hi hf)⟩
theorem Kp.mono (h : Kp F w w') (hg : ∀ i, i < w.heap.size → F i → G i) : Kp G w w' := ⟨h.os, h.tape, h.output, h.size, fun i hi hf => h.block i hi (fun hF => hf (hg i hi hF))⟩
theorem Kp.ofBelow (F : Nat → Prop) (h : Below w.heap.size w w') : Kp F w w' := ⟨h.os, h.tape, h.output, h.size, fun i hi _ => h.block i hi⟩
theorem Kp.toBelow {B : Nat} (h : Kp F w w') (hB : B ≤ w.heap.size) (hF : ∀ i, i < B → ¬ F i) : Below B w w' := ⟨h.os, h.tape, h.output, h.size, fun i hi => h.block i (by omega) (hF i hi)⟩
theorem Kp.below {B : Nat} {a : World} (h : Kp F w w') (hb : Below B a w) (hB : B ≤ w.heap.size) (hF : ∀ i, i < B → ¬ F i) : Below B a w' := hb.trans (h.toBelow hB hF)
theorem Kp.thenBelow (h : Kp F w w') (k : Below w'.heap.size w' w'') : Kp F w w'' := h.trans (Kp.ofBelow F k) (fun _ _ h => h)
theorem Kp.alloc (h : Kp F w w') (o : Obj) : Kp F w (w'.alloc o) := h.trans (Kp.ofBelow F ((Below.refl _ _).alloc (Nat.le_refl _) o)) (fun _ _ h => h)
theorem Kp.drew (h : Kp F w w') : Kp F w w'.drew := h.trans (Kp.ofBelow F (Below.refl _ _).drew) (fun _ _ h => h)
theorem Kp.set (h : Kp F w w') (b i : Nat) (u : Value) (hF : b < w.heap.size → F b) : Kp F w (w'.setCell ⟨b, i, none⟩ u) :=
  h.trans (G := fun k => k = b) ⟨rfl, rfl, rfl, by simp [World.setCell], fun k _ hk => Below.heap_setCell _ _ _ _ hk⟩ (fun k hk e => by subst e; exact hF hk)
theorem Kp.grown {row : Option Nat} (h : Kp F w w') (hg : w'.grownBy w'' row) (hF : ∀ k, k < w.heap.size → row = some k → F k) : Kp F w w'' :=
  h.trans (G := fun k => row = some k) ⟨hg.os, hg.tape, hg.output, hg.size, fun k hk hne => hg.block k hk (fun e => hne e.symm)⟩ (fun k hk e => hF k hk e)
end

/-- a slice value that owns a row of calls, in blocks from B on -/
def RW (W : World) (B : Nat) (v : Value) (L : List Cl) : Prop := W.ownsRow B 35 4 v L.length (rv L)
section
variable {W W' : World} {B : Nat} {v : Value} {L : List Cl}
theorem RW.nil (W : World) (B : Nat) : RW W B (.slice none 0 0) [] := World.ownsRow_nil W B _ 4
theorem RW.form (h : RW W B v L) : (v = .slice none 0 0 ∧ L = []) ∨ ∃ g cap, v = .slice (some ⟨g, 0, none⟩) L.length cap ∧ B ≤ g ∧ g < W.heap.size ∧ L.length ≤ cap := by
  rcases h.2 with ⟨h1, h2⟩ | ⟨g, cap, cur, hv, hb, hg, hc, _⟩
  · exact .inl ⟨h1, List.length_eq_zero_iff.1 h2⟩
  · exact .inr ⟨g, cap, hv, hb, (Array.getElem?_eq_some_iff.1 hg).1, hc⟩
theorem RW.mono {B' : Nat} (h : RW W B v L) (hB : B' ≤ B) : RW W B' v L := by
  refine ⟨h.1, ?_⟩
  rcases h.2 with h2 | ⟨g, cap, cur, hv, hb, r⟩
  · exact .inl h2
  · exact .inr ⟨g, cap, cur, hv, Nat.le_trans hB hb, r⟩
/-- it lies whole where its block is as it was -/
theorem RW.keep (h : RW W B v L) (hk : ∀ g, v.ownBlock = some g → W'.heap[g]? = W.heap[g]?) : RW W' B v L := by
  refine ⟨h.1, ?_⟩
  rcases h.2 with h2 | ⟨g, cap, cur, hv, hb, hg, r⟩
  · exact .inl h2
  · exact .inr ⟨g, cap, cur, hv, hb, (hk g (by rw [hv]; rfl)).trans hg, r⟩
theorem RW.lt (h : RW W B v L) : ∀ g, v.ownBlock = some g → B ≤ g ∧ g < W.heap.size := World.ownsRow.lt h
theorem RW.kp {F : Nat → Prop} (h : RW W B v L) (k : Kp F W W') (hF : ∀ g, v.ownBlock = some g → ¬ F g) : RW W' B v L :=
  h.keep fun g hg => k.block g (h.lt g hg).2 (hF g hg)
theorem RW.below' (h : RW W B v L) (hb : Below W.heap.size W W') : RW W' B v L := h.keep fun g hg => hb.block g (h.lt g hg).2
theorem RW.alloc (h : RW W B v L) (o : Obj) : RW (W.alloc o) B v L := h.below' ((Below.refl _ _).alloc (Nat.le_refl _) o)
/-- its cells -/
theorem RW.range {g cap n : Nat} (h : RW W B (.slice (some ⟨g, 0, none⟩) n cap) L) {i : Nat} (hi : i < L.length) : W.rangeAt g (i * 4) (cv L[i]) := fun j u hu => by
  have hj : j < 4 := by have := (List.getElem?_eq_some_iff.1 hu).1; rwa [cv_length] at this
  have := World.ownsRow.cells h (g := g) rfl (i * 4 + j) u (by rw [rv_get hi hj]; exact hu)
  rwa [Addr.add_mid, Nat.zero_add] at this
theorem RW.c (j : Nat) {g cap n : Nat} (h : RW W B (.slice (some ⟨g, 0, none⟩) n cap) L) {i : Nat} (hi : i < L.length) {u : Value} (hu : (cv L[i])[j]? = some u) : W.cell? ⟨g, i * 4 + j, none⟩ = some u := h.range hi j u hu
theorem RW.elem {g cap n : Nat} (h : RW W B (.slice (some ⟨g, 0, none⟩) n cap) L) {i : Nat} (hi : i < L.length) : ∃ y : Cl, L[i]? = some y ∧ W.cell? ⟨g, i * 4, none⟩ = some (.int .i64 y.fl) ∧ W.cell? ⟨g, i * 4 + 1, none⟩ = some (.int .i64 y.ca) ∧ W.cell? ⟨g, i * 4 + 2, none⟩ = some (.int .i64 y.ag) ∧ W.cell? ⟨g, i * 4 + 3, none⟩ = some (.bool y.up) :=
  ⟨L[i], List.getElem?_eq_getElem hi, h.c 0 hi rfl, h.c 1 hi rfl, h.c 2 hi rfl, h.c 3 hi rfl⟩
theorem RW.len {a : Option Addr} {n cap : Nat} (h : RW W B (.slice a n cap) L) : n = L.length := by
  rcases h.form with ⟨h1, h2⟩ | ⟨g, c, h1, _⟩
  · cases h1; rw [h2]; rfl
  · cases h1; rfl
theorem RW.fr {g cap n : Nat} (h : RW W B (.slice (some ⟨g, 0, none⟩) n cap) L) (j : Nat) : W.frozen? ⟨g, j, none⟩ = false := by
  have hn := h.len
  subst hn
  exact World.ownsRow.frozenAt h j
end

end Go.Proofs.Ytiihnjfknohhbad
