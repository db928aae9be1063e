/- What a call leaves as it was; pairs, numbers and plans in memory. -/
import Derived.Test.YtkcppidmbojglafSiteB
import Derived.Test.YtkcppidmbojglafPlN
import Derived.Laws.OwnMore
import Derived.Laws.AppendOwnNone
import Derived.Deep.AppendLies
import Derived.OwnWalk
namespace Go.Proofs.Ytkcppidmbojglaf
open Go.RowKit

/-- what is written lies in F; all else that was there is as it was -/
structure Kp (F : Nat → Prop) (w w' : World) : Prop where
  os : w'.os = w.os
  tape : w'.tape = w.tape
  output : w'.output = w.output
  size : w.heap.size ≤ w'.heap.size
  block : ∀ k, k < w.heap.size → ¬ F k → w'.heap[k]? = w.heap[k]?
section
variable {F G : Nat → Prop} {w w' w'' : World}
theorem Kp.refl (F : Nat → Prop) (w : World) : Kp F w w := ⟨rfl, rfl, rfl, Nat.le_refl _, fun _ _ _ => rfl⟩
theorem Kp.trans (h : Kp F w w') (k : Kp G w' w'') (hg : ∀ i, i < w.heap.size → G i → F i) : Kp F w w'' :=
  ⟨k.os.trans h.os, k.tape.trans h.tape, k.output.trans h.output, Nat.le_trans h.size k.size, fun i hi hf => (k.block i (Nat.lt_of_lt_of_le hi h.size) (fun hG => hf (hg i hi hG))).trans (h.block i hi hf)⟩
theorem Kp.mono (h : Kp F w w') (hg : ∀ i, i < w.heap.size → F i → G i) : Kp G w w' := ⟨h.os, h.tape, h.output, h.size, fun i hi hf => h.block i hi (fun hF => hf (hg i hi hF))⟩
theorem Kp.ofBelow (F : Nat → Prop) (h : Below w.heap.size w w') : Kp F w w' := ⟨h.os, h.tape, h.output, h.size, fun i hi _ => h.block i hi⟩
theorem Kp.toBelow {B : Nat} (h : Kp F w w') (hB : B ≤ w.heap.size) (hF : ∀ i, i < B → ¬ F i) : Below B w w' := ⟨h.os, h.tape, h.output, h.size, fun i hi => h.block i (by omega) (hF i hi)⟩
theorem Kp.below {B : Nat} {a : World} (h : Kp F w w') (hb : Below B a w) (hB : B ≤ w.heap.size) (hF : ∀ i, i < B → ¬ F i) : Below B a w' := hb.trans (h.toBelow hB hF)
theorem Kp.thenBelow (h : Kp F w w') (k : Below w'.heap.size w' w'') : Kp F w w'' := h.trans (Kp.ofBelow F k) (fun _ _ h => h)
theorem Kp.alloc (h : Kp F w w') (o : Obj) : Kp F w (w'.alloc o) := h.trans (Kp.ofBelow F ((Below.refl _ _).alloc (Nat.le_refl _) o)) (fun _ _ h => h)
theorem Kp.drew (h : Kp F w w') : Kp F w w'.drew := h.trans (Kp.ofBelow F (Below.refl _ _).drew) (fun _ _ h => h)
theorem Kp.set (h : Kp F w w') (b i : Nat) (u : Value) (hF : b < w.heap.size → F b) : Kp F w (w'.setCell ⟨b, i, none⟩ u) :=
  h.trans (G := fun k => k = b) ⟨rfl, rfl, rfl, by simp [World.setCell], fun k _ hk => Below.heap_setCell _ _ _ _ hk⟩ (fun k hk e => by subst e; exact hF hk)
theorem Kp.put (h : Kp F w w') (b : Nat) (o : Obj) (hF : b < w.heap.size → F b) : Kp F w (w'.putObj b o) :=
  h.trans (G := fun k => k = b) ⟨rfl, rfl, rfl, by simp, fun k _ hk => World.putObj_heap_other hk⟩ (fun k hk e => by subst e; exact hF hk)
theorem Kp.grown {row : Option Nat} (h : Kp F w w') (hg : w'.grownBy w'' row) (hF : ∀ k, k < w.heap.size → row = some k → F k) : Kp F w w'' :=
  h.trans (G := fun k => row = some k) ⟨hg.os, hg.tape, hg.output, hg.size, fun k hk hne => hg.block k hk (fun e => hne e.symm)⟩ (fun k hk e => hF k hk e)
end

/-- a slice that reads as pairs of numbers, in blocks of D -/
def R2 (D : Nat → Prop) (W : World) (v : Value) (l : List (Int × Int)) : Prop :=
  ∃ a cap, v = .slice a l.length cap ∧ l.length ≤ cap ∧ (a = none → cap = 0) ∧ (l = [] ∨ ∃ g o, a = some ⟨g, o, none⟩ ∧ D g ∧ g < W.heap.size ∧ ∀ (i : Nat) y, l[i]? = some y → W.cell? ⟨g, o + i * 2, none⟩ = some (.int .i64 y.1) ∧ W.cell? ⟨g, o + i * 2 + 1, none⟩ = some (.int .i64 y.2))
/-- a slice that reads as numbers, in blocks of D -/
def RI (D : Nat → Prop) (W : World) (v : Value) (l : List Int) : Prop :=
  ∃ a cap, v = .slice a l.length cap ∧ l.length ≤ cap ∧ (a = none → cap = 0) ∧ (l = [] ∨ ∃ g o, a = some ⟨g, o, none⟩ ∧ D g ∧ g < W.heap.size ∧ ∀ (i : Nat) x, l[i]? = some x → W.cell? ⟨g, o + i, none⟩ = some (.int .i64 x))
/-- a slice that reads as lists of numbers, all in blocks of D -/
def RL (D : Nat → Prop) (W : World) (v : Value) (p : List (List Int)) : Prop :=
  ∃ a cap, v = .slice a p.length cap ∧ p.length ≤ cap ∧ (a = none → cap = 0) ∧ (p = [] ∨ ∃ g o, a = some ⟨g, o, none⟩ ∧ D g ∧ g < W.heap.size ∧ ∀ (i : Nat) l, p[i]? = some l → ∃ u, W.cell? ⟨g, o + i, none⟩ = some u ∧ RI D W u l)
section
variable {D D' : Nat → Prop} {W W' : World} {v : Value}
theorem R2.keep {l : List (Int × Int)} (h : R2 D W v l) (hs : W.heap.size ≤ W'.heap.size) (hk : ∀ g, D g → g < W.heap.size → W'.heap[g]? = W.heap[g]?) : R2 D W' v l := by
  obtain ⟨a, cap, rfl, hc, hn, h⟩ := h
  refine ⟨a, cap, rfl, hc, hn, ?_⟩
  rcases h with h | ⟨g, o, rfl, hd, hlt, h⟩
  · exact .inl h
  · exact .inr ⟨g, o, rfl, hd, Nat.lt_of_lt_of_le hlt hs, fun i y hy => ⟨(World.cell?_of_block (a := ⟨g, o + i * 2, none⟩) (hk g hd hlt)).trans (h i y hy).1, (World.cell?_of_block (a := ⟨g, o + i * 2 + 1, none⟩) (hk g hd hlt)).trans (h i y hy).2⟩⟩
theorem RI.keep {l : List Int} (h : RI D W v l) (hs : W.heap.size ≤ W'.heap.size) (hk : ∀ g, D g → g < W.heap.size → W'.heap[g]? = W.heap[g]?) : RI D W' v l := by
  obtain ⟨a, cap, rfl, hc, hn, h⟩ := h
  refine ⟨a, cap, rfl, hc, hn, ?_⟩
  rcases h with h | ⟨g, o, rfl, hd, hlt, h⟩
  · exact .inl h
  · exact .inr ⟨g, o, rfl, hd, Nat.lt_of_lt_of_le hlt hs, fun i y hy => (World.cell?_of_block (a := ⟨g, o + i, none⟩) (hk g hd hlt)).trans (h i y hy)⟩
theorem RL.keep {p : List (List Int)} (h : RL D W v p) (hs : W.heap.size ≤ W'.heap.size) (hk : ∀ g, D g → g < W.heap.size → W'.heap[g]? = W.heap[g]?) : RL D W' v p := by
  obtain ⟨a, cap, rfl, hc, hn, h⟩ := h
  refine ⟨a, cap, rfl, hc, hn, ?_⟩
  rcases h with h | ⟨g, o, rfl, hd, hlt, h⟩
  · exact .inl h
  · refine .inr ⟨g, o, rfl, hd, Nat.lt_of_lt_of_le hlt hs, fun i l hl => ?_⟩
    obtain ⟨u, h1, h2⟩ := h i l hl
    exact ⟨u, (World.cell?_of_block (a := ⟨g, o + i, none⟩) (hk g hd hlt)).trans h1, h2.keep hs hk⟩
theorem R2.mono {l : List (Int × Int)} (h : R2 D W v l) (hD : ∀ g, D g → g < W.heap.size → (∃ o : Obj, W.heap[g]? = some o ∧ o.isCells = true) → D' g) : R2 D' W v l := by
  obtain ⟨a, cap, rfl, hc, hn, h⟩ := h
  refine ⟨a, cap, rfl, hc, hn, ?_⟩
  rcases h with h | ⟨g, o, rfl, hd, hlt, h⟩
  · exact .inl h
  · cases l with
    | nil => exact .inl rfl
    | cons y l => exact .inr ⟨g, o, rfl, hD g hd hlt (cells_of_cell (h 0 y rfl).1), hlt, h⟩
theorem RI.mono {l : List Int} (h : RI D W v l) (hD : ∀ g, D g → g < W.heap.size → (∃ o : Obj, W.heap[g]? = some o ∧ o.isCells = true) → D' g) : RI D' W v l := by
  obtain ⟨a, cap, rfl, hc, hn, h⟩ := h
  refine ⟨a, cap, rfl, hc, hn, ?_⟩
  rcases h with h | ⟨g, o, rfl, hd, hlt, h⟩
  · exact .inl h
  · cases l with
    | nil => exact .inl rfl
    | cons y l => exact .inr ⟨g, o, rfl, hD g hd hlt (cells_of_cell (h 0 y rfl)), hlt, h⟩
theorem RL.mono {p : List (List Int)} (h : RL D W v p) (hD : ∀ g, D g → g < W.heap.size → (∃ o : Obj, W.heap[g]? = some o ∧ o.isCells = true) → D' g) : RL D' W v p := by
  obtain ⟨a, cap, rfl, hc, hn, h⟩ := h
  refine ⟨a, cap, rfl, hc, hn, ?_⟩
  rcases h with h | ⟨g, o, rfl, hd, hlt, h⟩
  · exact .inl h
  · cases p with
    | nil => exact .inl rfl
    | cons y l =>
      obtain ⟨u, h1, _⟩ := h 0 y rfl
      refine .inr ⟨g, o, rfl, hD g hd hlt (cells_of_cell h1), hlt, fun i l hl => ?_⟩
      obtain ⟨u, h1, h2⟩ := h i l hl
      exact ⟨u, h1, h2.mono hD⟩
theorem R2.below' {l : List (Int × Int)} (h : R2 D W v l) (hb : Below W.heap.size W W') : R2 D W' v l := h.keep hb.size fun g _ hlt => hb.block g hlt
theorem RI.below' {l : List Int} (h : RI D W v l) (hb : Below W.heap.size W W') : RI D W' v l := h.keep hb.size fun g _ hlt => hb.block g hlt
theorem RL.below' {p : List (List Int)} (h : RL D W v p) (hb : Below W.heap.size W W') : RL D W' v p := h.keep hb.size fun g _ hlt => hb.block g hlt
theorem R2.alloc {l : List (Int × Int)} (h : R2 D W v l) (o : Obj) : R2 D (W.alloc o) v l := h.below' ((Below.refl _ _).alloc (Nat.le_refl _) o)
theorem RI.alloc {l : List Int} (h : RI D W v l) (o : Obj) : RI D (W.alloc o) v l := h.below' ((Below.refl _ _).alloc (Nat.le_refl _) o)
theorem RL.alloc {p : List (List Int)} (h : RL D W v p) (o : Obj) : RL D (W.alloc o) v p := h.below' ((Below.refl _ _).alloc (Nat.le_refl _) o)
theorem R2.form {l : List (Int × Int)} (h : R2 D W v l) : ∃ a cap, v = .slice a l.length cap ∧ l.length ≤ cap ∧ (a = none → cap = 0) := by
  obtain ⟨a, cap, h1, h2, h3, _⟩ := h
  exact ⟨a, cap, h1, h2, h3⟩
theorem RI.form {l : List Int} (h : RI D W v l) : ∃ a cap, v = .slice a l.length cap ∧ l.length ≤ cap ∧ (a = none → cap = 0) := by
  obtain ⟨a, cap, h1, h2, h3, _⟩ := h
  exact ⟨a, cap, h1, h2, h3⟩
theorem RL.form {p : List (List Int)} (h : RL D W v p) : ∃ a cap, v = .slice a p.length cap ∧ p.length ≤ cap ∧ (a = none → cap = 0) := by
  obtain ⟨a, cap, h1, h2, h3, _⟩ := h
  exact ⟨a, cap, h1, h2, h3⟩
theorem R2.at {l : List (Int × Int)} {a : Option Addr} {n cap : Nat} (h : R2 D W (.slice a n cap) l) {i : Nat} {y : Int × Int} (hi : l[i]? = some y) : ∃ g o, a = some ⟨g, o, none⟩ ∧ W.cell? ⟨g, o + i * 2, none⟩ = some (.int .i64 y.1) ∧ W.cell? ⟨g, o + i * 2 + 1, none⟩ = some (.int .i64 y.2) := by
  obtain ⟨a', cap', e, _, _, h⟩ := h
  cases e
  rcases h with h | ⟨g, o, rfl, _, _, h⟩
  · rw [h] at hi; simp at hi
  · exact ⟨g, o, rfl, h i y hi⟩
theorem RI.at {l : List Int} {a : Option Addr} {n cap : Nat} (h : RI D W (.slice a n cap) l) {i : Nat} {y : Int} (hi : l[i]? = some y) : ∃ g o, a = some ⟨g, o, none⟩ ∧ W.cell? ⟨g, o + i, none⟩ = some (.int .i64 y) := by
  obtain ⟨a', cap', e, _, _, h⟩ := h
  cases e
  rcases h with h | ⟨g, o, rfl, _, _, h⟩
  · rw [h] at hi; simp at hi
  · exact ⟨g, o, rfl, h i y hi⟩
theorem RL.at {p : List (List Int)} {a : Option Addr} {n cap : Nat} (h : RL D W (.slice a n cap) p) {i : Nat} {l : List Int} (hi : p[i]? = some l) : ∃ g o, a = some ⟨g, o, none⟩ ∧ ∃ u, W.cell? ⟨g, o + i, none⟩ = some u ∧ RI D W u l := by
  obtain ⟨a', cap', e, _, _, h⟩ := h
  cases e
  rcases h with h | ⟨g, o, rfl, _, _, h⟩
  · rw [h] at hi; simp at hi
  · exact ⟨g, o, rfl, h i l hi⟩
theorem R2.len {l : List (Int × Int)} {a : Option Addr} {n cap : Nat} (h : R2 D W (.slice a n cap) l) : n = l.length := by
  obtain ⟨a', cap', e, _⟩ := h
  cases e; rfl
theorem RI.len {l : List Int} {a : Option Addr} {n cap : Nat} (h : RI D W (.slice a n cap) l) : n = l.length := by
  obtain ⟨a', cap', e, _⟩ := h
  cases e; rfl
theorem RL.len {p : List (List Int)} {a : Option Addr} {n cap : Nat} (h : RL D W (.slice a n cap) p) : n = p.length := by
  obtain ⟨a', cap', e, _⟩ := h
  cases e; rfl
theorem RI.nil (D : Nat → Prop) (W : World) : RI D W (.slice none 0 0) [] := ⟨none, 0, rfl, Nat.le_refl _, fun _ => rfl, .inl rfl⟩
theorem RL.nil (D : Nat → Prop) (W : World) : RL D W (.slice none 0 0) [] := ⟨none, 0, rfl, Nat.le_refl _, fun _ => rfl, .inl rfl⟩
/-- the cells of a list that isn't empty -/
theorem RI.cells {l : List Int} {g o n cap : Nat} (h : RI D W (.slice (some ⟨g, o, none⟩) n cap) l) : ∀ (i : Nat) x, l[i]? = some x → W.cell? ⟨g, o + i, none⟩ = some (.int .i64 x) := fun i x hi => by
  obtain ⟨g', o', e, h⟩ := h.at hi
  cases e
  exact h
end

/- where the elements of slices lie -/
theorem ixI (W : World) {a : Option Addr} {g o n cap j : Nat} (ha : a = some ⟨g, o, none⟩) (hj : j < n) : (Instr.indexAt 38 (.slice a n cap) (.int .i64 (j : Int))).run Try.prog W = .ok (.pointer (some ⟨g, o + j, none⟩)) W := by
  subst ha
  rw [run_indexAt_slice W 38 _ n cap .i64 j (by kernel_rfl), if_pos ⟨by omega, by omega⟩, show Try.prog.elem 38 = 3 by kernel_rfl, Try.sizeOf3]
  simp only [Result.andThen_ok, Int.toNat_natCast, Addr.add_mid, Nat.mul_one]
theorem ixP (W : World) {a : Option Addr} {g o n cap j : Nat} (ha : a = some ⟨g, o, none⟩) (hj : j < n) : (Instr.indexAt 34 (.slice a n cap) (.int .i64 (j : Int))).run Try.prog W = .ok (.pointer (some ⟨g, o + j, none⟩)) W := by
  subst ha
  rw [run_indexAt_slice W 34 _ n cap .i64 j (by kernel_rfl), if_pos ⟨by omega, by omega⟩, show Try.prog.elem 34 = 38 by kernel_rfl, Try.sizeOf38]
  simp only [Result.andThen_ok, Int.toNat_natCast, Addr.add_mid, Nat.mul_one]
theorem ixW (W : World) {a : Option Addr} {g o n cap j : Nat} (ha : a = some ⟨g, o, none⟩) (hj : j < n) : (Instr.indexAt 25 (.slice a n cap) (.int .i64 (j : Int))).run Try.prog W = .ok (.pointer (some ⟨g, o + j * 2, none⟩)) W := by
  subst ha
  rw [run_indexAt_slice W 25 _ n cap .i64 j (by kernel_rfl), if_pos ⟨by omega, by omega⟩, show Try.prog.elem 25 = 40 by kernel_rfl, Try.sizeOf40]
  simp only [Result.andThen_ok, Int.toNat_natCast, Addr.add_mid]
theorem ixR (W : World) {a : Option Addr} {g o n cap j : Nat} (ha : a = some ⟨g, o, none⟩) (hj : j < n) : (Instr.indexAt 24 (.slice a n cap) (.int .i64 (j : Int))).run Try.prog W = .ok (.pointer (some ⟨g, o + j * 2, none⟩)) W := by
  subst ha
  rw [run_indexAt_slice W 24 _ n cap .i64 j (by kernel_rfl), if_pos ⟨by omega, by omega⟩, show Try.prog.elem 24 = 51 by kernel_rfl, Try.sizeOf51]
  simp only [Result.andThen_ok, Int.toNat_natCast, Addr.add_mid]

/-- the cells of numbers -/
def ic (l : List Int) : List Value := l.map fun (n : Int) => Value.int .i64 n
theorem ic_length (l : List Int) : (ic l).length = l.length := by unfold ic; rw [List.length_map]
theorem ic_append (l m : List Int) : ic (l ++ m) = ic l ++ ic m := by unfold ic; rw [List.map_append]
theorem ic_some {l : List Int} {i : Nat} {x : Int} (h : l[i]? = some x) : (ic l)[i]? = some (.int .i64 x) := by
  unfold ic; rw [List.getElem?_map, h]; rfl
theorem ic_get {l : List Int} {i : Nat} {u : Value} (h : (ic l)[i]? = some u) : ∃ x, l[i]? = some x ∧ u = .int .i64 x := by
  unfold ic at h
  rw [List.getElem?_map] at h
  cases e : l[i]? with
  | none => rw [e] at h; simp at h
  | some x => rw [e] at h; simp at h; exact ⟨x, rfl, h.symm⟩
theorem ic_one (l : List Int) : ∀ u ∈ ic l, u.oneCell' = true := by
  intro u hu
  obtain ⟨n, _, rfl⟩ := List.mem_map.1 hu
  rfl
/-- a slice value that owns a row of numbers, in blocks from B on -/
def OI (W : World) (B : Nat) (v : Value) (l : List Int) : Prop := W.ownsRow B 3 1 v l.length (ic l)
section
variable {W W' : World} {B : Nat} {v : Value} {l : List Int}
theorem OI.nil (W : World) (B : Nat) : OI W B (.slice none 0 0) [] := World.ownsRow_nil W B _ 1
theorem OI.form (h : OI W B v l) : (v = .slice none 0 0 ∧ l = []) ∨ ∃ g cap, v = .slice (some ⟨g, 0, none⟩) l.length cap ∧ B ≤ g ∧ g < W.heap.size ∧ l.length ≤ cap ∧ cap ≤ maxLen := by
  rcases h.2 with ⟨h1, h2⟩ | ⟨g, cap, cur, hv, hb, hg, hc, hm, _⟩
  · exact .inl ⟨h1, List.length_eq_zero_iff.1 h2⟩
  · exact .inr ⟨g, cap, hv, hb, (Array.getElem?_eq_some_iff.1 hg).1, hc, hm⟩
theorem OI.slice (h : OI W B v l) : ∃ a c, v = .slice a l.length c := by
  rcases h.form with ⟨rfl, rfl⟩ | ⟨g, cap, rfl, _⟩
  · exact ⟨none, 0, rfl⟩
  · exact ⟨_, cap, rfl⟩
theorem OI.lt (h : OI W B v l) : ∀ g, v.ownBlock = some g → B ≤ g ∧ g < W.heap.size := World.ownsRow.lt h
theorem OI.keep (h : OI W B v l) (hk : ∀ g, v.ownBlock = some g → W'.heap[g]? = W.heap[g]?) : OI W' B v l := by
  refine ⟨h.1, ?_⟩
  rcases h.2 with h2 | ⟨g, cap, cur, hv, hb, hg, r⟩
  · exact .inl h2
  · exact .inr ⟨g, cap, cur, hv, hb, (hk g (by rw [hv]; rfl)).trans hg, r⟩
theorem OI.below' (h : OI W B v l) (hb : Below W.heap.size W W') : OI W' B v l := h.keep fun g hg => hb.block g (h.lt g hg).2
theorem OI.alloc (h : OI W B v l) (o : Obj) : OI (W.alloc o) B v l := h.below' ((Below.refl _ _).alloc (Nat.le_refl _) o)
theorem OI.mono {B' : Nat} (h : OI W B v l) (hB : B' ≤ B) : OI W B' v l := by
  refine ⟨h.1, ?_⟩
  rcases h.2 with h2 | ⟨g, cap, cur, hv, hb, r⟩
  · exact .inl h2
  · exact .inr ⟨g, cap, cur, hv, Nat.le_trans hB hb, r⟩
theorem OI.cell {g cap n : Nat} (h : OI W B (.slice (some ⟨g, 0, none⟩) n cap) l) {i : Nat} {x : Int} (hi : l[i]? = some x) : W.cell? ⟨g, i, none⟩ = some (.int .i64 x) := by
  have := World.ownsRow.cells h (g := g) rfl i _ (ic_some hi)
  rwa [Addr.add_mid, Nat.zero_add] at this
theorem OI.ri {D : Nat → Prop} (h : OI W B v l) (hD : ∀ g, v.ownBlock = some g → D g) : RI D W v l := by
  rcases h.form with ⟨rfl, rfl⟩ | ⟨g, cap, rfl, _, hlt, hc, hm⟩
  · exact RI.nil _ _
  · exact ⟨_, cap, rfl, hc, (fun e => by cases e), .inr ⟨g, 0, rfl, hD g rfl, hlt, fun i x hx => by rw [Nat.zero_add]; exact h.cell hx⟩⟩
theorem OI.len {a : Option Addr} {n cap : Nat} (h : OI W B (.slice a n cap) l) : n = l.length := by
  rcases h.form with ⟨h1, h2⟩ | ⟨g, c, h1, _⟩
  · cases h1; rw [h2]; rfl
  · cases h1; rfl
theorem OI.fr {g cap n : Nat} (h : OI W B (.slice (some ⟨g, 0, none⟩) n cap) l) (j : Nat) : W.frozen? ⟨g, j, none⟩ = false := by
  have hn := h.len
  subst hn
  exact World.ownsRow.frozenAt h j
theorem ic_set (l : List Int) (i : Nat) (x : Int) : (ic l).set i (.int .i64 x) = ic (l.set i x) := by unfold ic; rw [List.map_set]
/-- a number is written -/
theorem OI.put {g cap n : Nat} (h : OI W B (.slice (some ⟨g, 0, none⟩) n cap) l) (i : Nat) (x : Int) : OI (W.setCell ⟨g, i, none⟩ (.int .i64 x)) B (.slice (some ⟨g, 0, none⟩) n cap) (l.set i x) := by
  have hn := h.len
  subst hn
  have := (World.ownsRow.stored h i (.int .i64 x)).1
  rw [ic_set] at this
  unfold OI
  rw [List.length_set]
  exact this
/-- a slice of numbers that was just typed -/
theorem OI.lit (W : World) (l : List Int) (hB : B ≤ W.heap.size) (hm : l.length ≤ maxLen) : OI (W.alloc (.cells (ic l).toArray 3)) B (.slice (some ⟨W.heap.size, 0, none⟩) l.length l.length) l := by
  have := World.ownsRow_lit (e := 3) (size := 1) W (ic l).toArray l.length hB hm (by simp [ic_length])
  simpa [OI] using this
/-- the last one is taken out -/
theorem OI.drop {g cap n k : Nat} {x : Int} (h : OI W B (.slice (some ⟨g, 0, none⟩) n cap) (l ++ [x])) (hk : k = l.length) : OI W B (.slice (some ⟨g, 0, none⟩) k cap) l := by
  subst hk
  obtain ⟨h1, h2⟩ := h
  refine ⟨by rw [ic_length, Nat.mul_one], ?_⟩
  rcases h2 with ⟨h2, _⟩ | ⟨g', cap', cur, hv, hb, hg, hc, hm, hs, ht⟩
  · cases h2
  · cases hv
    rw [List.length_append] at hc ht
    simp only [List.length_cons, List.length_nil] at hc ht
    refine .inr ⟨g, cap, cur, rfl, hb, hg, by omega, hm, hs, ?_⟩
    rw [ic_append] at ht
    have h3 := congrArg (List.take l.length) ht
    rw [List.take_take, List.take_left' (by rw [ic_length])] at h3
    rw [Nat.mul_one]
    rwa [show min l.length ((l.length + (0 + 1)) * 1) = l.length by omega] at h3
end
theorem infoI : (Try.prog.info? 3).map (fun i => (i.zero, i.size, i.bytes)) = some (some (.int .i64 0), 1, 8) := by kernel_rfl

end Go.Proofs.Ytkcppidmbojglaf
