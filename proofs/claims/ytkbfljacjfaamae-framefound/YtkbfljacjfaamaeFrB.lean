/- What a call leaves as it was; rows of bytes and of frames in memory. -/
import Derived.Test.YtkbfljacjfaamaeFrF
import Derived.WalkKit
import Derived.WalkSpells
import Derived.WalkLawsBesides
import Derived.Deep.MidRow
import Derived.Deep.AppendLies
import Derived.Laws.OwnMore
import Derived.Laws.BitsAllLaws
namespace Go.Proofs.Ytkbfljacjfaamae
open Go.RowKit

theorem Hid.intro' {p : Prop} (h : p) : Hid p := h
theorem ret_int {k : IntKind} {a b : Int} (h : a = b) : Ending.returned (.int k a) = .returned (.int k b) := by rw [h]
theorem below_class {W0 w w' : World} (h : Below W0.heap.size W0 w) (h' : Below w.heap.size w w') : Below W0.heap.size W0 w' := h.trans (h'.mono h.size)

/-- what is written lies in F; all else that was there is as it was -/
structure Kp (F : Nat → Prop) (w w' : World) : Prop where
  os : w'.os = w.os
  tape : w'.tape = w.tape
  output : w'.output = w.output
  size : w.heap.size ≤ w'.heap.size
  block : ∀ k, k < w.heap.size → ¬ F k → w'.heap[k]? = w.heap[k]?
section
variable {F G : Nat → Prop} {w w' w'' : World}
theorem Kp.refl (F : Nat → Prop) (w : World) : Kp F w w := ⟨rfl, rfl, rfl, Nat.le_refl _, fun _ _ _ => rfl⟩
theorem Kp.trans (h : Kp F w w') (k : Kp G w' w'') (hg : ∀ i, i < w.heap.size → G i → F i) : Kp F w w'' :=
  ⟨k.os.trans h.os, k.tape.trans h.tape, k.output.trans h.output, Nat.le_trans h.size k.size, fun i hi hf => (k.block i (Nat.lt_of_lt_of_le hi h.size) (fun hG => hf (hg i hi hG))).trans (h.block i hi hf)⟩
theorem Kp.mono (h : Kp F w w') (hg : ∀ i, i < w.heap.size → F i → G i) : Kp G w w' := ⟨h.os, h.tape, h.output, h.size, fun i hi hf => h.block i hi (fun hF => hf (hg i hi hF))⟩
theorem Kp.ofBelow (F : Nat → Prop) (h : Below w.heap.size w w') : Kp F w w' := ⟨h.os, h.tape, h.output, h.size, fun i hi _ => h.block i hi⟩
theorem Kp.toBelow {B : Nat} (h : Kp F w w') (hB : B ≤ w.heap.size) (hF : ∀ i, i < B → ¬ F i) : Below B w w' := ⟨h.os, h.tape, h.output, h.size, fun i hi => h.block i (by omega) (hF i hi)⟩
theorem Kp.below {B : Nat} {a : World} (h : Kp F w w') (hb : Below B a w) (hB : B ≤ w.heap.size) (hF : ∀ i, i < B → ¬ F i) : Below B a w' := hb.trans (h.toBelow hB hF)
theorem Kp.thenBelow (h : Kp F w w') (k : Below w'.heap.size w' w'') : Kp F w w'' := h.trans (Kp.ofBelow F k) (fun _ _ h => h)
theorem Kp.alloc (h : Kp F w w') (o : Obj) : Kp F w (w'.alloc o) := h.trans (Kp.ofBelow F ((Below.refl _ _).alloc (Nat.le_refl _) o)) (fun _ _ h => h)
theorem Kp.drew (h : Kp F w w') : Kp F w w'.drew := h.trans (Kp.ofBelow F (Below.refl _ _).drew) (fun _ _ h => h)
theorem Kp.set (h : Kp F w w') (b i : Nat) (u : Value) (hF : b < w.heap.size → F b) : Kp F w (w'.setCell ⟨b, i, none⟩ u) :=
  h.trans (G := fun k => k = b) ⟨rfl, rfl, rfl, by simp [World.setCell], fun k _ hk => Below.heap_setCell _ _ _ _ hk⟩ (fun k hk e => by subst e; exact hF hk)
theorem Kp.grown {row : Option Nat} (h : Kp F w w') (hg : w'.grownBy w'' row) (hF : ∀ k, k < w.heap.size → row = some k → F k) : Kp F w w'' :=
  h.trans (G := fun k => row = some k) ⟨hg.os, hg.tape, hg.output, hg.size, fun k hk hne => hg.block k hk (fun e => hne e.symm)⟩ (fun k hk e => hF k hk e)
end

/-- the cells of bytes -/
def bc (l : List Nat) : List Value := l.map fun (n : Nat) => Value.int .u8 (n : Int)
theorem bc_length (l : List Nat) : (bc l).length = l.length := by unfold bc; rw [List.length_map]
theorem bc_append (l m : List Nat) : bc (l ++ m) = bc l ++ bc m := by unfold bc; rw [List.map_append]
theorem bc_get {l : List Nat} {i : Nat} {u : Value} (h : (bc l)[i]? = some u) : ∃ x, l[i]? = some x ∧ u = .int .u8 (x : Int) := by
  unfold bc at h
  rw [List.getElem?_map] at h
  cases e : l[i]? with
  | none => rw [e] at h; simp at h
  | some x => rw [e] at h; simp at h; exact ⟨x, rfl, h.symm⟩
theorem bc_some {l : List Nat} {i x : Nat} (h : l[i]? = some x) : (bc l)[i]? = some (.int .u8 (x : Int)) := by
  unfold bc; rw [List.getElem?_map, h]; rfl
theorem bc_one (l : List Nat) : ∀ u ∈ bc l, u.oneCell' = true := by
  intro u hu
  obtain ⟨n, _, rfl⟩ := List.mem_map.1 hu
  rfl

/-- a slice that reads as bytes -/
def RD (W : World) (v : Value) (l : List Nat) : Prop :=
  FC.Bs l ∧ ∃ a cap, v = .slice a l.length cap ∧ l.length ≤ cap ∧ (cap ≤ maxLen ∧ (a = none → cap = 0)) ∧ (l = [] ∨ ∃ g o, a = some ⟨g, o, none⟩ ∧ g < W.heap.size ∧ ∀ (i : Nat) x, l[i]? = some x → W.cell? ⟨g, o + i, none⟩ = some (.int .u8 (x : Int)))
section
variable {W W' : World} {v : Value} {l : List Nat}
theorem RD.bs (h : RD W v l) : FC.Bs l := h.1
theorem RD.keep (h : RD W v l) (hs : W.heap.size ≤ W'.heap.size) (hk : ∀ g, v.ownBlock = some g → g < W.heap.size → W'.heap[g]? = W.heap[g]?) : RD W' v l := by
  obtain ⟨hB, a, cap, rfl, hc, hm, h⟩ := h
  refine ⟨hB, a, cap, rfl, hc, hm, ?_⟩
  rcases h with h | ⟨g, o, rfl, hlt, h⟩
  · exact .inl h
  · exact .inr ⟨g, o, rfl, Nat.lt_of_lt_of_le hlt hs, fun i y hy => (World.cell?_of_block (a := ⟨g, o + i, none⟩) (hk g rfl hlt)).trans (h i y hy)⟩
theorem RD.below' (h : RD W v l) (hb : Below W.heap.size W W') : RD W' v l := h.keep hb.size fun g _ hlt => hb.block g hlt
theorem RD.alloc (h : RD W v l) (o : Obj) : RD (W.alloc o) v l := h.below' ((Below.refl _ _).alloc (Nat.le_refl _) o)
theorem RD.kp {F : Nat → Prop} (h : RD W v l) (k : Kp F W W') (hF : ∀ g, v.ownBlock = some g → ¬ F g) : RD W' v l := h.keep k.size fun g hg hlt => k.block g hlt (hF g hg)
theorem RD.drew (h : RD W v l) : RD W.drew v l := h.below' (Below.refl _ _).drew
theorem RD.nil (W : World) : RD W (.slice none 0 0) [] := ⟨FC.Bs.nil, none, 0, rfl, Nat.zero_le _, ⟨Nat.zero_le _, fun _ => rfl⟩, .inl rfl⟩
theorem RD.form (h : RD W v l) : ∃ a cap, v = .slice a l.length cap ∧ l.length ≤ cap ∧ cap ≤ maxLen ∧ (l = [] ∨ ∃ g o, a = some ⟨g, o, none⟩ ∧ g < W.heap.size) := by
  obtain ⟨_, a, cap, h1, h2, hm, h3⟩ := h
  refine ⟨a, cap, h1, h2, hm.1, ?_⟩
  rcases h3 with h3 | ⟨g, o, h3, h4, _⟩
  · exact .inl h3
  · exact .inr ⟨g, o, h3, h4⟩
theorem RD.len {a : Option Addr} {n cap : Nat} (h : RD W (.slice a n cap) l) : n = l.length ∧ n ≤ cap ∧ cap ≤ maxLen := by
  obtain ⟨_, a', cap', e, hc, hm, _⟩ := h
  cases e
  exact ⟨rfl, hc, hm.1⟩
/-- nil has no room -/
theorem RD.nilv {n cap : Nat} (h : RD W (.slice none n cap) l) : n = 0 ∧ cap = 0 ∧ l = [] := by
  obtain ⟨_, a', cap', e, hc, hm, _⟩ := h
  cases e
  have := hm.2 rfl
  subst this
  exact ⟨by omega, rfl, List.length_eq_zero_iff.1 (by omega)⟩
theorem RD.cell {g o n cap : Nat} (h : RD W (.slice (some ⟨g, o, none⟩) n cap) l) {i x : Nat} (hi : l[i]? = some x) : W.cell? ⟨g, o + i, none⟩ = some (.int .u8 (x : Int)) := by
  obtain ⟨_, a', cap', e, hc, _, h⟩ := h
  cases e
  rcases h with h | ⟨g', o', e, _, h⟩
  · rw [h] at hi; simp at hi
  · cases e; exact h i x hi
theorem RD.lt {g o n cap : Nat} (h : RD W (.slice (some ⟨g, o, none⟩) n cap) l) (hl : l ≠ []) : g < W.heap.size := by
  obtain ⟨_, a', cap', e, hc, _, h⟩ := h
  cases e
  rcases h with h | ⟨g', o', e, hlt, _⟩
  · exact absurd h hl
  · cases e; exact hlt
theorem RD.cells {g o n cap : Nat} (h : RD W (.slice (some ⟨g, o, none⟩) n cap) l) : ∀ j u, (bc l)[j]? = some u → W.cell? ((⟨g, o, none⟩ : Addr).add j) = some u := fun j u hu => by
  obtain ⟨x, hx, rfl⟩ := bc_get hu
  rw [Addr.add_mid]; exact h.cell hx
/-- a part of it, from the beginning -/
theorem RD.take {a : Option Addr} {n cap : Nat} (h : RD W (.slice a n cap) l) (k : Nat) (hk : k ≤ l.length) : RD W (.slice a k cap) (l.take k) := by
  obtain ⟨hB, a', cap', e, hc, hm, h⟩ := h
  cases e
  have hl : (l.take k).length = k := by rw [List.length_take]; omega
  refine ⟨hB.take k, a, cap, by rw [hl], by omega, hm, ?_⟩
  rcases h with h | ⟨g, o, rfl, hlt, h⟩
  · left; rw [h]; simp
  · refine .inr ⟨g, o, rfl, hlt, fun i x hx => h i x ?_⟩
    rw [List.getElem?_take] at hx
    split at hx
    · exact hx
    · cases hx
/-- what is behind its first bytes -/
theorem RD.drop {a a' : Option Addr} {n cap : Nat} (h : RD W (.slice a n cap) l) (k : Nat) (hk : k ≤ l.length) (ha : ∀ g o, a = some ⟨g, o, none⟩ → k < l.length → a' = some ⟨g, o + k, none⟩) (hn : a' = none → a = none) : RD W (.slice a' (l.length - k) (cap - k)) (l.drop k) := by
  obtain ⟨hB, a0, cap', e, hc, hm, h⟩ := h
  cases e
  have hl : (l.drop k).length = l.length - k := by rw [List.length_drop]
  refine ⟨hB.drop k, a', cap - k, by rw [hl], by omega, ⟨by have := hm.1; omega, fun e => by have := hm.2 (hn e); omega⟩, ?_⟩
  by_cases hkl : k < l.length
  · rcases h with h | ⟨g, o, rfl, hlt, h⟩
    · left; rw [h]; simp
    · refine .inr ⟨g, o + k, ha g o rfl hkl, hlt, fun i x hx => ?_⟩
      rw [List.getElem?_drop] at hx
      rw [Nat.add_assoc]; exact h (k + i) x hx
  · left; apply List.length_eq_zero_iff.1; omega
end

/-- a slice value that owns a row of bytes, in blocks from B on -/
def OW (W : World) (B : Nat) (v : Value) (l : List Nat) : Prop := W.ownsRow B 5 1 v l.length (bc l)
section
variable {W W' : World} {B : Nat} {v : Value} {l : List Nat}
theorem OW.nil (W : World) (B : Nat) : OW W B (.slice none 0 0) [] := World.ownsRow_nil W B _ 1
theorem OW.form (h : OW W B v l) : (v = .slice none 0 0 ∧ l = []) ∨ ∃ g cap, v = .slice (some ⟨g, 0, none⟩) l.length cap ∧ B ≤ g ∧ g < W.heap.size ∧ l.length ≤ cap ∧ cap ≤ maxLen := by
  rcases h.2 with ⟨h1, h2⟩ | ⟨g, cap, cur, hv, hb, hg, hc, hm, _⟩
  · exact .inl ⟨h1, List.length_eq_zero_iff.1 h2⟩
  · exact .inr ⟨g, cap, hv, hb, (Array.getElem?_eq_some_iff.1 hg).1, hc, hm⟩
theorem OW.lt (h : OW W B v l) : ∀ g, v.ownBlock = some g → B ≤ g ∧ g < W.heap.size := World.ownsRow.lt h
theorem OW.keep (h : OW W B v l) (hk : ∀ g, v.ownBlock = some g → W'.heap[g]? = W.heap[g]?) : OW W' B v l := by
  refine ⟨h.1, ?_⟩
  rcases h.2 with h2 | ⟨g, cap, cur, hv, hb, hg, r⟩
  · exact .inl h2
  · exact .inr ⟨g, cap, cur, hv, hb, (hk g (by rw [hv]; rfl)).trans hg, r⟩
theorem OW.below' (h : OW W B v l) (hb : Below W.heap.size W W') : OW W' B v l := h.keep fun g hg => hb.block g (h.lt g hg).2
theorem OW.kp {F : Nat → Prop} (h : OW W B v l) (k : Kp F W W') (hF : ∀ g, v.ownBlock = some g → ¬ F g) : OW W' B v l := h.keep fun g hg => k.block g (h.lt g hg).2 (hF g hg)
theorem OW.alloc (h : OW W B v l) (o : Obj) : OW (W.alloc o) B v l := h.below' ((Below.refl _ _).alloc (Nat.le_refl _) o)
theorem OW.mono {B' : Nat} (h : OW W B v l) (hB : B' ≤ B) : OW W B' v l := by
  refine ⟨h.1, ?_⟩
  rcases h.2 with h2 | ⟨g, cap, cur, hv, hb, r⟩
  · exact .inl h2
  · exact .inr ⟨g, cap, cur, hv, Nat.le_trans hB hb, r⟩
theorem OW.cell {g cap n : Nat} (h : OW W B (.slice (some ⟨g, 0, none⟩) n cap) l) {i x : Nat} (hi : l[i]? = some x) : W.cell? ⟨g, i, none⟩ = some (.int .u8 (x : Int)) := by
  have := World.ownsRow.cells h (g := g) rfl i _ (bc_some hi)
  rwa [Addr.add_mid, Nat.zero_add] at this
theorem OW.rd (h : OW W B v l) (hB : FC.Bs l) : RD W v l := by
  rcases h.form with ⟨rfl, rfl⟩ | ⟨g, cap, rfl, _, hlt, hc, hm⟩
  · exact RD.nil _
  · exact ⟨hB, _, cap, rfl, hc, ⟨hm, fun e => by cases e⟩, .inr ⟨g, 0, rfl, hlt, fun i x hx => by rw [Nat.zero_add]; exact h.cell hx⟩⟩
theorem OW.len {a : Option Addr} {n cap : Nat} (h : OW W B (.slice a n cap) l) : n = l.length := by
  rcases h.form with ⟨h1, h2⟩ | ⟨g, c, h1, _⟩
  · cases h1; rw [h2]; rfl
  · cases h1; rfl
theorem OW.fr {g cap n : Nat} (h : OW W B (.slice (some ⟨g, 0, none⟩) n cap) l) (j : Nat) : W.frozen? ⟨g, j, none⟩ = false := by
  have hn := h.len
  subst hn
  exact World.ownsRow.frozenAt h j
theorem bc_set (l : List Nat) (i x : Nat) : (bc l).set i (.int .u8 (x : Int)) = bc (l.set i x) := by unfold bc; rw [List.map_set]
/-- a byte is written -/
theorem OW.put {g cap n : Nat} (h : OW W B (.slice (some ⟨g, 0, none⟩) n cap) l) (i x : Nat) : OW (W.setCell ⟨g, i, none⟩ (.int .u8 (x : Int))) B (.slice (some ⟨g, 0, none⟩) n cap) (l.set i x) := by
  have hn := h.len
  subst hn
  have := (World.ownsRow.stored h i (.int .u8 (x : Int))).1
  rw [bc_set] at this
  unfold OW
  rw [List.length_set]
  exact this
/-- a slice of bytes that was just typed -/
theorem OW.lit (W : World) (l : List Nat) (hB : B ≤ W.heap.size) (hm : l.length ≤ maxLen) : OW (W.alloc (.cells (bc l).toArray 5)) B (.slice (some ⟨W.heap.size, 0, none⟩) l.length l.length) l := by
  have := World.ownsRow_lit (e := 5) (size := 1) W (bc l).toArray l.length hB hm (by simp [bc_length])
  simpa [OW] using this
end

/-- the cells of a frame, of frames -/
def fv (f : Fr) : List Value := [.int .i64 f.ki, .int .i64 f.ca, .int .i64 f.sq, .int .i64 f.a, .int .i64 f.b, .int .i64 f.c]
def rv (L : List Fr) : List Value := L.flatMap fv
theorem fv_length (f : Fr) : (fv f).length = 6 := rfl
theorem rv_length (L : List Fr) : (rv L).length = L.length * 6 := by
  induction L with
  | nil => rfl
  | cons c r ih => show (fv c ++ rv r).length = _; rw [List.length_append, ih, fv_length, List.length_cons]; omega
theorem rv_append (L M : List Fr) : rv (L ++ M) = rv L ++ rv M := by unfold rv; rw [List.flatMap_append]
theorem rv_one1 (f : Fr) : rv [f] = fv f := by simp [rv]
theorem rv_get {L : List Fr} {i j : Nat} (h : i < L.length) (hj : j < 6) : (rv L)[i * 6 + j]? = (fv L[i])[j]? := by
  induction L generalizing i with
  | nil => simp at h
  | cons c r ih =>
    show (fv c ++ rv r)[i * 6 + j]? = _
    cases i with
    | zero => rw [List.getElem?_append_left (by rw [fv_length]; omega)]; simp
    | succ i =>
      rw [List.getElem?_append_right (by rw [fv_length]; omega), fv_length, show (i + 1) * 6 + j - 6 = i * 6 + j by omega, ih (by simpa using h)]
      simp
theorem fv_one (f : Fr) : ∀ u ∈ fv f, u.oneCell' = true := by
  intro u hc
  simp only [fv, List.mem_cons, List.not_mem_nil, or_false] at hc
  rcases hc with rfl | rfl | rfl | rfl | rfl | rfl <;> rfl
theorem rv_one (L : List Fr) : ∀ u ∈ rv L, u.oneCell' = true := by
  intro u hu
  obtain ⟨c, _, hc⟩ := List.mem_flatMap.1 hu
  exact fv_one c u hc

/-- a slice that reads as frames -/
def RF (W : World) (v : Value) (L : List Fr) : Prop :=
  ∃ a cap, v = .slice a L.length cap ∧ L.length ≤ cap ∧ (L = [] ∨ ∃ g o, a = some ⟨g, o, none⟩ ∧ g < W.heap.size ∧ ∀ (i : Nat) y, L[i]? = some y → W.rangeAt g (o + i * 6) (fv y))
/-- a slice value that owns a row of frames, in blocks from B on -/
def FO (W : World) (B : Nat) (v : Value) (L : List Fr) : Prop := W.ownsRow B 26 6 v L.length (rv L)
section
variable {W W' : World} {B : Nat} {v : Value} {L : List Fr}
theorem rangeAt_block {b o : Nat} {cs : List Value} (h : W.rangeAt b o cs) (hb : W'.heap[b]? = W.heap[b]?) : W'.rangeAt b o cs := fun j u hu =>
  (World.cell?_of_block (a := ⟨b, o + j, none⟩) hb).trans (h j u hu)
theorem RF.keep (h : RF W v L) (hs : W.heap.size ≤ W'.heap.size) (hk : ∀ g, v.ownBlock = some g → g < W.heap.size → W'.heap[g]? = W.heap[g]?) : RF W' v L := by
  obtain ⟨a, cap, rfl, hc, h⟩ := h
  refine ⟨a, cap, rfl, hc, ?_⟩
  rcases h with h | ⟨g, o, rfl, hlt, h⟩
  · exact .inl h
  · exact .inr ⟨g, o, rfl, Nat.lt_of_lt_of_le hlt hs, fun i y hy => rangeAt_block (h i y hy) (hk g rfl hlt)⟩
theorem RF.below' (h : RF W v L) (hb : Below W.heap.size W W') : RF W' v L := h.keep hb.size fun g _ hlt => hb.block g hlt
theorem RF.kp {F : Nat → Prop} (h : RF W v L) (k : Kp F W W') (hF : ∀ g, v.ownBlock = some g → ¬ F g) : RF W' v L := h.keep k.size fun g hg hlt => k.block g hlt (hF g hg)
theorem RF.form (h : RF W v L) : ∃ a cap, v = .slice a L.length cap ∧ L.length ≤ cap := by
  obtain ⟨a, cap, h1, h2, _⟩ := h
  exact ⟨a, cap, h1, h2⟩
theorem RF.at {a : Option Addr} {n cap : Nat} (h : RF W (.slice a n cap) L) {i : Nat} {y : Fr} (hy : L[i]? = some y) : ∃ g o, a = some ⟨g, o, none⟩ ∧ g < W.heap.size ∧ W.rangeAt g (o + i * 6) (fv y) := by
  obtain ⟨a', cap', e, _, h⟩ := h
  cases e
  rcases h with h | ⟨g, o, rfl, hlt, h⟩
  · rw [h] at hy; simp at hy
  · exact ⟨g, o, rfl, hlt, h i y hy⟩
theorem FO.nil (W : World) (B : Nat) : FO W B (.slice none 0 0) [] := World.ownsRow_nil W B _ 6
theorem FO.form (h : FO W B v L) : (v = .slice none 0 0 ∧ L = []) ∨ ∃ g cap, v = .slice (some ⟨g, 0, none⟩) L.length cap ∧ B ≤ g ∧ g < W.heap.size ∧ L.length ≤ cap := by
  rcases h.2 with ⟨h1, h2⟩ | ⟨g, cap, cur, hv, hb, hg, hc, _⟩
  · exact .inl ⟨h1, List.length_eq_zero_iff.1 h2⟩
  · exact .inr ⟨g, cap, hv, hb, (Array.getElem?_eq_some_iff.1 hg).1, hc⟩
theorem FO.lt (h : FO W B v L) : ∀ g, v.ownBlock = some g → B ≤ g ∧ g < W.heap.size := World.ownsRow.lt h
theorem FO.keep (h : FO W B v L) (hk : ∀ g, v.ownBlock = some g → W'.heap[g]? = W.heap[g]?) : FO W' B v L := by
  refine ⟨h.1, ?_⟩
  rcases h.2 with h2 | ⟨g, cap, cur, hv, hb, hg, r⟩
  · exact .inl h2
  · exact .inr ⟨g, cap, cur, hv, hb, (hk g (by rw [hv]; rfl)).trans hg, r⟩
theorem FO.below' (h : FO W B v L) (hb : Below W.heap.size W W') : FO W' B v L := h.keep fun g hg => hb.block g (h.lt g hg).2
theorem FO.kp {F : Nat → Prop} (h : FO W B v L) (k : Kp F W W') (hF : ∀ g, v.ownBlock = some g → ¬ F g) : FO W' B v L := h.keep fun g hg => k.block g (h.lt g hg).2 (hF g hg)
theorem FO.alloc (h : FO W B v L) (o : Obj) : FO (W.alloc o) B v L := h.below' ((Below.refl _ _).alloc (Nat.le_refl _) o)
theorem FO.mono {B' : Nat} (h : FO W B v L) (hB : B' ≤ B) : FO W B' v L := by
  refine ⟨h.1, ?_⟩
  rcases h.2 with h2 | ⟨g, cap, cur, hv, hb, r⟩
  · exact .inl h2
  · exact .inr ⟨g, cap, cur, hv, Nat.le_trans hB hb, r⟩
theorem FO.range {g cap n : Nat} (h : FO W B (.slice (some ⟨g, 0, none⟩) n cap) L) {i : Nat} (hi : i < L.length) : W.rangeAt g (i * 6) (fv L[i]) := fun j u hu => by
  have hj : j < 6 := by have := (List.getElem?_eq_some_iff.1 hu).1; rwa [fv_length] at this
  have := World.ownsRow.cells h (g := g) rfl (i * 6 + j) u (by rw [rv_get hi hj]; exact hu)
  rwa [Addr.add_mid, Nat.zero_add] at this
theorem FO.rf (h : FO W B v L) : RF W v L := by
  rcases h.form with ⟨rfl, rfl⟩ | ⟨g, cap, rfl, _, hlt, hc⟩
  · exact ⟨none, 0, rfl, Nat.le_refl _, .inl rfl⟩
  · refine ⟨_, cap, rfl, hc, .inr ⟨g, 0, rfl, hlt, fun i y hy => ?_⟩⟩
    obtain ⟨hi, rfl⟩ := List.getElem?_eq_some_iff.1 hy
    rw [Nat.zero_add]
    exact h.range hi
end

/-- a block that holds a frame -/
def FB (W : World) (b : Nat) (f : Fr) : Prop := W.heap[b]? = some (.cells #[.int .i64 f.ki, .int .i64 f.ca, .int .i64 f.sq, .int .i64 f.a, .int .i64 f.b, .int .i64 f.c] 26 (0, 0))
section
variable {W W' : World} {b : Nat} {f : Fr}
theorem FB.lt (H : FB W b f) : b < W.heap.size := (Array.getElem?_eq_some_iff.1 H).1
theorem FB.range (H : FB W b f) : W.rangeAt b 0 (fv f) := fun j v hv => by
  rw [Nat.zero_add, cell_of_row W b j _ _ _ H, ← hv]; simp [fv]
theorem FB.c0 (H : FB W b f) : W.cell? ⟨b, 0, none⟩ = some (.int .i64 f.ki) := H.range 0 _ rfl
theorem FB.c1 (H : FB W b f) : W.cell? ⟨b, 1, none⟩ = some (.int .i64 f.ca) := H.range 1 _ rfl
theorem FB.c2 (H : FB W b f) : W.cell? ⟨b, 2, none⟩ = some (.int .i64 f.sq) := H.range 2 _ rfl
theorem FB.c3 (H : FB W b f) : W.cell? ⟨b, 3, none⟩ = some (.int .i64 f.a) := H.range 3 _ rfl
theorem FB.c4 (H : FB W b f) : W.cell? ⟨b, 4, none⟩ = some (.int .i64 f.b) := H.range 4 _ rfl
theorem FB.c5 (H : FB W b f) : W.cell? ⟨b, 5, none⟩ = some (.int .i64 f.c) := H.range 5 _ rfl
theorem FB.fr (H : FB W b f) (i : Nat) : W.frozen? ⟨b, i, none⟩ = false := by simp [World.frozen?, show W.heap[b]? = _ from H]
theorem FB.below' (H : FB W b f) (hb : Below W.heap.size W W') : FB W' b f := (hb.block b H.lt).trans H
theorem FB.alloc (H : FB W b f) (o : Obj) : FB (W.alloc o) b f := H.below' ((Below.refl _ _).alloc (Nat.le_refl _) o)
theorem FB.drew (H : FB W b f) : FB W.drew b f := H.below' (Below.refl _ _).drew
theorem FB.new (W : World) (f : Fr) : FB (W.alloc (.cells #[.int .i64 f.ki, .int .i64 f.ca, .int .i64 f.sq, .int .i64 f.a, .int .i64 f.b, .int .i64 f.c] 26)) W.heap.size f := heap_alloc_new W _
theorem FB.kp {G : Nat → Prop} (H : FB W b f) (k : Kp G W W') (hG : ¬ G b) : FB W' b f := (k.block b H.lt hG).trans H
end

end Go.Proofs.Ytkbfljacjfaamae
