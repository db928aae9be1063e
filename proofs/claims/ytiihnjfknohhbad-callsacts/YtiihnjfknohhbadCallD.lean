/- Rows of calls that are written in place: what lies there behind it. -/
import Derived.Test.YtiihnjfknohhbadCallF
import Derived.Laws.IdiomCopy
import Derived.Lib.SliceRun
namespace Go.Proofs.Ytiihnjfknohhbad
open Go.RowKit

theorem rv_set (L : List Cl) (i : Nat) (y : Cl) (h : i < L.length) : ((((rv L).set (i * 4) (.int .i64 y.fl)).set (i * 4 + 1) (.int .i64 y.ca)).set (i * 4 + 2) (.int .i64 y.ag)).set (i * 4 + 3) (.bool y.up) = rv (L.set i y) := by
  induction L generalizing i with
  | nil => simp at h
  | cons c r ih =>
    cases i with
    | zero => simp [rv, cv]
    | succ i =>
      have := ih i (by simpa using h)
      show ((((cv c ++ rv r).set _ _).set _ _).set _ _).set _ _ = cv c ++ rv (r.set i y)
      rw [← this]
      simp only [cv, List.cons_append, List.nil_append, show (i + 1) * 4 = (i * 4) + 1 + 1 + 1 + 1 by omega, show (i * 4) + 1 + 1 + 1 + 1 + 1 = (i * 4 + 1) + 1 + 1 + 1 + 1 by omega, show (i * 4) + 1 + 1 + 1 + 1 + 2 = (i * 4 + 2) + 1 + 1 + 1 + 1 by omega, show (i * 4) + 1 + 1 + 1 + 1 + 3 = (i * 4 + 3) + 1 + 1 + 1 + 1 by omega, List.set_cons_succ]
theorem rv_setAge (L : List Cl) (i : Nat) (y : Cl) (g : Int) (h : L[i]? = some y) : (rv L).set (i * 4 + 2) (.int .i64 g) = rv (L.set i ⟨y.fl, y.ca, g, y.up⟩) := by
  induction L generalizing i with
  | nil => simp at h
  | cons c r ih =>
    cases i with
    | zero => simp at h; subst h; simp [rv, cv]
    | succ i =>
      have := ih i (by simpa using h)
      show (cv c ++ rv r).set _ _ = cv c ++ rv (r.set i _)
      rw [← this]
      simp only [cv, List.cons_append, List.nil_append, show (i + 1) * 4 + 2 = (i * 4 + 2) + 1 + 1 + 1 + 1 by omega, List.set_cons_succ]

section
variable {W : World} {B : Nat} {L : List Cl} {g cap n : Nat}
theorem RW.one (h : RW W B (.slice (some ⟨g, 0, none⟩) n cap) L) (j : Nat) (u : Value) :
    (W.setCell ⟨g, j, none⟩ u).ownsRow B 35 4 (.slice (some ⟨g, 0, none⟩) n cap) n ((rv L).set j u) := by
  have hn := h.len
  subst hn
  exact (World.ownsRow.stored h j u).1
/-- an element is written -/
theorem RW.put (h : RW W B (.slice (some ⟨g, 0, none⟩) n cap) L) {i : Nat} (hi : i < L.length) (y : Cl) : RW (W.setCells g (i * 4) (cv y)) B (.slice (some ⟨g, 0, none⟩) n cap) (L.set i y) := by
  have hn := h.len
  have h1 := h.one (i * 4) (.int .i64 y.fl)
  have h2 := (World.ownsRow.stored h1 (i * 4 + 1) (.int .i64 y.ca)).1
  have h3 := (World.ownsRow.stored h2 (i * 4 + 2) (.int .i64 y.ag)).1
  have h4 := (World.ownsRow.stored h3 (i * 4 + 3) (.bool y.up)).1
  rw [rv_set L i y hi] at h4
  unfold RW
  rw [List.length_set, ← hn]
  exact h4
/-- its age is written -/
theorem RW.aged (h : RW W B (.slice (some ⟨g, 0, none⟩) n cap) L) {i : Nat} {y : Cl} (hi : L[i]? = some y) (a : Int) : RW (W.setCell ⟨g, i * 4 + 2, none⟩ (.int .i64 a)) B (.slice (some ⟨g, 0, none⟩) n cap) (L.set i ⟨y.fl, y.ca, a, y.up⟩) := by
  have hn := h.len
  have h1 := h.one (i * 4 + 2) (.int .i64 a)
  rw [rv_setAge L i y a hi] at h1
  unfold RW
  rw [List.length_set, ← hn]
  exact h1
end
theorem setCells_block (b : Nat) (t : TypeId) : ∀ (vs : List Value) (o : Nat) (w : World) (cur : Array Value), w.heap[b]? = some (.cells cur t (0, 0)) →
    ∃ cur', (w.setCells b o vs).heap[b]? = some (.cells cur' t (0, 0)) ∧ cur'.size = cur.size ∧ cur'.toList.take o = cur.toList.take o
  | [], _, _, cur, h => ⟨cur, h, rfl, rfl⟩
  | v :: r, o, w, cur, h => by
    obtain ⟨c', h1, h2, h3⟩ := setCells_block b t r (o + 1) (w.setCell ⟨b, o, none⟩ v) (cur.setIfInBounds o v) (heap_setCell_same w b o cur t v h)
    refine ⟨c', h1, by rw [h2]; simp, ?_⟩
    have h4 := congrArg (List.take o) h3
    rw [List.take_take, List.take_take, Nat.min_eq_left (Nat.le_succ o), Array.toList_setIfInBounds, List.take_set] at h4
    rw [h4, List.set_eq_of_length_le (by simp; omega)]
theorem setCells_other (b : Nat) : ∀ (vs : List Value) (o : Nat) (w : World) (k : Nat), k ≠ b → (w.setCells b o vs).heap[k]? = w.heap[k]?
  | [], _, _, _, _ => rfl
  | v :: r, o, w, k, h => by
    rw [World.setCells, setCells_other b r (o + 1) _ k h]
    exact Below.heap_setCell w ⟨b, o, none⟩ v k h
theorem setCells_size (b : Nat) : ∀ (vs : List Value) (o : Nat) (w : World), (w.setCells b o vs).heap.size = w.heap.size
  | [], _, _ => rfl
  | v :: r, o, w => by rw [World.setCells, setCells_size b r]; simp [World.setCell]
theorem setCells_still (b : Nat) : ∀ (vs : List Value) (o : Nat) (w : World), (w.setCells b o vs).os = w.os ∧ (w.setCells b o vs).tape = w.tape ∧ (w.setCells b o vs).output = w.output
  | [], _, _ => ⟨rfl, rfl, rfl⟩
  | v :: r, o, w => by rw [World.setCells]; exact setCells_still b r (o + 1) _
theorem Kp.setCells {F : Nat → Prop} {w w' : World} (h : Kp F w w') (b o : Nat) (vs : List Value) (hF : b < w.heap.size → F b) : Kp F w (w'.setCells b o vs) :=
  h.trans (G := fun k => k = b) ⟨(setCells_still b vs o w').1, (setCells_still b vs o w').2.1, (setCells_still b vs o w').2.2, by rw [setCells_size]; exact Nat.le_refl _, fun k _ hk => setCells_other b vs o w' k hk⟩ (fun k hk e => by subst e; exact hF hk)
/-- what stands behind the first k is written, and the slice is cut there -/
theorem RW.cut {W : World} {B : Nat} {L : List Cl} {g cap n : Nat} (h : RW W B (.slice (some ⟨g, 0, none⟩) n cap) L) (k : Nat) (hk : k ≤ L.length) (vs : List Value) : RW (W.setCells g (k * 4) vs) B (.slice (some ⟨g, 0, none⟩) k cap) (L.take k) := by
  have hn := h.len
  subst hn
  have hl : (L.take k).length = k := by rw [List.length_take]; omega
  refine ⟨rv_length _, .inr ?_⟩
  rcases h.2 with ⟨h', _⟩ | ⟨g', cap', cur, h', hb, hg, hnc, hcm, hcs, htake⟩
  · simp at h'
  · simp only [Value.slice.injEq, Option.some.injEq, Addr.mk.injEq, and_true, true_and] at h'
    obtain ⟨rfl, rfl⟩ := h'
    obtain ⟨c', h1, h2, h3⟩ := setCells_block g 35 vs (k * 4) W cur hg
    refine ⟨g, cap, c', by rw [hl], hb, h1, by rw [hl]; omega, hcm, by rw [h2]; exact hcs, ?_⟩
    rw [hl, h3, ← rv_take, ← htake, List.take_take, Nat.min_eq_left (by omega)]
theorem RW.there {W : World} {B : Nat} {L : List Cl} {g cap n : Nat} (h : RW W B (.slice (some ⟨g, 0, none⟩) n cap) L) (o m : Nat) (hm : o + m ≤ L.length * 4) : W.there g o m := fun j hj => by
  refine ⟨?_, h.fr _⟩
  have hlt : (o + j) / 4 < L.length := by omega
  have hmod : (o + j) % 4 < 4 := Nat.mod_lt _ (by omega)
  have := h.c _ hlt (List.getElem?_eq_getElem (l := cv (L[(o + j) / 4]'hlt)) (i := (o + j) % 4) (by rw [cv_length]; exact hmod))
  rw [show (o + j) / 4 * 4 + (o + j) % 4 = o + j by omega] at this
  rw [this]; rfl

/-- clear of a part of a row of calls -/
theorem clearK (w : World) (ty : TypeId) (b o n c : Nat) (hn : 0 < n) (ht : w.there b o (n * 4)) :
    ∃ vs, (Builtin.clear_ #[30] ty #[.slice (some ⟨b, o, none⟩) n c]).run Try.prog w = .ok (.tuple #[]) (w.setCells b o vs) := by
  have hv : ∀ w, (zeroValue 35).run Try.prog w = .ok (.agg #[.int .i64 0, .int .i64 0, .int .i64 0, .bool false]) w := Try.zeroValue35
  have hsz : (Builtin.zeroCells (Value.agg #[.int .i64 0, .int .i64 0, .int .i64 0, .bool false]).cells n).size = n * 4 := by rw [size_zeroCells]; rfl
  have h1 : ∀ v ∈ (Builtin.zeroCells (Value.agg #[.int .i64 0, .int .i64 0, .int .i64 0, .bool false]).cells n).toList, v.oneCell' = true := by
    intro v hv
    simp only [Builtin.zeroCells, Value.cells] at hv
    simp at hv
    obtain ⟨i, _, rfl⟩ := hv
    have : i % 4 < 4 := Nat.mod_lt _ (by omega)
    generalize i % 4 = k at this ⊢
    match k, this with
    | 0, _ => rfl
    | 1, _ => rfl
    | 2, _ => rfl
    | 3, _ => rfl
  have hst := run_storeCells_cells (P := Try.prog) b o (Builtin.zeroCells (Value.agg #[.int .i64 0, .int .i64 0, .int .i64 0, .bool false]).cells n).toList 0 w (fun j hj => by simpa using (ht j (by simpa [hsz] using hj)).1) (fun j hj => by simpa using (ht j (by simpa [hsz] using hj)).2) h1
  simp only [Nat.add_zero] at hst
  obtain ⟨m, rfl⟩ : ∃ m, n = m + 1 := ⟨n - 1, by omega⟩
  refine ⟨(Builtin.zeroCells (Value.agg #[.int .i64 0, .int .i64 0, .int .i64 0, .bool false]).cells (m + 1)).toList, ?_⟩
  simp [Builtin.clear_, run_underlying Try.underlying30, hv, hst]

end Go.Proofs.Ytiihnjfknohhbad
