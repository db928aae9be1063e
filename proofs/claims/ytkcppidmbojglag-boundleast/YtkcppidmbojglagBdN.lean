/- Wants that are left, kept in a map. -/
import Derived.Test.YtkcppidmbojglagBas
import Derived.Maps.Keyed
namespace Go.Proofs.Ytkcppidmbojglag
open Go.RowKit Go.ChangeMaps Go.MapKept

/-- a want as a value -/
def wv (y : Int × Int) : Value := .agg #[.int .i64 y.1, .int .i64 y.2]
/-- block mb is a map that holds these wants -/
def MP (W : World) (mb : Nat) (f : Int → Option (Int × Int)) : Prop := ∃ es clock, W.heap[mb]? = some (.map es clock) ∧ (∀ e ∈ es.toList, ∃ k y, e.key = .int .i64 k ∧ e.val = wv y ∧ f k = some y) ∧
  (∀ k y, f k = some y → ∃ e ∈ es.toList, e.key = .int .i64 k) ∧ es.toList.Pairwise fun a b => a.key ≠ b.key
section
variable {W W' : World} {mb : Nat} {f : Int → Option (Int × Int)}
theorem MP.lt (h : MP W mb f) : mb < W.heap.size := by
  obtain ⟨es, clock, hb, _⟩ := h
  exact (Array.getElem?_eq_some_iff.1 hb).1
theorem MP.keep (h : MP W mb f) (hk : W'.heap[mb]? = W.heap[mb]?) : MP W' mb f := by
  obtain ⟨es, clock, hb, h2⟩ := h
  exact ⟨es, clock, hk.trans hb, h2⟩
theorem MP.below' (h : MP W mb f) (hb : Below W.heap.size W W') : MP W' mb f := h.keep (hb.block mb h.lt)
theorem MP.new (W : World) : MP (W.alloc (.map #[] 0)) W.heap.size fun _ => none := ⟨#[], 0, World.alloc_heap_new W _, by simp, by simp, by simp⟩
theorem kp_block {es : Array MapEntry} {clock : Nat} (hb : W.heap[mb]? = some (.map es clock)) (o : Obj) : Kp (fun k => k = mb) W (setBlock W mb o) :=
  ⟨rfl, rfl, rfl, by simp [setBlock], fun _ _ hk => heap_setBlock_other hb o hk⟩
theorem isKey_int (k : Int) : IsKey (.int .i64) (.int .i64 k) := by simp [IsKey]
theorem MP.keys {es : Array MapEntry} (h : ∀ e ∈ es.toList, ∃ k y, e.key = .int .i64 k ∧ e.val = wv y ∧ f k = some y) : ∀ x ∈ es.toList, IsKey (.int .i64) x.key := fun x hx => by
  obtain ⟨k, y, h1, _⟩ := h x hx
  rw [h1]; exact isKey_int k
/-- looking a place up -/
theorem MP.look (h : MP W mb f) (k : Int) : (Instr.lookup 67 (.map (some mb)) (.int .i64 k) true).run Try.prog W = .ok (.tuple #[wv ((f k).getD (0, 0)), .bool (f k).isSome]) W := by
  obtain ⟨es, clock, hb, h1, h2, h3⟩ := h
  rcases findNow_spec (isKey_int k) es.toList 0 (MP.keys h1) with ⟨g1, g2⟩ | ⟨j, e0, g1, g2, g3⟩
  · have hn : f k = none := by
      cases e : f k with
      | none => rfl
      | some y =>
        obtain ⟨e1, he1, he2⟩ := h2 k y e
        exact absurd he2 (g2 e1 he1)
    rw [hn]
    simp [Instr.lookup, run_underlying Try.underlying67, MapKept.run_getObj_map hb, MapKept.run_checkKey Try.underlying3 (isKey_int k), MapKept.run_findKey Try.underlying3 g1, Result.andThen]
    rfl
  · obtain ⟨k', y, a1, a2, a3⟩ := h1 e0 (List.mem_of_getElem? g2)
    rw [a1] at g3
    cases g3
    rw [a3]
    rw [a2] at g1
    simp [Instr.lookup, run_underlying Try.underlying67, MapKept.run_getObj_map hb, MapKept.run_checkKey Try.underlying3 (isKey_int k), MapKept.run_findKey Try.underlying3 g1, Result.andThen]
/-- a place that isn't there is laid -/
theorem MP.lay (h : MP W mb f) {k : Int} (hn : f k = none) (y : Int × Int) : ∃ W', (Instr.mapUpdate 67 (.map (some mb)) (.int .i64 k) (wv y)).run Try.prog W = .ok () W' ∧ MP W' mb (fun j => if j = k then some y else f j) ∧ Kp (fun k => k = mb) W W' := by
  obtain ⟨es, clock, hb, h1, h2, h3⟩ := h
  rcases findNow_spec (isKey_int k) es.toList 0 (MP.keys h1) with ⟨g1, g2⟩ | ⟨j, e0, g1, g2, g3⟩
  · refine ⟨setBlock W mb (.map (es.push ⟨.int .i64 k, wv y, clock⟩) (clock + 1)), ?_, ⟨_, _, heap_setBlock_same hb _, ?_, ?_, ?_⟩, kp_block hb _⟩
    · simp [Instr.mapUpdate, run_underlying Try.underlying67, MapKept.run_getObj_map hb, MapKept.run_checkKey Try.underlying3 (isKey_int k), MapKept.run_findKey Try.underlying3 g1, MapKept.run_setObj_map _ hb, Result.andThen, setBlock]
    · intro e he
      rw [Array.toList_push, List.mem_append, List.mem_singleton] at he
      rcases he with he | rfl
      · obtain ⟨k', y', a1, a2, a3⟩ := h1 e he
        refine ⟨k', y', a1, a2, ?_⟩
        show (if k' = k then some y else f k') = _
        rw [if_neg (fun e1 : k' = k => by rw [e1, hn] at a3; cases a3)]
        exact a3
      · exact ⟨k, y, rfl, rfl, if_pos rfl⟩
    · intro j z hz
      by_cases e : j = k
      · subst e
        exact ⟨⟨.int .i64 j, wv y, clock⟩, by simp, rfl⟩
      · have hz : (if j = k then some y else f j) = some z := hz
        rw [if_neg e] at hz
        obtain ⟨e1, he1, he2⟩ := h2 j z hz
        exact ⟨e1, by simp [he1], he2⟩
    · rw [Array.toList_push, List.pairwise_append]
      refine ⟨h3, by simp, fun a ha b hb2 => ?_⟩
      rw [List.mem_singleton] at hb2
      subst hb2
      exact g2 a ha
  · obtain ⟨k', y', a1, _, a3⟩ := h1 e0 (List.mem_of_getElem? g2)
    rw [a1] at g3
    cases g3
    rw [hn] at a3
    cases a3
theorem erase_ne {α : Type} {R : α → α → Prop} : ∀ {l : List α} {j : Nat} {e0 : α}, l.Pairwise R → (∀ a b, R a b → R b a) → l[j]? = some e0 → ∀ e ∈ l.eraseIdx j, R e0 e
  | [], _, _, _, _, h, _, _ => by simp at h
  | a :: l, 0, e0, hp, _, h, e, he => by
    simp at h
    subst h
    exact (List.pairwise_cons.1 hp).1 e (by simpa using he)
  | a :: l, j + 1, e0, hp, hs, h, e, he => by
    rw [List.eraseIdx_cons_succ, List.mem_cons] at he
    have hj : l[j]? = some e0 := by simpa using h
    rcases he with rfl | he
    · exact hs _ _ ((List.pairwise_cons.1 hp).1 e0 (List.mem_of_getElem? hj))
    · exact erase_ne (List.pairwise_cons.1 hp).2 hs hj e he
theorem mem_erase {α : Type} : ∀ {l : List α} {j : Nat} {e0 e : α}, l[j]? = some e0 → e ∈ l → e ≠ e0 → e ∈ l.eraseIdx j
  | [], _, _, _, h, _, _ => by simp at h
  | a :: l, 0, e0, e, h, he, hne => by
    simp at h
    subst h
    rcases List.mem_cons.1 he with h | h
    · exact absurd h hne
    · simpa using h
  | a :: l, j + 1, e0, e, h, he, hne => by
    have hj : l[j]? = some e0 := by simpa using h
    rw [List.eraseIdx_cons_succ, List.mem_cons]
    rcases List.mem_cons.1 he with h | h
    · exact .inl h
    · exact .inr (mem_erase hj h hne)
/-- a place that is there is taken out -/
theorem MP.drop (h : MP W mb f) {k : Int} {y : Int × Int} (hy : f k = some y) : ∃ W', (∀ ty, (Builtin.delete_ #[67, 3] ty #[.map (some mb), .int .i64 k]).run Try.prog W = .ok (.tuple #[]) W') ∧ MP W' mb (fun j => if j = k then none else f j) ∧ Kp (fun k => k = mb) W W' := by
  obtain ⟨es, clock, hb, h1, h2, h3⟩ := h
  rcases findNow_spec (isKey_int k) es.toList 0 (MP.keys h1) with ⟨g1, g2⟩ | ⟨j, e0, g1, g2, g3⟩
  · obtain ⟨e1, he1, he2⟩ := h2 k y hy
    exact absurd he2 (g2 e1 he1)
  · have hjs : j < es.size := by simpa using (List.getElem?_eq_some_iff.1 g2).1
    have hsub : (es.eraseIdxIfInBounds j).toList = es.toList.eraseIdx j := by
      unfold Array.eraseIdxIfInBounds
      rw [dif_pos hjs]
      simp
    refine ⟨setBlock W mb (.map (es.eraseIdxIfInBounds j) clock), ?_, ⟨_, _, heap_setBlock_same hb _, ?_, ?_, ?_⟩, kp_block hb _⟩
    · intro ty
      rw [Nat.zero_add] at g1
      simp [Builtin.delete_, run_underlying Try.underlying67, MapKept.run_getObj_map hb, MapKept.run_checkKey Try.underlying3 (isKey_int k), MapKept.run_findKey Try.underlying3 g1, MapKept.run_setObj_map _ hb, Result.andThen, setBlock]
    · intro e he
      rw [hsub] at he
      obtain ⟨k', y', a1, a2, a3⟩ := h1 e ((List.eraseIdx_sublist _ _).subset he)
      refine ⟨k', y', a1, a2, ?_⟩
      show (if k' = k then none else f k') = _
      rw [if_neg]
      · exact a3
      · intro e1
        have := erase_ne h3 (fun _ _ h => Ne.symm h) g2 e he
        rw [g3, a1, e1] at this
        exact this rfl
    · intro i z hz
      have hz : (if i = k then none else f i) = some z := hz
      by_cases e : i = k
      · rw [if_pos e] at hz; cases hz
      · rw [if_neg e] at hz
        obtain ⟨e1, he1, he2⟩ := h2 i z hz
        refine ⟨e1, ?_, he2⟩
        rw [hsub]
        refine mem_erase g2 he1 fun e2 => ?_
        rw [e2, g3] at he2
        cases he2
        exact e rfl
    · rw [hsub]
      exact h3.sublist (List.eraseIdx_sublist _ _)
end

end Go.Proofs.Ytkcppidmbojglag
