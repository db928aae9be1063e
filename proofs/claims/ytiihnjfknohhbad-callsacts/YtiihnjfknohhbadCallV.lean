/- Rows of calls that are read, wherever they begin; how two rows are held against one another. -/
import Derived.Test.YtiihnjfknohhbadCallT
namespace Go.Proofs.Ytiihnjfknohhbad
open Go.RowKit

/-- a slice that reads as a row of calls -/
def RV (W : World) (v : Value) (L : List Cl) : Prop :=
  ∃ a cap, v = .slice a L.length cap ∧ L.length ≤ cap ∧ (L = [] ∨ ∃ g o, a = some ⟨g, o, none⟩ ∧ g < W.heap.size ∧ ∀ (i : Nat) y, L[i]? = some y → W.rangeAt g (o + i * 4) (cv y))
section
variable {W W' : World} {v : Value} {L : List Cl}
theorem RW.rv {B : Nat} (h : RW W B v L) : RV W v L := by
  rcases h.form with ⟨rfl, rfl⟩ | ⟨g, cap, rfl, _, hlt, hc⟩
  · exact ⟨none, 0, rfl, Nat.le_refl _, .inl rfl⟩
  · refine ⟨_, cap, rfl, hc, .inr ⟨g, 0, rfl, hlt, fun i y hy => ?_⟩⟩
    obtain ⟨hi, rfl⟩ := List.getElem?_eq_some_iff.1 hy
    rw [Nat.zero_add]
    exact h.range hi
theorem rangeAt_block {b o : Nat} {cs : List Value} (h : W.rangeAt b o cs) (hb : W'.heap[b]? = W.heap[b]?) : W'.rangeAt b o cs := fun j u hu =>
  (World.cell?_of_block (a := ⟨b, o + j, none⟩) hb).trans (h j u hu)
theorem RV.keep (h : RV W v L) (hs : W.heap.size ≤ W'.heap.size) (hk : ∀ g, v.ownBlock = some g → g < W.heap.size → W'.heap[g]? = W.heap[g]?) : RV W' v L := by
  obtain ⟨a, cap, rfl, hc, h⟩ := h
  refine ⟨a, cap, rfl, hc, ?_⟩
  rcases h with h | ⟨g, o, rfl, hlt, h⟩
  · exact .inl h
  · exact .inr ⟨g, o, rfl, Nat.lt_of_lt_of_le hlt hs, fun i y hy => rangeAt_block (h i y hy) (hk g rfl hlt)⟩
theorem RV.below' (h : RV W v L) (hb : Below W.heap.size W W') : RV W' v L := h.keep hb.size fun g _ hlt => hb.block g hlt
theorem RV.alloc (h : RV W v L) (o : Obj) : RV (W.alloc o) v L := h.below' ((Below.refl _ _).alloc (Nat.le_refl _) o)
theorem RV.kp {F : Nat → Prop} (h : RV W v L) (k : Kp F W W') (hF : ∀ g, v.ownBlock = some g → ¬ F g) : RV W' v L := h.keep k.size fun g hg hlt => k.block g hlt (hF g hg)
theorem RV.nil (W : World) (a : Option Addr) (cap : Nat) : RV W (.slice a 0 cap) [] := ⟨a, cap, rfl, Nat.zero_le _, .inl rfl⟩
/-- an element's cells -/
theorem RV.elem {a : Option Addr} {n cap : Nat} (h : RV W (.slice a n cap) L) {i : Nat} (hi : i < L.length) : ∃ g o, a = some ⟨g, o, none⟩ ∧ ∃ y : Cl, L[i]? = some y ∧ W.rangeAt g (o + i * 4) (cv y) := by
  obtain ⟨a', cap', e, _, h⟩ := h
  cases e
  rcases h with h | ⟨g, o, rfl, _, h⟩
  · rw [h] at hi; simp at hi
  · exact ⟨g, o, rfl, L[i], List.getElem?_eq_getElem hi, h i _ (List.getElem?_eq_getElem hi)⟩
theorem RV.at {a : Option Addr} {n cap : Nat} (h : RV W (.slice a n cap) L) {i : Nat} {y : Cl} (hy : L[i]? = some y) : ∃ g o, a = some ⟨g, o, none⟩ ∧ W.cell? ⟨g, o + i * 4, none⟩ = some (.int .i64 y.fl) ∧ W.cell? ⟨g, o + i * 4 + 1, none⟩ = some (.int .i64 y.ca) ∧ W.cell? ⟨g, o + i * 4 + 2, none⟩ = some (.int .i64 y.ag) ∧ W.cell? ⟨g, o + i * 4 + 3, none⟩ = some (.bool y.up) := by
  obtain ⟨g, o, e, z, hz, hr⟩ := h.elem (List.getElem?_eq_some_iff.1 hy).1
  rw [hy] at hz
  cases hz
  exact ⟨g, o, e, hr 0 _ rfl, hr 1 _ rfl, hr 2 _ rfl, hr 3 _ rfl⟩
theorem RV.len {a : Option Addr} {n cap : Nat} (h : RV W (.slice a n cap) L) : n = L.length ∧ n ≤ cap := by
  obtain ⟨a', cap', e, hc, _⟩ := h
  cases e
  exact ⟨rfl, hc⟩
theorem RV.form (h : RV W v L) : ∃ a cap, v = .slice a L.length cap ∧ L.length ≤ cap := by
  obtain ⟨a, cap, h1, h2, _⟩ := h
  exact ⟨a, cap, h1, h2⟩
/-- the rest of a row -/
theorem RV.rest {y : Cl} {g o n cap : Nat} (h : RV W (.slice (some ⟨g, o, none⟩) n cap) (y :: L)) (a : Option Addr) (ha : cap ≠ 1 → a = some ⟨g, o + 4, none⟩) : RV W (.slice a L.length (cap - 1)) L := by
  obtain ⟨a', cap', e, hc, h⟩ := h
  cases e
  simp at hc
  refine ⟨a, cap - 1, rfl, by omega, ?_⟩
  by_cases h1 : cap = 1
  · left
    apply List.length_eq_zero_iff.1
    omega
  · rw [ha h1]
    rcases h with h | ⟨g', o', e, hlt, h⟩
    · cases h
    · cases e
      refine .inr ⟨g, o + 4, rfl, hlt, fun i z hz => ?_⟩
      have := h (i + 1) z (by simpa using hz)
      rwa [show o + (i + 1) * 4 = o + 4 + i * 4 by omega] at this
end

theorem ixK (W : World) {a : Option Addr} {g o n cap j : Nat} (ha : a = some ⟨g, o, none⟩) (hj : j < n) : (Instr.indexAt 30 (.slice a n cap) (.int .i64 (j : Int))).run Try.prog W = .ok (.pointer (some ⟨g, o + j * 4, none⟩)) W := by
  subst ha
  rw [run_indexAt_slice W 30 _ n cap .i64 j (by kernel_rfl), if_pos ⟨by omega, by omega⟩, show Try.prog.elem 30 = 35 by kernel_rfl, Try.sizeOf35]
  simp only [Result.andThen_ok, Int.toNat_natCast, Addr.add_mid]
theorem ixK0 (W : World) {a : Option Addr} {g n cap j : Nat} (ha : a = some ⟨g, 0, none⟩) (hj : j < n) : (Instr.indexAt 30 (.slice a n cap) (.int .i64 (j : Int))).run Try.prog W = .ok (.pointer (some ⟨g, j * 4, none⟩)) W := by
  have := ixK W (cap := cap) ha hj
  rwa [Nat.zero_add] at this
theorem ixA (W : World) {a : Option Addr} {g o n cap j : Nat} (ha : a = some ⟨g, o, none⟩) (hj : j < n) : (Instr.indexAt 24 (.slice a n cap) (.int .i64 (j : Int))).run Try.prog W = .ok (.pointer (some ⟨g, o + j * 6, none⟩)) W := by
  subst ha
  rw [run_indexAt_slice W 24 _ n cap .i64 j (by kernel_rfl), if_pos ⟨by omega, by omega⟩, show Try.prog.elem 24 = 37 by kernel_rfl, Try.sizeOf37]
  simp only [Result.andThen_ok, Int.toNat_natCast, Addr.add_mid]

namespace KM
/-- how a row that was, one that is, and what was served hang together -/
structure Mg (M L S : List Cl) (p : Cl → Bool) (ex : List Cl) : Prop where
  now : L = M.filter (fun x => !p x) ++ ex
  srv : S = M.filter p
  dis : ∀ y ∈ L, p y = false
  one : ex.length ≤ 1
section
variable {M L S ex : List Cl} {p : Cl → Bool} {k : Nat} {c : Cl}
theorem Mg.kept (h : Mg M L S p ex) (hc : M[k]? = some c) (hp : p c = false) : L[((M.take k).filter fun x => !p x).length]? = some c ∧ ((M.take (k + 1)).filter fun x => !p x).length = ((M.take k).filter fun x => !p x).length + 1 ∧ (M.drop k).filter p = (M.drop (k + 1)).filter p := by
  have hk : k < M.length := (List.getElem?_eq_some_iff.1 hc).1
  have e1 : M.take (k + 1) = M.take k ++ [c] := by rw [List.take_add_one, hc]; rfl
  have e2 : M.drop k = c :: M.drop (k + 1) := by
    rw [List.drop_eq_getElem_cons hk]
    have : M[k] = c := by rw [List.getElem?_eq_getElem hk] at hc; exact Option.some.inj hc
    rw [this]
  refine ⟨?_, ?_, ?_⟩
  · have : M = M.take k ++ (c :: M.drop (k + 1)) := by rw [← e2, List.take_append_drop]
    rw [h.now]
    conv => lhs; rw [this]
    rw [List.filter_append, List.filter_cons_of_pos (by rw [hp]; rfl), List.append_assoc, List.getElem?_append_right (by rw [List.take_append_of_le_length (by rw [List.length_take]; omega), List.take_take, Nat.min_self]; exact Nat.le_refl _)]
    rw [List.take_append_of_le_length (by rw [List.length_take]; omega), List.take_take, Nat.min_self, Nat.sub_self]; rfl
  · rw [e1, List.filter_append, List.filter_cons_of_pos (by rw [hp]; rfl)]; simp
  · rw [e2, List.filter_cons_of_neg (by rw [hp]; simp)]
theorem Mg.gone (h : Mg M L S p ex) (hc : M[k]? = some c) (hp : p c = true) : (∀ y, y ∈ L → same y c = false) ∧ ((M.take (k + 1)).filter fun x => !p x).length = ((M.take k).filter fun x => !p x).length ∧ (M.drop k).filter p = c :: (M.drop (k + 1)).filter p := by
  have hk : k < M.length := (List.getElem?_eq_some_iff.1 hc).1
  have e1 : M.take (k + 1) = M.take k ++ [c] := by rw [List.take_add_one, hc]; rfl
  have e2 : M.drop k = c :: M.drop (k + 1) := by
    rw [List.drop_eq_getElem_cons hk]
    have : M[k] = c := by rw [List.getElem?_eq_getElem hk] at hc; exact Option.some.inj hc
    rw [this]
  refine ⟨fun y hy => ?_, ?_, ?_⟩
  · apply same_no
    rintro rfl
    have := h.dis y hy
    rw [hp] at this
    cases this
  · rw [e1, List.filter_append, List.filter_cons_of_neg (by rw [hp]; simp)]; simp
  · rw [e2, List.filter_cons_of_pos hp]
theorem Mg.len (h : Mg M L S p ex) : L.length = (M.filter fun x => !p x).length + ex.length := by rw [h.now, List.length_append]
theorem Mg.plain (M ex : List Cl) (h : ex.length ≤ 1) : Mg M (M ++ ex) [] (fun _ => false) ex := by
  refine ⟨?_, ?_, fun _ _ => rfl, h⟩
  · rw [show M.filter (fun x => !(fun _ => false) x) = M from List.filter_eq_self.2 (fun _ _ => rfl)]
  · symm; rw [List.filter_eq_nil_iff]; simp
theorem Mg.served (M : List Cl) (p : Cl → Bool) : Mg M (M.filter fun x => !p x) (M.filter p) p [] := by
  refine ⟨by simp, rfl, fun y hy => ?_, by simp⟩
  have := (List.mem_filter.1 hy).2
  simpa using this
end
end KM

end Go.Proofs.Ytiihnjfknohhbad
