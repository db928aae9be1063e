/- Three plans that grow side by side: a want put in twice, taken out, and taken out (to be put elsewhere). -/
import Derived.Test.YtkcppidmbojglafPlOa
namespace Go.Proofs.Ytkcppidmbojglaf
open Go.RowKit Go.Shelf

/-- blocks of none of the three rows -/
def Far (B gt go gd : Nat) (g : Nat) : Prop := B ≤ g ∧ g ≠ gt ∧ g ≠ go ∧ g ≠ gd
structure On (W : World) (B : Nat) (x : Int) (p : List (List Int)) (kt ko kd gt go gd ct co cd : Nat) (ut uo ud : List Value) : Prop where
  ot : OP W B (.slice (some ⟨gt, 0, none⟩) kt ct) ut
  oo : OP W B (.slice (some ⟨go, 0, none⟩) ko co) uo
  od : OP W B (.slice (some ⟨gd, 0, none⟩) kd cd) ud
  n1 : gt ≠ go
  n2 : gt ≠ gd
  n3 : go ≠ gd
  rt : ∀ (i : Nat) u l, ut[i]? = some u → p[i]? = some l → RI (Far B gt go gd) W u (PM.tw x l)
  ro : ∀ (i : Nat) u l, uo[i]? = some u → p[i]? = some l → RI (Far B gt go gd) W u (PM.fw x l)
  rd : ∀ (i : Nat) u l, ud[i]? = some u → p[i]? = some l → OI W B u (PM.fw x l)
  rf : ∀ (i : Nat) u g, ud[i]? = some u → u.ownBlock = some g → Far B gt go gd g ∧ g < W.heap.size
  rs : ∀ (i j : Nat) u u' g, i ≠ j → ud[i]? = some u → ud[j]? = some u' → u.ownBlock = some g → u'.ownBlock ≠ some g
section
variable {W W' : World} {B : Nat} {x : Int} {p : List (List Int)} {kt ko kd gt go gd ct co cd : Nat} {ut uo ud : List Value}
theorem On.keep (h : On W B x p kt ko kd gt go gd ct co cd ut uo ud) (hs : W.heap.size ≤ W'.heap.size) (hk : ∀ g, B ≤ g → g < W.heap.size → W'.heap[g]? = W.heap[g]?) : On W' B x p kt ko kd gt go gd ct co cd ut uo ud :=
  ⟨h.ot.keep fun g hg => hk g (h.ot.lt g hg).1 (h.ot.lt g hg).2, h.oo.keep fun g hg => hk g (h.oo.lt g hg).1 (h.oo.lt g hg).2, h.od.keep fun g hg => hk g (h.od.lt g hg).1 (h.od.lt g hg).2, h.n1, h.n2, h.n3,
    fun i u l hu hl => (h.rt i u l hu hl).keep hs fun g hg hlt => hk g hg.1 hlt, fun i u l hu hl => (h.ro i u l hu hl).keep hs fun g hg hlt => hk g hg.1 hlt,
    fun i u l hu hl => (h.rd i u l hu hl).keep fun g hg => hk g ((h.rd i u l hu hl).lt g hg).1 ((h.rd i u l hu hl).lt g hg).2, fun i u g hu hg => ⟨(h.rf i u g hu hg).1, Nat.lt_of_lt_of_le (h.rf i u g hu hg).2 hs⟩, h.rs⟩
theorem On.below' (h : On W B x p kt ko kd gt go gd ct co cd ut uo ud) (hb : Below W.heap.size W W') : On W' B x p kt ko kd gt go gd ct co cd ut uo ud := h.keep hb.size fun g _ hlt => hb.block g hlt
theorem snoc_get {α : Type} {l : List α} {a u : α} {i : Nat} (h : (l ++ [a])[i]? = some u) : l[i]? = some u ∨ (i = l.length ∧ u = a) := by
  by_cases hi : i < l.length
  · rw [List.getElem?_append_left hi] at h; exact .inl h
  · rw [List.getElem?_append_right (by omega)] at h
    have hi0 : i - l.length = 0 := by
      have := (List.getElem?_eq_some_iff.1 h).1
      simp at this
      omega
    rw [hi0] at h
    simp at h
    exact .inr ⟨by omega, h.symm⟩
theorem grown_keep {row : Nat} (hg : W.grownBy W' (some row)) {g : Nat} (hlt : g < W.heap.size) (hne : g ≠ row) : W'.heap[g]? = W.heap[g]? := hg.block g hlt (fun e => hne (Option.some.inj e))
/-- one list more that has the want twice -/
theorem On.growT (h : On W B x p kt ko kd gt go gd ct co cd ut uo ud) {gt' ct' : Nat} {a : Value} {l : List Int} (ho : OP W' B (.slice (some ⟨gt', 0, none⟩) (ut.length + 1) ct') (ut ++ [a])) (hg : W.grownBy W' (some gt)) (hat : gt' = gt ∨ gt' = W.heap.size)
    (hr : RI (Far B gt go gd) W a (PM.tw x l)) (hl : p[ut.length]? = some l) : On W' B x p (ut.length + 1) ko kd gt' go gd ct' co cd (ut ++ [a]) uo ud := by
  have lo := h.oo.lt go rfl
  have ld := h.od.lt gd rfl
  have mono : ∀ {u : Value} {m : List Int}, RI (Far B gt go gd) W u m → RI (Far B gt' go gd) W' u m := fun {u m} hu => by
    refine ((hu.mono (D' := fun g => Far B gt go gd g ∧ g < W.heap.size) fun g hg hlt _ => ⟨hg, hlt⟩).keep hg.size fun g hg' hlt => grown_keep hg hlt hg'.1.2.1).mono fun g hg' _ _ => ⟨hg'.1.1, ?_, hg'.1.2.2⟩
    rcases hat with e | e
    · rw [e]; exact hg'.1.2.1
    · have := hg'.2; omega
  refine ⟨ho, h.oo.keep fun g e => ?_, h.od.keep fun g e => ?_, ?_, ?_, h.n3, fun i u m hu hm => ?_, fun i u m hu hm => mono (h.ro i u m hu hm), fun i u m hu hm => (h.rd i u m hu hm).keep fun g e => ?_, fun i u g hu e => ?_, h.rs⟩
  · cases e; exact grown_keep hg lo.2 (Ne.symm h.n1)
  · cases e; exact grown_keep hg ld.2 (Ne.symm h.n2)
  · rcases hat with e | e
    · rw [e]; exact h.n1
    · omega
  · rcases hat with e | e
    · rw [e]; exact h.n2
    · omega
  · rcases snoc_get hu with hu | ⟨rfl, rfl⟩
    · exact mono (h.rt i u m hu hm)
    · rw [hl] at hm; cases hm; exact mono hr
  · have hf := h.rf i u g hu e
    exact grown_keep hg hf.2 hf.1.2.1
  · have hf := h.rf i u g hu e
    refine ⟨⟨hf.1.1, ?_, hf.1.2.2⟩, Nat.lt_of_lt_of_le hf.2 hg.size⟩
    rcases hat with e | e
    · rw [e]; exact hf.1.2.1
    · have := hf.2; omega
/-- one list more that hasn't the want -/
theorem On.growO (h : On W B x p kt ko kd gt go gd ct co cd ut uo ud) {go' co' : Nat} {a : Value} {l : List Int} (ho : OP W' B (.slice (some ⟨go', 0, none⟩) (uo.length + 1) co') (uo ++ [a])) (hg : W.grownBy W' (some go)) (hat : go' = go ∨ go' = W.heap.size)
    (hr : RI (Far B gt go gd) W a (PM.fw x l)) (hl : p[uo.length]? = some l) : On W' B x p kt (uo.length + 1) kd gt go' gd ct co' cd ut (uo ++ [a]) ud := by
  have lt := h.ot.lt gt rfl
  have ld := h.od.lt gd rfl
  have mono : ∀ {u : Value} {m : List Int}, RI (Far B gt go gd) W u m → RI (Far B gt go' gd) W' u m := fun {u m} hu => by
    refine ((hu.mono (D' := fun g => Far B gt go gd g ∧ g < W.heap.size) fun g hg hlt _ => ⟨hg, hlt⟩).keep hg.size fun g hg' hlt => grown_keep hg hlt hg'.1.2.2.1).mono fun g hg' _ _ => ⟨hg'.1.1, hg'.1.2.1, ?_, hg'.1.2.2.2⟩
    rcases hat with e | e
    · rw [e]; exact hg'.1.2.2.1
    · have := hg'.2; omega
  refine ⟨h.ot.keep fun g e => ?_, ho, h.od.keep fun g e => ?_, ?_, h.n2, ?_, fun i u m hu hm => mono (h.rt i u m hu hm), fun i u m hu hm => ?_, fun i u m hu hm => (h.rd i u m hu hm).keep fun g e => ?_, fun i u g hu e => ?_, h.rs⟩
  · cases e; exact grown_keep hg lt.2 h.n1
  · cases e; exact grown_keep hg ld.2 (Ne.symm h.n3)
  · rcases hat with e | e
    · rw [e]; exact h.n1
    · omega
  · rcases hat with e | e
    · rw [e]; exact h.n3
    · omega
  · rcases snoc_get hu with hu | ⟨rfl, rfl⟩
    · exact mono (h.ro i u m hu hm)
    · rw [hl] at hm; cases hm; exact mono hr
  · have hf := h.rf i u g hu e
    exact grown_keep hg hf.2 hf.1.2.2.1
  · have hf := h.rf i u g hu e
    refine ⟨⟨hf.1.1, hf.1.2.1, ?_, hf.1.2.2.2⟩, Nat.lt_of_lt_of_le hf.2 hg.size⟩
    rcases hat with e | e
    · rw [e]; exact hf.1.2.2.1
    · have := hf.2; omega
/-- one list more that hasn't the want, and is nobody's else -/
theorem On.growD (h : On W B x p kt ko kd gt go gd ct co cd ut uo ud) {gd' cd' M : Nat} {a : Value} {l : List Int} (ho : OP W' B (.slice (some ⟨gd', 0, none⟩) (ud.length + 1) cd') (ud ++ [a])) (hg : W.grownBy W' (some gd)) (hat : gd' = gd ∨ gd' = W.heap.size)
    (hr : OI W M a (PM.fw x l)) (hl : p[ud.length]? = some l) (hM : ∀ g, (g = gt ∨ g = go ∨ g = gd ∨ ∃ (i : Nat) (u : Value), ud[i]? = some u ∧ u.ownBlock = some g) → g < M) (hBM : B ≤ M) : On W' B x p kt ko (ud.length + 1) gt go gd' ct co cd' ut uo (ud ++ [a]) := by
  have lt := h.ot.lt gt rfl
  have lo := h.oo.lt go rfl
  have mono : ∀ {u : Value} {m : List Int}, RI (Far B gt go gd) W u m → RI (Far B gt go gd') W' u m := fun {u m} hu => by
    refine ((hu.mono (D' := fun g => Far B gt go gd g ∧ g < W.heap.size) fun g hg hlt _ => ⟨hg, hlt⟩).keep hg.size fun g hg' hlt => grown_keep hg hlt hg'.1.2.2.2).mono fun g hg' _ _ => ⟨hg'.1.1, hg'.1.2.1, hg'.1.2.2.1, ?_⟩
    rcases hat with e | e
    · rw [e]; exact hg'.1.2.2.2
    · have := hg'.2; omega
  have hal : ∀ g, a.ownBlock = some g → M ≤ g ∧ g < W.heap.size := hr.lt
  have hna : ∀ g, a.ownBlock = some g → g ≠ gt ∧ g ≠ go ∧ g ≠ gd := fun g e => by
    have h1 := (hal g e).1
    have h2 := hM gt (.inl rfl)
    have h3 := hM go (.inr (.inl rfl))
    have h4 := hM gd (.inr (.inr (.inl rfl)))
    omega
  refine ⟨h.ot.keep fun g e => ?_, h.oo.keep fun g e => ?_, ho, h.n1, ?_, ?_, fun i u m hu hm => mono (h.rt i u m hu hm), fun i u m hu hm => mono (h.ro i u m hu hm), fun i u m hu hm => ?_, fun i u g hu e => ?_, fun i j u u' g hij hu hu' e => ?_⟩
  · cases e; exact grown_keep hg lt.2 h.n2
  · cases e; exact grown_keep hg lo.2 h.n3
  · rcases hat with e | e
    · rw [e]; exact h.n2
    · omega
  · rcases hat with e | e
    · rw [e]; exact h.n3
    · omega
  · rcases snoc_get hu with hu | ⟨rfl, rfl⟩
    · exact (h.rd i u m hu hm).keep fun g e => by
        have hf := h.rf i u g hu e
        exact grown_keep hg hf.2 hf.1.2.2.2
    · rw [hl] at hm
      cases hm
      exact (hr.mono hBM).keep fun g e => grown_keep hg (hal g e).2 (hna g e).2.2
  · rcases snoc_get hu with hu | ⟨rfl, rfl⟩
    · have hf := h.rf i u g hu e
      refine ⟨⟨hf.1.1, hf.1.2.1, hf.1.2.2.1, ?_⟩, Nat.lt_of_lt_of_le hf.2 hg.size⟩
      rcases hat with e | e
      · rw [e]; exact hf.1.2.2.2
      · have := hf.2; omega
    · have h1 := hal g e
      have h2 := hna g e
      refine ⟨⟨by omega, h2.1, h2.2.1, ?_⟩, Nat.lt_of_lt_of_le h1.2 hg.size⟩
      rcases hat with e | e
      · rw [e]; exact h2.2.2
      · omega
  · rcases snoc_get hu with h5 | ⟨h5, h6⟩
    · rcases snoc_get hu' with h7 | ⟨h7, h8⟩
      · exact h.rs i j u u' g hij h5 h7 e
      · intro e'
        rw [h8] at e'
        have h1 := (hal g e').1
        have h2 := hM g (.inr (.inr (.inr ⟨i, u, h5, e⟩)))
        omega
    · rcases snoc_get hu' with h7 | ⟨h7, h8⟩
      · intro e'
        rw [h6] at e
        have h1 := (hal g e).1
        have h2 := hM g (.inr (.inr (.inr ⟨j, u', h7, e'⟩)))
        omega
      · exact absurd (h5.trans h7.symm) hij
end

end Go.Proofs.Ytkcppidmbojglaf
