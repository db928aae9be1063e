/-
  A range over a function that keeps memory of its own between the rounds, where the round's variables lie in memory (RgF's law, with what is assigned to them).
  No program is named here.
-/
import Derived.Test.YtkcppidmbojglafRgF
namespace Go.Proofs.Ytkcppidmbojglaf
open Go.RowKit

/-- what a loop keeps: all that lay there but P; nothing of it is the iterator's -/
def KB (Wz : World) (P F : Nat → Prop) (A : World) : Prop := Kp P Wz A ∧ ∀ k, k < Wz.heap.size → ¬ F k
theorem KB.stb {Wz : World} {P F F' : Nat → Prop} {A B : World} (h : KB Wz P F A) (hk : Kp F A B) (hF : ∀ k, F' k → F k ∨ (A.heap.size ≤ k ∧ k < B.heap.size)) : KB Wz P F' B :=
  ⟨h.1.trans hk (fun i hi hf => absurd hf (h.2 i hi)), fun k hk' hf => (hF k hf).elim (h.2 k hk') (fun e => by have := h.1.size; omega)⟩

theorem wpIn_rangeFunc_B {α : Type} {n : Nat} {P : Program} {g : Operand} {ps : Array Tmp} {assign body : Code} {Q : Exit → Act → World → Prop} {a : Act} {w : World}
    {gf : Nat} {lb : Array Value} (hg : a.eval g = .func (.func gf) #[] lb) (eg : ∀ args w, (callFunc gf args).run P w = .ok (.enter gf args) w)
    {Enc : α → (Nat → Prop) → World → Array Value → Prop} {F0 G : Nat → Prop} {S Sp : List α → Prop} {w0 : World} (hseq : SeqF P gf lb Enc F0 G S Sp w0) (hb0 : Below w0.heap.size w0 w)
    (hps : ∀ x F W args, Enc x F W args → args.size = ps.size) (hG : ∀ k, G k → k < w.heap.size) (hF0 : ∀ k, F0 k → k < w.heap.size)
    (I : List α → (Nat → Prop) → World → Prop) (Ix : Code → List α → (Nat → Prop) → World → Prop) (hI : Stb I) (hIx : ∀ c, Stb (Ix c)) (h0 : I [] F0 w) (B : α → Act → World → Prop)
    (hB : ∀ x a' W W', B x a' W → W.heap.size ≤ W'.heap.size → (∀ k, k < W.heap.size → (∃ o : Obj, W.heap[k]? = some o ∧ o.isCells = true) → W'.heap[k]? = W.heap[k]?) → B x a' W')
    (hassign : ∀ (l : Nat) (x : α) (F : Nat → Prop) (W : World) (args : Array Value) (K : Act → World → Prop), Enc x F W args → (∀ a' W', Below W.heap.size W W' → B x a' W' → K a' W') →
      assign.wpIn (Fence.wide.inRound l) n P (Exit.then K (fun _ _ _ => False)) { tmps := (ps.zip args).foldl (fun t (p, v) => t.setIfInBounds p v) a.tmps, defers := [] } W)
    (hbody : ∀ (l : Nat) (pre : List α) (x : α) (F : Nat → Prop) (W : World) (a' : Act), I pre F W → B x a' W → body.wpIn (Fence.wide.inRound l) n P (postF G I Ix (pre ++ [x]) F W) a' W)
    (hdone : ∀ (D : Nat) (xs : List α) (F : Nat → Prop) (W : World), w.heap.size ≤ D → F D → S xs → I xs F W → W.heap[D]? = some (.deferred (some [])) → Q .normal { a with defers := { target := .collected D, args := #[] } :: a.defers } W)
    (hstop : ∀ (D : Nat) (c : Code) (pre : List α) (F : Nat → Prop) (W : World), w.heap.size ≤ D → F D → Sp pre → Ix c pre F W → W.heap[D]? = some (.deferred (some [])) → c.wpIn Fence.wide n P Q { a with defers := { target := .collected D, args := #[] } :: a.defers } W) :
    (Code.rangeFunc g ps assign body).wpIn Fence.wide n P Q a w := by
  refine wpIn_rangeFunc ?_
  intro fn hfn
  rw [show Fence.wide.round = none from rfl]
  obtain ⟨rec, hrec⟩ : ∃ rec : LoopState → Option Code → Loop, rec = fun st pe => { state := st, pending := pe, fn, tmps := a.tmps, params := ps, assign, body, defers := w.heap.size } := ⟨_, rfl⟩
  obtain ⟨W1, hW1⟩ : ∃ W1, (w.alloc (.deferred (some []))).alloc (.loop (rec .ready none)) = W1 := ⟨_, rfl⟩
  generalize hD : w.heap.size = D at *
  have hL1 : W1.heap[D + 1]? = some (.loop (rec .ready none)) := by
    rw [← hW1, ← hD]; have := World.alloc_heap_new (w.alloc (.deferred (some []))) (.loop (rec .ready none)); rwa [World.size_alloc] at this
  have hK1 : W1.heap[D]? = some (.deferred (some [])) := by
    rw [← hW1, ← hD]; exact (Below.heap_alloc _ _ _ (by simp)).trans (World.alloc_heap_new w _)
  have hbel : Below w.heap.size w W1 := by rw [← hW1]; exact ((Below.refl _ w).alloc (Nat.le_refl _) _).alloc (by simp) _
  -- the two blocks of the loop are the iterator's, as the caller sees it
  obtain ⟨U, hU⟩ : ∃ U : (Nat → Prop) → Nat → Prop, U = fun F k => F k ∨ k = D ∨ k = D + 1 := ⟨_, rfl⟩
  have hUF : ∀ F k, F k → U F k := fun F k h => by rw [hU]; exact .inl h
  have hU1 : ∀ F, U F (D + 1) := fun F => by rw [hU]; exact .inr (.inr rfl)
  have hU0 : ∀ F, U F D := fun F => by rw [hU]; exact .inr (.inl rfl)
  refine ⟨D + 1, [{ target := .collected D, args := #[] }], W1, { target := .fn (.func gf) lb, args := #[.func (.yield (D + 1)) #[] #[]] }, W1, gf, #[.func (.yield (D + 1)) #[] #[]] ++ lb, W1, ?_, ?_, fun _ _ => trivial, ?_, fun h => (by cases h), ?_⟩
  · rw [← hW1, hrec, ← hD]; exact run_enterLoop_outer _ _ _ _ _
  · simp only [resolve, hg]
    simp [go_sem]
  · simp [invoke, go_sem, eg]
  have stab : ∀ {β : Type} (X : β → (Nat → Prop) → World → Prop) (o : β → Obj), Stb X → Stb (fun s F W => X s (U F) W ∧ W.heap[D + 1]? = some (o s) ∧ W.heap[D]? = some (.deferred (some [])) ∧ ¬ F (D + 1) ∧ ¬ F D) := by
    intro β X o hX s F F' A B h hk hF
    obtain ⟨h1, h2, h3, h4, h5⟩ := h
    have l2 := (Array.getElem?_eq_some_iff.1 h2).1
    have l3 := (Array.getElem?_eq_some_iff.1 h3).1
    refine ⟨hX s (U F) (U F') A B h1 (hk.mono fun i _ hi => hUF F i hi) (fun k hk' => ?_), (hk.block _ l2 h4).trans h2, (hk.block _ l3 h5).trans h3, fun h => ?_, fun h => ?_⟩
    · rw [hU] at hk' ⊢
      rcases hk' with e | e | e
      · rcases hF k e with e | e
        · exact .inl (.inl e)
        · exact .inr e
      · exact .inl (.inr (.inl e))
      · exact .inl (.inr (.inr e))
    · rcases hF _ h with e | e
      · exact h4 e
      · omega
    · rcases hF _ h with e | e
      · exact h5 e
      · omega
  refine (hseq (n - 1) (D + 1)
    (fun pre F W => I pre (U F) W ∧ W.heap[D + 1]? = some (.loop (rec .ready none)) ∧ W.heap[D]? = some (.deferred (some [])) ∧ ¬ F (D + 1) ∧ ¬ F D)
    (fun pre F W => ∃ c, Ix c pre (U F) W ∧ W.heap[D + 1]? = some (.loop (rec .done (some c))) ∧ W.heap[D]? = some (.deferred (some [])) ∧ ¬ F (D + 1) ∧ ¬ F D)
    W1 (hb0.trans (hbel.mono hb0.size)) (stab I (fun _ => .loop (rec .ready none)) hI) ?_ ?_ ?_).mono ?_
  · intro s F F' A B h hk hF
    obtain ⟨c, h⟩ := h
    exact ⟨c, stab (Ix c) (fun _ => .loop (rec .done (some c))) (hIx c) s F F' A B h hk hF⟩
  · -- a round
    rintro m pre x F W args ⟨hi, hl, hk, hf1, hf0⟩ henc
    have hlt : D + 1 < W.heap.size := (Array.getElem?_eq_some_iff.1 hl).1
    have hsz := hps x F W args henc
    have hy := run_yield (P := P) (args := args) hl (by rw [hrec]; exact hsz)
    rw [hrec] at hy
    refine YieldAt.deep (m := n) m ⟨fn, _, assign, body, hy, roundIn_of_wpIn hfn (hassign (D + 1) x F W args _ henc ?_)⟩
    clear hy
    intro a' Wa hba hBa
    have hza := hba.size
    have hla := (hba.block _ hlt).trans hl
    have hka := (hba.block _ (Array.getElem?_eq_some_iff.1 hk).1).trans hk
    have hlta : D + 1 < Wa.heap.size := (Array.getElem?_eq_some_iff.1 hla).1
    refine ⟨_, run_beginRound hla (by rw [hrec]), ?_⟩
    obtain ⟨W2, hW2⟩ : ∃ W2, Wa.putObj (D + 1) (.loop { rec .ready none with state := .busy }) = W2 := ⟨_, rfl⟩
    rw [hW2]
    have hz2 : W2.heap.size = Wa.heap.size := by rw [← hW2]; simp
    have ho2 : ∀ k, k ≠ D + 1 → W2.heap[k]? = Wa.heap[k]? := fun k hk => by rw [← hW2]; exact World.putObj_heap_other hk
    have hl2 : W2.heap[D + 1]? = some (.loop { rec .ready none with state := .busy }) := by rw [← hW2]; exact World.putObj_heap_same hlta
    have hia : I pre (U F) Wa := hI pre (U F) (U F) W Wa hi (Kp.ofBelow _ hba) (fun _ h => .inl h)
    have hi2 : I pre (U F) W2 := by rw [← hW2]; exact hI.put _ _ hia (hU1 F)
    have he2 : B x a' W2 := hB x a' Wa W2 hBa (by omega) (fun k _ h => ho2 k (fun e => by
        subst e
        obtain ⟨o, h1, h2⟩ := h
        rw [hla] at h1
        cases h1
        cases h2))
    refine wpIn_mono (hbody (D + 1) pre x (U F) W2 a' hi2 he2) ?_
    have fin : ∀ (jump : Option Code) (W3 : World), Kept (U F) W2 W3 →
        (Instr.endRound (D + 1) jump).run P W3 = .ok (.bool jump.isNone) (W3.putObj (D + 1) (.loop (rec (if jump.isNone then .ready else .done) jump))) ∧
        (W3.putObj (D + 1) (.loop (rec (if jump.isNone then .ready else .done) jump))).heap[D + 1]? = some (.loop (rec (if jump.isNone then .ready else .done) jump)) ∧
        (W3.putObj (D + 1) (.loop (rec (if jump.isNone then .ready else .done) jump))).heap[D]? = some (.deferred (some [])) := fun jump W3 h3 => by
      have hl3 : W3.heap[D + 1]? = some (.loop { rec .ready none with state := .busy }) := (h3.same _ (by omega) (hU1 F)).trans hl2
      have hk3 : W3.heap[D]? = some (.deferred (some [])) := (h3.same _ (by omega) (hU0 F)).trans ((ho2 D (by omega)).trans hka)
      have := run_endRound (P := P) jump hl3
      rw [hrec] at this ⊢
      exact ⟨this, World.putObj_heap_same (Array.getElem?_eq_some_iff.1 hl3).1, (World.putObj_heap_other (by omega)).trans hk3⟩
    have keptF : ∀ (W3 : World) (o : Obj), Kept (U F) W2 W3 → Kept F W (W3.putObj (D + 1) o) := fun W3 o h3 => by
      have hz := h3.size
      refine ⟨by simp; omega, fun k hk' hfk => ?_⟩
      have hne : k ≠ D + 1 := fun e => by subst e; exact hf1 hfk
      rw [World.putObj_heap_other hne, h3.same k (by omega) (hUF F k hfk), ho2 k hne, hba.block k hk']
    rintro e a3 W3 hp
    cases e with
    | normal =>
      obtain ⟨h3, hi3⟩ := hp
      obtain ⟨hr, hl4, hk4⟩ := fin none W3 (h3.mono fun _ _ h => .inl h)
      refine ⟨_, _, hr, .inl ⟨rfl, ⟨hI.put _ _ hi3 (hU1 F), hl4, hk4, hf1, hf0⟩, ?_⟩⟩
      have hz := h3.size
      refine ⟨by simp; omega, fun k hk' hfk => ?_⟩
      have hne : k ≠ D + 1 := fun e => by
        subst e
        rcases hfk with h | h
        · exact hf1 h
        · have := hG _ h; omega
      rw [World.putObj_heap_other hne, h3.same k (by omega) (hfk.elim (fun h => .inl (hUF F k h)) .inr), ho2 k hne, hba.block k hk']
    | ret =>
      obtain ⟨h3, hi3⟩ := hp
      obtain ⟨hr, hl4, hk4⟩ := fin (some .ret) W3 h3
      exact ⟨_, _, hr, .inr ⟨rfl, ⟨.ret, (hIx _).put _ _ hi3 (hU1 F), hl4, hk4, hf1, hf0⟩, keptF W3 _ h3⟩⟩
    | exit id =>
      obtain ⟨h3, hi3⟩ := hp
      obtain ⟨hr, hl4, hk4⟩ := fin (some (.exit id)) W3 h3
      exact ⟨_, _, hr, .inr ⟨rfl, ⟨.exit id, (hIx _).put _ _ hi3 (hU1 F), hl4, hk4, hf1, hf0⟩, keptF W3 _ h3⟩⟩
    | goto t =>
      obtain ⟨h3, hi3⟩ := hp
      obtain ⟨hr, hl4, hk4⟩ := fin (some (.goto t)) W3 h3
      exact ⟨_, _, hr, .inr ⟨rfl, ⟨.goto t, (hIx _).put _ _ hi3 (hU1 F), hl4, hk4, hf1, hf0⟩, keptF W3 _ h3⟩⟩
    | panic ch => exact hp.elim
    | outgrown => exact hp.elim
  · have z1 := (Array.getElem?_eq_some_iff.1 hL1).1
    refine ⟨hI [] F0 _ w W1 h0 (Kp.ofBelow _ hbel) (fun k h => ?_), hL1, hK1, fun h => by have := hF0 _ h; omega, fun h => by have := hF0 _ h; omega⟩
    rw [hU] at h
    rcases h with h | h | h
    · exact .inl h
    · right; omega
    · right; omega
  · -- behind the iterator
    rintro e W2 ⟨⟨v, rfl⟩, (⟨xs, F, hS, hi, hl, hk, _, _⟩ | ⟨pre, F, hSp, c, hi, hl, hk, _, _⟩)⟩
    · exact ⟨none, _, by have := run_endLoop (P := P) hl (by rw [hrec]; simp); rw [hrec] at this; exact this, hdone D xs (U F) _ (Nat.le_refl _) (hU0 F) hS (hI.put _ _ hi (hU1 F)) ((World.putObj_heap_other (by omega)).trans hk)⟩
    · exact ⟨some c, _, by have := run_endLoop (P := P) hl (by rw [hrec]; simp); rw [hrec] at this; exact this, hstop D c pre (U F) _ (Nat.le_refl _) (hU0 F) hSp ((hIx c).put _ _ hi (hU1 F)) ((World.putObj_heap_other (by omega)).trans hk)⟩

end Go.Proofs.Ytkcppidmbojglaf
