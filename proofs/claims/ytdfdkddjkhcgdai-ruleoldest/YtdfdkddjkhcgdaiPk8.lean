/- Several texts in one, each with its own head. -/
import Derived.Test.YtdfdkddjkhcgdaiPk2
import Derived.RangeFuncNested
import Derived.RangeFuncCalls
import Derived.RangeFuncLeaves
import Derived.Deep.Quiet
import Derived.OrdersIn
/-
  A RANGE OVER A FUNCTION THAT KEEPS MEMORY OF ITS OWN BETWEEN THE ROUNDS, and writes it: which blocks these are grows as it goes on (F).
  The caller's invariant speaks of none of them (Stb); a round leaves them as they are (Kept). No program is named here.
-/
namespace Go.Proofs.Ytdfdkddjkhcgdai
open Go.RowKit

/-- what is written in F, and what is new, isn't minded -/
def Stb {β : Type} (J : β → (Nat → Prop) → World → Prop) : Prop := ∀ s F F' W W', J s F W → Kp F W W' → (∀ k, F' k → F k ∨ (W.heap.size ≤ k ∧ k < W'.heap.size)) → J s F' W'
/-- these blocks are kept -/
structure Kept (F : Nat → Prop) (W W' : World) : Prop where
  size : W.heap.size ≤ W'.heap.size
  same : ∀ k, k < W.heap.size → F k → W'.heap[k]? = W.heap[k]?
theorem Kept.refl (F : Nat → Prop) (W : World) : Kept F W W := ⟨Nat.le_refl _, fun _ _ _ => rfl⟩
theorem Kept.trans {F : Nat → Prop} {A B C : World} (h : Kept F A B) (k : Kept F B C) : Kept F A C := ⟨Nat.le_trans h.size k.size, fun i hi hf => (k.same i (Nat.lt_of_lt_of_le hi h.size) hf).trans (h.same i hi hf)⟩
theorem Kept.mono {F G : Nat → Prop} {A B : World} (h : Kept F A B) (hg : ∀ k, k < A.heap.size → G k → F k) : Kept G A B := ⟨h.size, fun i hi hf => h.same i hi (hg i hi hf)⟩
theorem Kept.ofKp {F G : Nat → Prop} {A B : World} (h : Kp G A B) (hf : ∀ k, k < A.heap.size → F k → ¬ G k) : Kept F A B := ⟨h.size, fun i hi hF => h.block i hi (hf i hi hF)⟩
theorem Kept.ofBelow {F : Nat → Prop} {A B : World} (h : Below A.heap.size A B) : Kept F A B := ⟨h.size, fun i hi _ => h.block i hi⟩

theorem room_wide' (k : Nat) : Fence.wide.room k := room_wide k
/-- how deep doesn't matter -/
theorem YieldAt.deep {m : Nat} (m' : Nat) {P : Program} {l : Nat} {args : Array Value} {W : World} {R : Ending → World → Prop} (h : YieldAt Fence.wide m P l args W R) : YieldAt Fence.wide m' P l args W R := by
  obtain ⟨fn, tmps, assign, body, hy, hR⟩ := h
  exact ⟨fn, tmps, assign, body, hy, hR.1, fun c cs _ => hR.2 c cs (room_wide _)⟩

/-- what such a function does; Enc: what it hands out; G: what it reads besides -/
def SeqF {α : Type} (P : Program) (g : Nat) (lb : Array Value) (Enc : α → (Nat → Prop) → World → Array Value → Prop) (F0 G : Nat → Prop) (S Sp : List α → Prop) (w : World) : Prop :=
  ∀ (n l : Nat) (J Jx : List α → (Nat → Prop) → World → Prop) (W : World), Below w.heap.size w W → Stb J → Stb Jx →
    (∀ m pre x F W1 args, J pre F W1 → Enc x F W1 args → YieldAt Fence.wide m P l args W1 fun e W' =>
      (e = .returned (.bool true) ∧ J (pre ++ [x]) F W' ∧ Kept (fun k => F k ∨ G k) W1 W') ∨ (e = .returned (.bool false) ∧ Jx (pre ++ [x]) F W' ∧ Kept F W1 W')) →
    J [] F0 W →
    CallsIn Fence.wide n P g (#[.func (.yield l) #[] #[]] ++ lb) W fun e W' => (∃ v, e = .returned v) ∧ ((∃ xs F, S xs ∧ J xs F W') ∨ (∃ pre F, Sp pre ∧ Jx pre F W'))

/-- how a round's body may be left -/
def postF {α : Type} (G : Nat → Prop) (I : List α → (Nat → Prop) → World → Prop) (Ix : Code → List α → (Nat → Prop) → World → Prop) (xs : List α) (F : Nat → Prop) (W : World) : Exit → Act → World → Prop
  | .normal, _, W' => Kept (fun k => F k ∨ G k) W W' ∧ I xs F W'
  | .ret, _, W' => Kept F W W' ∧ Ix .ret xs F W'
  | .exit id, _, W' => Kept F W W' ∧ Ix (.exit id) xs F W'
  | .goto t, _, W' => Kept F W W' ∧ Ix (.goto t) xs F W'
  | .panic _, _, _ => False
  | .outgrown, _, _ => False

/-- a block that holds no cells is turned -/
theorem Stb.put {β : Type} {J : β → (Nat → Prop) → World → Prop} (h : Stb J) {s : β} {F : Nat → Prop} {W : World} (l : Nat) (o : Obj) (hj : J s F W) (hl : F l) : J s F (W.putObj l o) :=
  h s F F W _ hj ((Kp.refl F W).put l o (fun _ => hl)) (fun _ h => .inl h)

theorem wpIn_rangeFunc_F {α : Type} {n : Nat} {P : Program} {g : Operand} {ps : Array Tmp} {assign body : Code} {Q : Exit → Act → World → Prop} {a : Act} {w : World}
    {gf : Nat} {lb : Array Value} (hg : a.eval g = .func (.func gf) #[] lb) (eg : ∀ args w, (callFunc gf args).run P w = .ok (.enter gf args) w)
    {Enc : α → (Nat → Prop) → World → Array Value → Prop} {F0 G : Nat → Prop} {S Sp : List α → Prop} {w0 : World} (hseq : SeqF P gf lb Enc F0 G S Sp w0) (hb0 : Below w0.heap.size w0 w)
    (hps : ∀ x F W args, Enc x F W args → args.size = ps.size) (hG : ∀ k, G k → k < w.heap.size) (hF0 : ∀ k, F0 k → k < w.heap.size)
    (hE : ∀ x F F' W W' args, Enc x F W args → W.heap.size ≤ W'.heap.size → (∀ k, F k → F' k) → (∀ k, F' k → F k ∨ ∃ o : Obj, W.heap[k]? = some o ∧ o.isCells = false) → (∀ k, k < W.heap.size → (∃ o : Obj, W.heap[k]? = some o ∧ o.isCells = true) → W'.heap[k]? = W.heap[k]?) → Enc x F' W' args)
    (I : List α → (Nat → Prop) → World → Prop) (Ix : Code → List α → (Nat → Prop) → World → Prop) (hI : Stb I) (hIx : ∀ c, Stb (Ix c)) (h0 : I [] F0 w) (a₁ : Array Value → Act)
    (hassign : ∀ (l : Nat) (args : Array Value) (W : World) (K : Act → World → Prop), args.size = ps.size → K (a₁ args) W →
      assign.wpIn (Fence.wide.inRound l) n P (Exit.then K (fun _ _ _ => False)) { tmps := (ps.zip args).foldl (fun t (p, v) => t.setIfInBounds p v) a.tmps, defers := [] } W)
    (hbody : ∀ (l : Nat) (pre : List α) (x : α) (F : Nat → Prop) (W : World) (args : Array Value), I pre F W → Enc x F W args → body.wpIn (Fence.wide.inRound l) n P (postF G I Ix (pre ++ [x]) F W) (a₁ args) W)
    (hdone : ∀ (D : Nat) (xs : List α) (F : Nat → Prop) (W : World), w.heap.size ≤ D → F D → S xs → I xs F W → W.heap[D]? = some (.deferred (some [])) → Q .normal { a with defers := { target := .collected D, args := #[] } :: a.defers } W)
    (hstop : ∀ (D : Nat) (c : Code) (pre : List α) (F : Nat → Prop) (W : World), w.heap.size ≤ D → F D → Sp pre → Ix c pre F W → W.heap[D]? = some (.deferred (some [])) → c.wpIn Fence.wide n P Q { a with defers := { target := .collected D, args := #[] } :: a.defers } W) :
    (Code.rangeFunc g ps assign body).wpIn Fence.wide n P Q a w := by
  refine wpIn_rangeFunc ?_
  intro fn hfn
  rw [show Fence.wide.round = none from rfl]
  obtain ⟨rec, hrec⟩ : ∃ rec : LoopState → Option Code → Loop, rec = fun st pe => { state := st, pending := pe, fn, tmps := a.tmps, params := ps, assign, body, defers := w.heap.size } := ⟨_, rfl⟩
  obtain ⟨W1, hW1⟩ : ∃ W1, (w.alloc (.deferred (some []))).alloc (.loop (rec .ready none)) = W1 := ⟨_, rfl⟩
  generalize hD : w.heap.size = D at *
  have hL1 : W1.heap[D + 1]? = some (.loop (rec .ready none)) := by
    rw [← hW1, ← hD]; have := World.alloc_heap_new (w.alloc (.deferred (some []))) (.loop (rec .ready none)); rwa [World.size_alloc] at this
  have hK1 : W1.heap[D]? = some (.deferred (some [])) := by
    rw [← hW1, ← hD]; exact (Below.heap_alloc _ _ _ (by simp)).trans (World.alloc_heap_new w _)
  have hbel : Below w.heap.size w W1 := by rw [← hW1]; exact ((Below.refl _ w).alloc (Nat.le_refl _) _).alloc (by simp) _
  -- the two blocks of the loop are the iterator's, as the caller sees it
  obtain ⟨U, hU⟩ : ∃ U : (Nat → Prop) → Nat → Prop, U = fun F k => F k ∨ k = D ∨ k = D + 1 := ⟨_, rfl⟩
  have hUF : ∀ F k, F k → U F k := fun F k h => by rw [hU]; exact .inl h
  have hU1 : ∀ F, U F (D + 1) := fun F => by rw [hU]; exact .inr (.inr rfl)
  have hU0 : ∀ F, U F D := fun F => by rw [hU]; exact .inr (.inl rfl)
  refine ⟨D + 1, [{ target := .collected D, args := #[] }], W1, { target := .fn (.func gf) lb, args := #[.func (.yield (D + 1)) #[] #[]] }, W1, gf, #[.func (.yield (D + 1)) #[] #[]] ++ lb, W1, ?_, ?_, fun _ _ => trivial, ?_, fun h => (by cases h), ?_⟩
  · rw [← hW1, hrec, ← hD]; exact run_enterLoop_outer _ _ _ _ _
  · simp only [resolve, hg]
    simp [go_sem]
  · simp [invoke, go_sem, eg]
  have stab : ∀ {β : Type} (X : β → (Nat → Prop) → World → Prop) (o : β → Obj), Stb X → Stb (fun s F W => X s (U F) W ∧ W.heap[D + 1]? = some (o s) ∧ W.heap[D]? = some (.deferred (some [])) ∧ ¬ F (D + 1) ∧ ¬ F D) := by
    intro β X o hX s F F' A B h hk hF
    obtain ⟨h1, h2, h3, h4, h5⟩ := h
    have l2 := (Array.getElem?_eq_some_iff.1 h2).1
    have l3 := (Array.getElem?_eq_some_iff.1 h3).1
    refine ⟨hX s (U F) (U F') A B h1 (hk.mono fun i _ hi => hUF F i hi) (fun k hk' => ?_), (hk.block _ l2 h4).trans h2, (hk.block _ l3 h5).trans h3, fun h => ?_, fun h => ?_⟩
    · rw [hU] at hk' ⊢
      rcases hk' with e | e | e
      · rcases hF k e with e | e
        · exact .inl (.inl e)
        · exact .inr e
      · exact .inl (.inr (.inl e))
      · exact .inl (.inr (.inr e))
    · rcases hF _ h with e | e
      · exact h4 e
      · omega
    · rcases hF _ h with e | e
      · exact h5 e
      · omega
  refine (hseq (n - 1) (D + 1)
    (fun pre F W => I pre (U F) W ∧ W.heap[D + 1]? = some (.loop (rec .ready none)) ∧ W.heap[D]? = some (.deferred (some [])) ∧ ¬ F (D + 1) ∧ ¬ F D)
    (fun pre F W => ∃ c, Ix c pre (U F) W ∧ W.heap[D + 1]? = some (.loop (rec .done (some c))) ∧ W.heap[D]? = some (.deferred (some [])) ∧ ¬ F (D + 1) ∧ ¬ F D)
    W1 (hb0.trans (hbel.mono hb0.size)) (stab I (fun _ => .loop (rec .ready none)) hI) ?_ ?_ ?_).mono ?_
  · intro s F F' A B h hk hF
    obtain ⟨c, h⟩ := h
    exact ⟨c, stab (Ix c) (fun _ => .loop (rec .done (some c))) (hIx c) s F F' A B h hk hF⟩
  · -- a round
    rintro m pre x F W args ⟨hi, hl, hk, hf1, hf0⟩ henc
    have hlt : D + 1 < W.heap.size := (Array.getElem?_eq_some_iff.1 hl).1
    have hsz := hps x F W args henc
    have hy := run_yield (P := P) (args := args) hl (by rw [hrec]; exact hsz)
    rw [hrec] at hy
    refine YieldAt.deep (m := n) m ⟨fn, _, assign, body, hy, roundIn_of_wpIn hfn (hassign (D + 1) args W _ hsz ?_)⟩
    clear hy
    refine ⟨_, run_beginRound hl (by rw [hrec]), ?_⟩
    obtain ⟨W2, hW2⟩ : ∃ W2, W.putObj (D + 1) (.loop { rec .ready none with state := .busy }) = W2 := ⟨_, rfl⟩
    rw [hW2]
    have hz2 : W2.heap.size = W.heap.size := by rw [← hW2]; simp
    have ho2 : ∀ k, k ≠ D + 1 → W2.heap[k]? = W.heap[k]? := fun k hk => by rw [← hW2]; exact World.putObj_heap_other hk
    have hl2 : W2.heap[D + 1]? = some (.loop { rec .ready none with state := .busy }) := by rw [← hW2]; exact World.putObj_heap_same hlt
    have hi2 : I pre (U F) W2 := by rw [← hW2]; exact hI.put _ _ hi (hU1 F)
    have he2 : Enc x (U F) W2 args := hE x F (U F) W W2 args henc (by omega) (hUF F) (fun k h => by
        rw [hU] at h
        rcases h with h | h | h
        · exact .inl h
        · subst h; exact .inr ⟨_, hk, rfl⟩
        · subst h; exact .inr ⟨_, hl, rfl⟩) (fun k _ h => ho2 k (fun e => by
        subst e
        obtain ⟨o, h1, h2⟩ := h
        rw [hl] at h1
        cases h1
        cases h2))
    refine wpIn_mono (hbody (D + 1) pre x (U F) W2 args hi2 he2) ?_
    have fin : ∀ (jump : Option Code) (W3 : World), Kept (U F) W2 W3 →
        (Instr.endRound (D + 1) jump).run P W3 = .ok (.bool jump.isNone) (W3.putObj (D + 1) (.loop (rec (if jump.isNone then .ready else .done) jump))) ∧
        (W3.putObj (D + 1) (.loop (rec (if jump.isNone then .ready else .done) jump))).heap[D + 1]? = some (.loop (rec (if jump.isNone then .ready else .done) jump)) ∧
        (W3.putObj (D + 1) (.loop (rec (if jump.isNone then .ready else .done) jump))).heap[D]? = some (.deferred (some [])) := fun jump W3 h3 => by
      have hl3 : W3.heap[D + 1]? = some (.loop { rec .ready none with state := .busy }) := (h3.same _ (by omega) (hU1 F)).trans hl2
      have hk3 : W3.heap[D]? = some (.deferred (some [])) := (h3.same _ (by omega) (hU0 F)).trans ((ho2 D (by omega)).trans hk)
      have := run_endRound (P := P) jump hl3
      rw [hrec] at this ⊢
      exact ⟨this, World.putObj_heap_same (Array.getElem?_eq_some_iff.1 hl3).1, (World.putObj_heap_other (by omega)).trans hk3⟩
    have keptF : ∀ (W3 : World) (o : Obj), Kept (U F) W2 W3 → Kept F W (W3.putObj (D + 1) o) := fun W3 o h3 => by
      have hz := h3.size
      refine ⟨by simp; omega, fun k hk' hfk => ?_⟩
      have hne : k ≠ D + 1 := fun e => by subst e; exact hf1 hfk
      rw [World.putObj_heap_other hne, h3.same k (by omega) (hUF F k hfk), ho2 k hne]
    rintro e a3 W3 hp
    cases e with
    | normal =>
      obtain ⟨h3, hi3⟩ := hp
      obtain ⟨hr, hl4, hk4⟩ := fin none W3 (h3.mono fun _ _ h => .inl h)
      refine ⟨_, _, hr, .inl ⟨rfl, ⟨hI.put _ _ hi3 (hU1 F), hl4, hk4, hf1, hf0⟩, ?_⟩⟩
      have hz := h3.size
      refine ⟨by simp; omega, fun k hk' hfk => ?_⟩
      have hne : k ≠ D + 1 := fun e => by
        subst e
        rcases hfk with h | h
        · exact hf1 h
        · have := hG _ h; omega
      rw [World.putObj_heap_other hne, h3.same k (by omega) (hfk.elim (fun h => .inl (hUF F k h)) .inr), ho2 k hne]
    | ret =>
      obtain ⟨h3, hi3⟩ := hp
      obtain ⟨hr, hl4, hk4⟩ := fin (some .ret) W3 h3
      exact ⟨_, _, hr, .inr ⟨rfl, ⟨.ret, (hIx _).put _ _ hi3 (hU1 F), hl4, hk4, hf1, hf0⟩, keptF W3 _ h3⟩⟩
    | exit id =>
      obtain ⟨h3, hi3⟩ := hp
      obtain ⟨hr, hl4, hk4⟩ := fin (some (.exit id)) W3 h3
      exact ⟨_, _, hr, .inr ⟨rfl, ⟨.exit id, (hIx _).put _ _ hi3 (hU1 F), hl4, hk4, hf1, hf0⟩, keptF W3 _ h3⟩⟩
    | goto t =>
      obtain ⟨h3, hi3⟩ := hp
      obtain ⟨hr, hl4, hk4⟩ := fin (some (.goto t)) W3 h3
      exact ⟨_, _, hr, .inr ⟨rfl, ⟨.goto t, (hIx _).put _ _ hi3 (hU1 F), hl4, hk4, hf1, hf0⟩, keptF W3 _ h3⟩⟩
    | panic ch => exact hp.elim
    | outgrown => exact hp.elim
  · have z1 := (Array.getElem?_eq_some_iff.1 hL1).1
    refine ⟨hI [] F0 _ w W1 h0 (Kp.ofBelow _ hbel) (fun k h => ?_), hL1, hK1, fun h => by have := hF0 _ h; omega, fun h => by have := hF0 _ h; omega⟩
    rw [hU] at h
    rcases h with h | h | h
    · exact .inl h
    · right; omega
    · right; omega
  · -- behind the iterator
    rintro e W2 ⟨⟨v, rfl⟩, (⟨xs, F, hS, hi, hl, hk, _, _⟩ | ⟨pre, F, hSp, c, hi, hl, hk, _, _⟩)⟩
    · exact ⟨none, _, by have := run_endLoop (P := P) hl (by rw [hrec]; simp); rw [hrec] at this; exact this, hdone D xs (U F) _ (Nat.le_refl _) (hU0 F) hS (hI.put _ _ hi (hU1 F)) ((World.putObj_heap_other (by omega)).trans hk)⟩
    · exact ⟨some c, _, by have := run_endLoop (P := P) hl (by rw [hrec]; simp); rw [hrec] at this; exact this, hstop D c pre (U F) _ (Nat.le_refl _) (hU0 F) hSp ((hIx c).put _ _ hi (hU1 F)) ((World.putObj_heap_other (by omega)).trans hk)⟩

end Go.Proofs.Ytdfdkddjkhcgdai

/-
  A range over a function that keeps memory of its own between the rounds, where the round's variables lie in memory (RgF's law, with what is assigned to them).
  No program is named here.
-/
namespace Go.Proofs.Ytdfdkddjkhcgdai
open Go.RowKit

/-- what a loop keeps: all that lay there but P; nothing of it is the iterator's -/
def KB (Wz : World) (P F : Nat → Prop) (A : World) : Prop := Kp P Wz A ∧ ∀ k, k < Wz.heap.size → ¬ F k
theorem KB.stb {Wz : World} {P F F' : Nat → Prop} {A B : World} (h : KB Wz P F A) (hk : Kp F A B) (hF : ∀ k, F' k → F k ∨ (A.heap.size ≤ k ∧ k < B.heap.size)) : KB Wz P F' B :=
  ⟨h.1.trans hk (fun i hi hf => absurd hf (h.2 i hi)), fun k hk' hf => (hF k hf).elim (h.2 k hk') (fun e => by have := h.1.size; omega)⟩

theorem wpIn_rangeFunc_B {α : Type} {n : Nat} {P : Program} {g : Operand} {ps : Array Tmp} {assign body : Code} {Q : Exit → Act → World → Prop} {a : Act} {w : World}
    {gf : Nat} {lb : Array Value} (hg : a.eval g = .func (.func gf) #[] lb) (eg : ∀ args w, (callFunc gf args).run P w = .ok (.enter gf args) w)
    {Enc : α → (Nat → Prop) → World → Array Value → Prop} {F0 G : Nat → Prop} {S Sp : List α → Prop} {w0 : World} (hseq : SeqF P gf lb Enc F0 G S Sp w0) (hb0 : Below w0.heap.size w0 w)
    (hps : ∀ x F W args, Enc x F W args → args.size = ps.size) (hG : ∀ k, G k → k < w.heap.size) (hF0 : ∀ k, F0 k → k < w.heap.size)
    (I : List α → (Nat → Prop) → World → Prop) (Ix : Code → List α → (Nat → Prop) → World → Prop) (hI : Stb I) (hIx : ∀ c, Stb (Ix c)) (h0 : I [] F0 w) (B : α → Act → World → Prop)
    (hB : ∀ x a' W W', B x a' W → W.heap.size ≤ W'.heap.size → (∀ k, k < W.heap.size → (∃ o : Obj, W.heap[k]? = some o ∧ o.isCells = true) → W'.heap[k]? = W.heap[k]?) → B x a' W')
    (hassign : ∀ (l : Nat) (x : α) (F : Nat → Prop) (W : World) (args : Array Value) (K : Act → World → Prop), Enc x F W args → (∀ a' W', Below W.heap.size W W' → B x a' W' → K a' W') →
      assign.wpIn (Fence.wide.inRound l) n P (Exit.then K (fun _ _ _ => False)) { tmps := (ps.zip args).foldl (fun t (p, v) => t.setIfInBounds p v) a.tmps, defers := [] } W)
    (hbody : ∀ (l : Nat) (pre : List α) (x : α) (F : Nat → Prop) (W : World) (a' : Act), I pre F W → B x a' W → body.wpIn (Fence.wide.inRound l) n P (postF G I Ix (pre ++ [x]) F W) a' W)
    (hdone : ∀ (D : Nat) (xs : List α) (F : Nat → Prop) (W : World), w.heap.size ≤ D → F D → S xs → I xs F W → W.heap[D]? = some (.deferred (some [])) → Q .normal { a with defers := { target := .collected D, args := #[] } :: a.defers } W)
    (hstop : ∀ (D : Nat) (c : Code) (pre : List α) (F : Nat → Prop) (W : World), w.heap.size ≤ D → F D → Sp pre → Ix c pre F W → W.heap[D]? = some (.deferred (some [])) → c.wpIn Fence.wide n P Q { a with defers := { target := .collected D, args := #[] } :: a.defers } W) :
    (Code.rangeFunc g ps assign body).wpIn Fence.wide n P Q a w := by
  refine wpIn_rangeFunc ?_
  intro fn hfn
  rw [show Fence.wide.round = none from rfl]
  obtain ⟨rec, hrec⟩ : ∃ rec : LoopState → Option Code → Loop, rec = fun st pe => { state := st, pending := pe, fn, tmps := a.tmps, params := ps, assign, body, defers := w.heap.size } := ⟨_, rfl⟩
  obtain ⟨W1, hW1⟩ : ∃ W1, (w.alloc (.deferred (some []))).alloc (.loop (rec .ready none)) = W1 := ⟨_, rfl⟩
  generalize hD : w.heap.size = D at *
  have hL1 : W1.heap[D + 1]? = some (.loop (rec .ready none)) := by
    rw [← hW1, ← hD]; have := World.alloc_heap_new (w.alloc (.deferred (some []))) (.loop (rec .ready none)); rwa [World.size_alloc] at this
  have hK1 : W1.heap[D]? = some (.deferred (some [])) := by
    rw [← hW1, ← hD]; exact (Below.heap_alloc _ _ _ (by simp)).trans (World.alloc_heap_new w _)
  have hbel : Below w.heap.size w W1 := by rw [← hW1]; exact ((Below.refl _ w).alloc (Nat.le_refl _) _).alloc (by simp) _
  -- the two blocks of the loop are the iterator's, as the caller sees it
  obtain ⟨U, hU⟩ : ∃ U : (Nat → Prop) → Nat → Prop, U = fun F k => F k ∨ k = D ∨ k = D + 1 := ⟨_, rfl⟩
  have hUF : ∀ F k, F k → U F k := fun F k h => by rw [hU]; exact .inl h
  have hU1 : ∀ F, U F (D + 1) := fun F => by rw [hU]; exact .inr (.inr rfl)
  have hU0 : ∀ F, U F D := fun F => by rw [hU]; exact .inr (.inl rfl)
  refine ⟨D + 1, [{ target := .collected D, args := #[] }], W1, { target := .fn (.func gf) lb, args := #[.func (.yield (D + 1)) #[] #[]] }, W1, gf, #[.func (.yield (D + 1)) #[] #[]] ++ lb, W1, ?_, ?_, fun _ _ => trivial, ?_, fun h => (by cases h), ?_⟩
  · rw [← hW1, hrec, ← hD]; exact run_enterLoop_outer _ _ _ _ _
  · simp only [resolve, hg]
    simp [go_sem]
  · simp [invoke, go_sem, eg]
  have stab : ∀ {β : Type} (X : β → (Nat → Prop) → World → Prop) (o : β → Obj), Stb X → Stb (fun s F W => X s (U F) W ∧ W.heap[D + 1]? = some (o s) ∧ W.heap[D]? = some (.deferred (some [])) ∧ ¬ F (D + 1) ∧ ¬ F D) := by
    intro β X o hX s F F' A B h hk hF
    obtain ⟨h1, h2, h3, h4, h5⟩ := h
    have l2 := (Array.getElem?_eq_some_iff.1 h2).1
    have l3 := (Array.getElem?_eq_some_iff.1 h3).1
    refine ⟨hX s (U F) (U F') A B h1 (hk.mono fun i _ hi => hUF F i hi) (fun k hk' => ?_), (hk.block _ l2 h4).trans h2, (hk.block _ l3 h5).trans h3, fun h => ?_, fun h => ?_⟩
    · rw [hU] at hk' ⊢
      rcases hk' with e | e | e
      · rcases hF k e with e | e
        · exact .inl (.inl e)
        · exact .inr e
      · exact .inl (.inr (.inl e))
      · exact .inl (.inr (.inr e))
    · rcases hF _ h with e | e
      · exact h4 e
      · omega
    · rcases hF _ h with e | e
      · exact h5 e
      · omega
  refine (hseq (n - 1) (D + 1)
    (fun pre F W => I pre (U F) W ∧ W.heap[D + 1]? = some (.loop (rec .ready none)) ∧ W.heap[D]? = some (.deferred (some [])) ∧ ¬ F (D + 1) ∧ ¬ F D)
    (fun pre F W => ∃ c, Ix c pre (U F) W ∧ W.heap[D + 1]? = some (.loop (rec .done (some c))) ∧ W.heap[D]? = some (.deferred (some [])) ∧ ¬ F (D + 1) ∧ ¬ F D)
    W1 (hb0.trans (hbel.mono hb0.size)) (stab I (fun _ => .loop (rec .ready none)) hI) ?_ ?_ ?_).mono ?_
  · intro s F F' A B h hk hF
    obtain ⟨c, h⟩ := h
    exact ⟨c, stab (Ix c) (fun _ => .loop (rec .done (some c))) (hIx c) s F F' A B h hk hF⟩
  · -- a round
    rintro m pre x F W args ⟨hi, hl, hk, hf1, hf0⟩ henc
    have hlt : D + 1 < W.heap.size := (Array.getElem?_eq_some_iff.1 hl).1
    have hsz := hps x F W args henc
    have hy := run_yield (P := P) (args := args) hl (by rw [hrec]; exact hsz)
    rw [hrec] at hy
    refine YieldAt.deep (m := n) m ⟨fn, _, assign, body, hy, roundIn_of_wpIn hfn (hassign (D + 1) x F W args _ henc ?_)⟩
    clear hy
    intro a' Wa hba hBa
    have hza := hba.size
    have hla := (hba.block _ hlt).trans hl
    have hka := (hba.block _ (Array.getElem?_eq_some_iff.1 hk).1).trans hk
    have hlta : D + 1 < Wa.heap.size := (Array.getElem?_eq_some_iff.1 hla).1
    refine ⟨_, run_beginRound hla (by rw [hrec]), ?_⟩
    obtain ⟨W2, hW2⟩ : ∃ W2, Wa.putObj (D + 1) (.loop { rec .ready none with state := .busy }) = W2 := ⟨_, rfl⟩
    rw [hW2]
    have hz2 : W2.heap.size = Wa.heap.size := by rw [← hW2]; simp
    have ho2 : ∀ k, k ≠ D + 1 → W2.heap[k]? = Wa.heap[k]? := fun k hk => by rw [← hW2]; exact World.putObj_heap_other hk
    have hl2 : W2.heap[D + 1]? = some (.loop { rec .ready none with state := .busy }) := by rw [← hW2]; exact World.putObj_heap_same hlta
    have hia : I pre (U F) Wa := hI pre (U F) (U F) W Wa hi (Kp.ofBelow _ hba) (fun _ h => .inl h)
    have hi2 : I pre (U F) W2 := by rw [← hW2]; exact hI.put _ _ hia (hU1 F)
    have he2 : B x a' W2 := hB x a' Wa W2 hBa (by omega) (fun k _ h => ho2 k (fun e => by
        subst e
        obtain ⟨o, h1, h2⟩ := h
        rw [hla] at h1
        cases h1
        cases h2))
    refine wpIn_mono (hbody (D + 1) pre x (U F) W2 a' hi2 he2) ?_
    have fin : ∀ (jump : Option Code) (W3 : World), Kept (U F) W2 W3 →
        (Instr.endRound (D + 1) jump).run P W3 = .ok (.bool jump.isNone) (W3.putObj (D + 1) (.loop (rec (if jump.isNone then .ready else .done) jump))) ∧
        (W3.putObj (D + 1) (.loop (rec (if jump.isNone then .ready else .done) jump))).heap[D + 1]? = some (.loop (rec (if jump.isNone then .ready else .done) jump)) ∧
        (W3.putObj (D + 1) (.loop (rec (if jump.isNone then .ready else .done) jump))).heap[D]? = some (.deferred (some [])) := fun jump W3 h3 => by
      have hl3 : W3.heap[D + 1]? = some (.loop { rec .ready none with state := .busy }) := (h3.same _ (by omega) (hU1 F)).trans hl2
      have hk3 : W3.heap[D]? = some (.deferred (some [])) := (h3.same _ (by omega) (hU0 F)).trans ((ho2 D (by omega)).trans hka)
      have := run_endRound (P := P) jump hl3
      rw [hrec] at this ⊢
      exact ⟨this, World.putObj_heap_same (Array.getElem?_eq_some_iff.1 hl3).1, (World.putObj_heap_other (by omega)).trans hk3⟩
    have keptF : ∀ (W3 : World) (o : Obj), Kept (U F) W2 W3 → Kept F W (W3.putObj (D + 1) o) := fun W3 o h3 => by
      have hz := h3.size
      refine ⟨by simp; omega, fun k hk' hfk => ?_⟩
      have hne : k ≠ D + 1 := fun e => by subst e; exact hf1 hfk
      rw [World.putObj_heap_other hne, h3.same k (by omega) (hUF F k hfk), ho2 k hne, hba.block k hk']
    rintro e a3 W3 hp
    cases e with
    | normal =>
      obtain ⟨h3, hi3⟩ := hp
      obtain ⟨hr, hl4, hk4⟩ := fin none W3 (h3.mono fun _ _ h => .inl h)
      refine ⟨_, _, hr, .inl ⟨rfl, ⟨hI.put _ _ hi3 (hU1 F), hl4, hk4, hf1, hf0⟩, ?_⟩⟩
      have hz := h3.size
      refine ⟨by simp; omega, fun k hk' hfk => ?_⟩
      have hne : k ≠ D + 1 := fun e => by
        subst e
        rcases hfk with h | h
        · exact hf1 h
        · have := hG _ h; omega
      rw [World.putObj_heap_other hne, h3.same k (by omega) (hfk.elim (fun h => .inl (hUF F k h)) .inr), ho2 k hne, hba.block k hk']
    | ret =>
      obtain ⟨h3, hi3⟩ := hp
      obtain ⟨hr, hl4, hk4⟩ := fin (some .ret) W3 h3
      exact ⟨_, _, hr, .inr ⟨rfl, ⟨.ret, (hIx _).put _ _ hi3 (hU1 F), hl4, hk4, hf1, hf0⟩, keptF W3 _ h3⟩⟩
    | exit id =>
      obtain ⟨h3, hi3⟩ := hp
      obtain ⟨hr, hl4, hk4⟩ := fin (some (.exit id)) W3 h3
      exact ⟨_, _, hr, .inr ⟨rfl, ⟨.exit id, (hIx _).put _ _ hi3 (hU1 F), hl4, hk4, hf1, hf0⟩, keptF W3 _ h3⟩⟩
    | goto t =>
      obtain ⟨h3, hi3⟩ := hp
      obtain ⟨hr, hl4, hk4⟩ := fin (some (.goto t)) W3 h3
      exact ⟨_, _, hr, .inr ⟨rfl, ⟨.goto t, (hIx _).put _ _ hi3 (hU1 F), hl4, hk4, hf1, hf0⟩, keptF W3 _ h3⟩⟩
    | panic ch => exact hp.elim
    | outgrown => exact hp.elim
  · have z1 := (Array.getElem?_eq_some_iff.1 hL1).1
    refine ⟨hI [] F0 _ w W1 h0 (Kp.ofBelow _ hbel) (fun k h => ?_), hL1, hK1, fun h => by have := hF0 _ h; omega, fun h => by have := hF0 _ h; omega⟩
    rw [hU] at h
    rcases h with h | h | h
    · exact .inl h
    · right; omega
    · right; omega
  · -- behind the iterator
    rintro e W2 ⟨⟨v, rfl⟩, (⟨xs, F, hS, hi, hl, hk, _, _⟩ | ⟨pre, F, hSp, c, hi, hl, hk, _, _⟩)⟩
    · exact ⟨none, _, by have := run_endLoop (P := P) hl (by rw [hrec]; simp); rw [hrec] at this; exact this, hdone D xs (U F) _ (Nat.le_refl _) (hU0 F) hS (hI.put _ _ hi (hU1 F)) ((World.putObj_heap_other (by omega)).trans hk)⟩
    · exact ⟨some c, _, by have := run_endLoop (P := P) hl (by rw [hrec]; simp); rw [hrec] at this; exact this, hstop D c pre (U F) _ (Nat.le_refl _) (hU0 F) hSp ((hIx c).put _ _ hi (hU1 F)) ((World.putObj_heap_other (by omega)).trans hk)⟩

end Go.Proofs.Ytdfdkddjkhcgdai

/- A region that draws its order and only reads, within a round of a range over a function: one walk in the order of the text serves every order. No program is named here. -/
namespace Go.Proofs.Ytdfdkddjkhcgdai
open Go.RowKit

/-- no operation is put off -/
def noDefer (ops : List Oper) : Bool := ops.all fun o => match o.op with
  | .defer _ => false
  | _ => true
theorem noDefer_at {ops : List Oper} (h : noDefer ops = true) {o : Oper} (ho : o ∈ ops) : ∀ c, o.op ≠ .defer c := fun c e => by
  have := List.all_eq_true.1 h o ho
  rw [e] at this
  cases this
section
variable {P : Program} {C : World → Prop} {l n : Nat}
theorem oper_wpIn_quiet {o : Oper} {a : Act} {K : Act → Prop} {K' : Act → World → Prop} {Q' : Exit → Act → World → Prop} {w : World} (hd : ∀ c, o.op ≠ .defer c) (hw : C w) (h : ∀ a w', C w' → K a → K' a w') (hh : o.quiet P a C K) : o.wpIn (Fence.wide.inRound l) n P a w K' Q' := by
  obtain ⟨v, h1, h2⟩ := hh
  have h3 := h1 w hw
  unfold Oper.quietAt at h3
  refine ⟨fun _ _ => trivial, ?_⟩
  rw [Oper.semAt_eq _ _ _ hd]
  generalize (execOp a.eval o).run P w = r at *
  cases r with
  | ok nx w' =>
    cases nx <;> simp only [Oper.quietUpon] at h3
    case value u =>
      obtain ⟨rfl, rfl⟩ := h3
      exact h _ _ hw h2
    case skip =>
      obtain ⟨rfl, rfl⟩ := h3
      exact h _ _ hw h2
    case enter f args =>
      obtain ⟨rfl, h4⟩ := h3
      refine ⟨fun e => (by cases e), ?_⟩
      refine (CallsIn.inRound l (callsIn_wide.2 h4)).mono ?_
      rintro e w2 ⟨rfl, hc⟩
      exact h _ _ hc h2
  | halt x w' => simp only [Oper.quietUpon] at h3
theorem any_of_quiet {md : Region.Mode} {ops : Array Oper} {Q : Act → Prop} {Q' : Exit → Act → World → Prop} (hd : ∀ (i : Nat) o, ops[i]? = some o → ∀ c, o.op ≠ .defer c) (hq : ∀ a w, C w → Q a → Q' .normal a w) :
    ∀ (fuel : Nat) (listed : Array Bool) (a : Act) (w : World), C w → wpAnyQ P md ops C Q fuel listed a → wpAnyIn (Fence.wide.inRound l) n P md ops Q' fuel listed a w
  | 0, _, a, w, hw, h => ⟨h.1, hq a w hw h.2⟩
  | fuel + 1, listed, a, w, hw, h => by
    refine ⟨fun e => hq a w hw (h.1 e), fun i hi => ?_⟩
    have h2 := h.2 i hi
    unfold qOp at h2
    unfold wpOpIn
    split
    · rename_i hn
      rw [hn] at h2
      exact any_of_quiet hd hq fuel _ a w hw h2
    · rename_i o ho
      rw [ho] at h2
      simp only at h2
      split
      · rename_i hwt
        rw [if_pos hwt] at h2
        exact oper_wpIn_quiet (hd i o ho) hw (fun a' w' hw' h3 => any_of_quiet hd hq fuel _ a' w' hw' h3) h2
      · rename_i hwt
        rw [if_neg hwt] at h2
        exact ⟨fun _ _ => trivial, any_of_quiet hd hq fuel _ _ w hw h2⟩
/-- the law -/
theorem wpIn_region_quietR {id : Nat} {Q : Exit → Act → World → Prop} {a : Act} {w : World} {ops : List Oper} (hm : P.follows .mixedOrders = true) (hB : Region.lexB .any ops.toArray = true) (hD : noDefer ops = true) (hC : C { w with drawn := w.drawn + 1 })
    (h : wpQuiet P ops.toArray C (fun a' => ∀ w', C w' → Q .normal a' w') ops a) : (Code.region id ops.toArray true).wpIn (Fence.wide.inRound l) n P Q a w := by
  simp only [Region.lexB, Bool.and_eq_true] at hB
  refine wpIn_region_any hm (any_of_quiet (Q := fun a' => ∀ w', C w' → Q .normal a' w') (fun i o ho => noDefer_at hD (List.mem_of_getElem? (by simpa using ho))) (fun _ w' hw' h => h w' hw') _ _ _ _ hC ?_)
  have := wpAnyQ_lex (C := C) (md := .any) hB.1 ops 0 (Array.replicate ops.toArray.size false) a (by simp) (by simpa using hB.2) h
  simpa using this
end

end Go.Proofs.Ytdfdkddjkhcgdai
