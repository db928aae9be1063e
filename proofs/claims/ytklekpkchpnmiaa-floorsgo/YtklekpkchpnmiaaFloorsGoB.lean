/- Two slices that grow, each in a box, apart from each other; a range over a function that is left by a break. -/
import Derived.Test.YtklekpkchpnmiaaFloorsGoL
import Derived.Test.YtklekpkchpnmiaaFloorsBothM
import Derived.Deep.AppendLies
import Derived.RangeFuncFrom
namespace Go.Proofs.Ytklekpkchpnmiaa
open Go.RowKit Go.Shelf

/-- append, inside a fence, and where the new slice lies -/
theorem wpListIn_append_lies {F : Fence} {n : Nat} {P : Program} (w : World) {ops : Array Oper} {rest : List Oper} {o : Oper} {a : Act} {Q : Exit → Act → World → Prop}
    (hg : o.guard = none) (s x : Operand) (t : TypeId) (hop : o.op = Op.call { callee := Callee.builtin Builtin.append, args := #[s, x], argTypes := #[t, t] })
    (base : Nat) (e : TypeId) (i : TypeInfo) (z : Value) (size bytes : Nat) (h1 : P.underlying t = some (.slice e)) (h2 : P.info? e = some i) (h3 : i.zero = some z) (h4 : i.size = size) (h5 : i.bytes = bytes) (h6 : z.cells.size = size) (h7 : 0 < size)
    (v : Value) (k : Nat) (xs : List Value) (hs : a.eval s = v) (hown : w.ownsRow base e size v k xs) (ad : Addr) (m c : Nat) (news : List Value) (hx : a.eval x = .slice (some ad) m c) (hn : news.length = m * size)
    (hc : ∀ j u, news[j]? = some u → w.cell? (ad.add j) = some u) (h1c : ∀ u ∈ news, u.oneCell' = true) (hm : 0 < m) (b1 : k + m ≤ maxLen) (b2 : (k + m) * bytes ≤ 140737488355328) (b3 : base ≤ w.heap.size) (H : Nat) (hH : w.heap.size = H)
    (hK : ∀ g cap w', w'.ownsRow base e size (.slice (some ⟨g, 0, none⟩) (k + m) cap) (k + m) (xs ++ news) → w.grownBy w' v.ownBlock → (v.ownBlock = some g ∨ g = H) → g < w'.heap.size → wpListIn F n P ops Q rest (a.put o.dst (.slice (some ⟨g, 0, none⟩) (k + m) cap)) w') :
    wpListIn F n P ops Q (o :: rest) a w := by
  refine wpListIn_plain hg fun K hK' => ?_
  obtain ⟨g, cap, w', hrun, r1, r2, r3, r4⟩ := run_append_lies (P := P) w t o.type base e i z size bytes h1 h2 h3 h4 h5 h6 h7 v k xs hown ad m c news hn hc h1c hm b1 b2 b3 H hH
  unfold Oper.wpIn
  refine ⟨?_, ?_⟩
  · simp [Oper.about, hop, resolve, Target.leads, Sem.run_pure]
  · rw [Oper.semAt_plain F _ _ (by rw [hop]; intro c hc'; cases hc')]
    simp [execOp, hop, resolve, invoke, builtin, hs, hx, hrun, Result.andThen]
    exact hK' _ _ (hK g cap w' r1 r2 r3 r4)

/-- a range over a function that goes on behind its block, be it left by a break or not -/
theorem wpIn_rangeFunc_brk {F : Fence} {n : Nat} {P : Program} {α : Type} {g : Operand} {ps : Array Tmp} {assign body : Code} {K : Act → World → Prop} {Q' : Exit → Act → World → Prop} {j : Nat} {a : Act} {w : World}
    (hro : F.round = none) (h1 : 1 ≤ n) {gf : Nat} {lb : Array Value} (hg : a.eval g = .func (.func gf) #[] lb) (hFg : F.fn gf) (eg : ∀ args w, (callFunc gf args).run P w = .ok (.enter gf args) w)
    {encs : α → Array Value} {Kp : World → World → Prop} {S Sp : List α → Prop} {N : Nat} {w0 : World} (hseq : SeqStopsK F (n - 1) P gf lb encs Kp S Sp N w0)
    (hKt : ∀ {A B C : World}, Kp A B → Kp B C → Kp A C) (hKb : ∀ (W : World) (l : Nat) (o o' : Obj), w.heap.size ≤ l → W.heap[l]? = some o → o.isCells = false → o.isWalk = false → Kp W (W.putObj l o')) (hb0 : Below w0.heap.size w0 w) (hps : ∀ x, (encs x).size = ps.size)
    (I : List α → World → Prop) (Ix : Code → List α → World → Prop) (hI : OwnFrom w.heap.size I) (hIx : ∀ c, OwnFrom w.heap.size (Ix c)) (h0 : I [] w) (T : World → Prop)
    (hT : ∀ xs W, S xs → I xs W → T W) (hTx : ∀ c pre W, Sp pre → Ix c pre W → c = .exit j ∧ T W) (a₁ : α → Act)
    (hassign : ∀ (l : Nat) (x : α) (W : World) (K : Act → World → Prop), K (a₁ x) W →
      assign.wpIn (F.inRound l) (n - 1 - 1) P (Exit.then K (fun _ _ _ => False)) { tmps := (ps.zip (encs x)).foldl (fun t (p, v) => t.setIfInBounds p v) a.tmps, defers := [] } W)
    (hbody : ∀ (l : Nat) (pre : List α) (x : α) (W : World), I pre W → pre.length < N → body.wpIn (F.inRound l) (n - 1 - 1) P (ownPostK Kp I Ix (pre ++ [x]) W) (a₁ x) W)
    (hend : ∀ (D : Nat) (W : World), w.heap.size ≤ D → T W → W.heap[D]? = some (.deferred (some [])) → K { a with defers := { target := .collected D, args := #[] } :: a.defers } W) :
    (Code.rangeFunc g ps assign body).wpIn F n P (Exit.inBlock j (Exit.then K Q')) a w :=
  wpIn_rangeFunc_ownF hro h1 hg hFg eg hseq (fun h k => hKt h k) hKb hb0 hps I Ix hI hIx h0 a₁ hassign hbody
    (fun D xs W hD hS hi hK => hend D W hD (hT xs W hS hi) hK)
    (fun D c pre W hD hSp hi hK => by
      obtain ⟨rfl, ht⟩ := hTx c pre W hSp hi
      refine wpIn_exit ?_
      show (if j = j then _ else _)
      rw [if_pos rfl]
      exact hend D W hD ht hK)

/-- the boxes of the law: how many at most, and the two slices with what they own -/
def Two (W : World) (M kk : Nat) (U V : List Nat) : Prop :=
  Boxed W M 3 (.int .i64 (kk : Int)) ∧ ∃ u v, Boxed W (M + 1 + 1 + 1) 22 u ∧ Boxed W (M + 1 + 1 + 1 + 1) 22 v ∧ W.ownsRow (M + 1) 3 1 u U.length (iv U) ∧ W.ownsRow (M + 1) 3 1 v V.length (iv V) ∧ u.ownBlock ≠ v.ownBlock
theorem row_keep {W W' : World} {row : Option Nat} {base k : Nat} {v : Value} {xs : List Value} (h : W.ownsRow base 3 1 v k xs) (hg : W.grownBy W' row) (hr : ∀ r, row = some r → ∃ o : Obj, W.heap[r]? = some o ∧ o.isCells = false) : W'.ownsRow base 3 1 v k xs := by
  refine h.kept hg ?_
  rcases h.2 with ⟨rfl, _⟩ | ⟨g, cap, cur, rfl, _, hgb, _⟩
  · exact .inl rfl
  · refine .inr fun e' => ?_
    obtain ⟨o, ho, hc⟩ := hr g (by simpa [Value.ownBlock] using e'.symm)
    rw [hgb] at ho; cases ho; cases hc
theorem box_keep {W W' : World} {row : Option Nat} {B : Nat} {t : TypeId} {v : Value} (h : Boxed W B t v) (hg : W.grownBy W' row) (hr : ∀ r, row = some r → ∃ o : Obj, W.heap[r]? = some o ∧ o.isCells = false) : Boxed W' B t v :=
  boxed_own B t (fun _ : Unit => v) () W W' row h hg hr
theorem two_own {β : Type} (M kk : Nat) (U V : β → List Nat) : Own (fun (p : β) W => Two W M kk (U p) (V p)) := by
  rintro p A B row ⟨h1, u, v, h2, h3, h4, h5, h6⟩ hg hr
  exact ⟨box_keep h1 hg hr, u, v, box_keep h2 hg hr, box_keep h3 hg hr, row_keep h4 hg hr, row_keep h5 hg hr, h6⟩
theorem Two.alloc {W : World} {M kk : Nat} {U V : List Nat} (h : Two W M kk U V) (o : Obj) : Two (W.alloc o) M kk U V :=
  (two_own M kk (fun _ : Unit => U) (fun _ => V)).alloc (s := ()) o h
theorem Two.below {W W' : World} {M kk : Nat} {U V : List Nat} (h : Two W M kk U V) (hb : Below W.heap.size W W') : Two W' M kk U V := by
  have key : ∀ (u : Value) (L : List Nat), W.ownsRow (M + 1) 3 1 u L.length (iv L) → W'.ownsRow (M + 1) 3 1 u L.length (iv L) := by
    rintro u L ⟨e, h | ⟨g, cap, cur, rfl, hB, hgb, hx⟩⟩
    · exact ⟨e, .inl h⟩
    · exact ⟨e, .inr ⟨g, cap, cur, rfl, hB, (hb.block g (mark_lt hgb)).trans hgb, hx⟩⟩
  obtain ⟨h1, u, v, h2, h3, h4, h5, h6⟩ := h
  exact ⟨Boxed.below h1 hb h1.lt, u, v, Boxed.below h2 hb h2.lt, Boxed.below h3 hb h3.lt, key u U h4, key v V h5, h6⟩
/-- the start -/
theorem two_start (W : World) (kk : Nat) :
    Two (((((W.alloc (.cells #[.int .i64 (kk : Int)] 3)).alloc (.cells #[] 3)).alloc (.cells #[] 3)).alloc (.cells #[.slice (some ⟨W.heap.size + 1, 0, none⟩) 0 0] 22)).alloc (.cells #[.slice (some ⟨W.heap.size + 1 + 1, 0, none⟩) 0 0] 22)) W.heap.size kk [] [] := by
  have n0 := Boxed.new W 3 (.int .i64 (kk : Int))
  have r1 := World.ownsRow_lit (base := W.heap.size + 1) (e := 3) (size := 1) (W.alloc (.cells #[.int .i64 (kk : Int)] 3)) #[] 0 (by simp) (Nat.zero_le _) rfl
  have r2 := World.ownsRow_lit (base := W.heap.size + 1) (e := 3) (size := 1) ((W.alloc (.cells #[.int .i64 (kk : Int)] 3)).alloc (.cells #[] 3)) #[] 0 (by simp) (Nat.zero_le _) rfl
  have n3 := Boxed.new (((W.alloc (.cells #[.int .i64 (kk : Int)] 3)).alloc (.cells #[] 3)).alloc (.cells #[] 3)) 22 (.slice (some ⟨W.heap.size + 1, 0, none⟩) 0 0)
  have n4 := Boxed.new ((((W.alloc (.cells #[.int .i64 (kk : Int)] 3)).alloc (.cells #[] 3)).alloc (.cells #[] 3)).alloc (.cells #[.slice (some ⟨W.heap.size + 1, 0, none⟩) 0 0] 22)) 22 (.slice (some ⟨W.heap.size + 1 + 1, 0, none⟩) 0 0)
  simp only [World.size_alloc] at n3 n4 r1 r2
  exact ⟨(((n0.alloc _).alloc _).alloc _).alloc _, _, _, n3.alloc _, n4, ((r1.alloc _).alloc _).alloc _, (r2.alloc _).alloc _, by simp [Value.ownBlock]⟩

/-- the rising one grows -/
theorem Two.up {W w1 : World} {M kk : Nat} {U V : List Nat} {u v : Value} {x g cap : Nat} {tmp : Obj} {n : Nat} (h0 : Boxed W M 3 (.int .i64 (kk : Int))) (h1 : Boxed W (M + 1 + 1 + 1) 22 u) (h2 : Boxed W (M + 1 + 1 + 1 + 1) 22 v)
    (h3 : W.ownsRow (M + 1) 3 1 u U.length (iv U)) (h4 : W.ownsRow (M + 1) 3 1 v V.length (iv V)) (h5 : u.ownBlock ≠ v.ownBlock)
    (hown' : w1.ownsRow (M + 1) 3 1 (.slice (some ⟨g, 0, none⟩) n cap) n (iv U ++ [.int .i64 (x : Int)])) (hn : n = (U ++ [x]).length) (hgrow : (W.alloc tmp).grownBy w1 u.ownBlock) (hat : u.ownBlock = some g ∨ g = W.heap.size + 1) :
    Two (w1.setCell ⟨M + 1 + 1 + 1, 0, none⟩ (.slice (some ⟨g, 0, none⟩) n cap)) M kk (U ++ [x]) V ∧ Boxed w1 (M + 1 + 1 + 1) 22 u ∧ KeepsOthers W (w1.setCell ⟨M + 1 + 1 + 1, 0, none⟩ (.slice (some ⟨g, 0, none⟩) n cap)) ∧ Below (M + 1) W (w1.setCell ⟨M + 1 + 1 + 1, 0, none⟩ (.slice (some ⟨g, 0, none⟩) n cap)) ∧
      ∀ b s, Boxed W b 33 s → Boxed (w1.setCell ⟨M + 1 + 1 + 1, 0, none⟩ (.slice (some ⟨g, 0, none⟩) n cap)) b 33 s := by
  have hsz := h2.lt
  obtain ⟨a1, a2, a3, a4, a5⟩ := Boxed.appended (n₀ := M + 1) h1 (by decide) h3 (by omega) (by omega) hown' hgrow
  have k0 : Boxed w1 M 3 (.int .i64 (kk : Int)) := (h0.alloc tmp).kept hgrow (fun e => by have := (h3.lt M e.symm).1; omega)
  have k2 : Boxed w1 (M + 1 + 1 + 1 + 1) 22 v := (h2.alloc tmp).kept hgrow (h2.not_row (by decide) h3)
  have k4 : w1.ownsRow (M + 1) 3 1 v V.length (iv V) := (h4.alloc tmp).kept hgrow (.inr (Ne.symm h5))
  subst hn
  refine ⟨⟨k0.other (by omega) _, _, v, a2, k2.other (by omega) _, by rw [iv_snoc]; exact a3, k4.kept (grownBy_setCell' w1 _ _) (.inr (a1.not_row (by decide) k4).symm), ?_⟩, a1, a4, a5, ?_⟩
  · intro e
    rcases hat with h | h
    · exact h5 (h.trans e)
    · have := (h4.lt g e.symm).2
      omega
  · intro b s hb
    have hb1 : Boxed w1 b 33 s := (hb.alloc tmp).kept hgrow (hb.not_row (by decide) h3)
    refine hb1.other ?_ _
    rintro rfl
    have := (show w1.heap[M + 1 + 1 + 1]? = _ from hb1).symm.trans a1
    simp at this
/-- the falling one grows -/
theorem Two.down {W w1 : World} {M kk : Nat} {U V : List Nat} {u v : Value} {x g cap : Nat} {tmp : Obj} {n : Nat} (h0 : Boxed W M 3 (.int .i64 (kk : Int))) (h1 : Boxed W (M + 1 + 1 + 1) 22 u) (h2 : Boxed W (M + 1 + 1 + 1 + 1) 22 v)
    (h3 : W.ownsRow (M + 1) 3 1 u U.length (iv U)) (h4 : W.ownsRow (M + 1) 3 1 v V.length (iv V)) (h5 : u.ownBlock ≠ v.ownBlock)
    (hown' : w1.ownsRow (M + 1) 3 1 (.slice (some ⟨g, 0, none⟩) n cap) n (iv V ++ [.int .i64 (x : Int)])) (hn : n = (V ++ [x]).length) (hgrow : (W.alloc tmp).grownBy w1 v.ownBlock) (hat : v.ownBlock = some g ∨ g = W.heap.size + 1) :
    Two (w1.setCell ⟨M + 1 + 1 + 1 + 1, 0, none⟩ (.slice (some ⟨g, 0, none⟩) n cap)) M kk U (V ++ [x]) ∧ Boxed w1 (M + 1 + 1 + 1 + 1) 22 v ∧ KeepsOthers W (w1.setCell ⟨M + 1 + 1 + 1 + 1, 0, none⟩ (.slice (some ⟨g, 0, none⟩) n cap)) ∧ Below (M + 1) W (w1.setCell ⟨M + 1 + 1 + 1 + 1, 0, none⟩ (.slice (some ⟨g, 0, none⟩) n cap)) ∧
      ∀ b s, Boxed W b 33 s → Boxed (w1.setCell ⟨M + 1 + 1 + 1 + 1, 0, none⟩ (.slice (some ⟨g, 0, none⟩) n cap)) b 33 s := by
  have hsz := h2.lt
  obtain ⟨a1, a2, a3, a4, a5⟩ := Boxed.appended (n₀ := M + 1) h2 (by decide) h4 (by omega) (by omega) hown' hgrow
  have k0 : Boxed w1 M 3 (.int .i64 (kk : Int)) := (h0.alloc tmp).kept hgrow (fun e => by have := (h4.lt M e.symm).1; omega)
  have k1 : Boxed w1 (M + 1 + 1 + 1) 22 u := (h1.alloc tmp).kept hgrow (h1.not_row (by decide) h4)
  have k3 : w1.ownsRow (M + 1) 3 1 u U.length (iv U) := (h3.alloc tmp).kept hgrow (.inr h5)
  subst hn
  refine ⟨⟨k0.other (by omega) _, u, _, k1.other (by omega) _, a2, k3.kept (grownBy_setCell' w1 _ _) (.inr (a1.not_row (by decide) k3).symm), by rw [iv_snoc]; exact a3, ?_⟩, a1, a4, a5, ?_⟩
  · intro e
    rcases hat with h | h
    · exact h5 (e.trans h.symm)
    · have := (h3.lt g e).2
      omega
  · intro b s hb
    have hb1 : Boxed w1 b 33 s := (hb.alloc tmp).kept hgrow (hb.not_row (by decide) h4)
    refine hb1.other ?_ _
    rintro rfl
    have := (show w1.heap[M + 1 + 1 + 1 + 1]? = _ from hb1).symm.trans a1
    simp at this

theorem row_below {W W' : World} {base n : Nat} {u : Value} {xs : List Value} (h : W.ownsRow base 3 1 u n xs) (hb : Below W.heap.size W W') : W'.ownsRow base 3 1 u n xs := by
  obtain ⟨e, h | ⟨g, cap, cur, rfl, hB, hgb, hx⟩⟩ := h
  · exact ⟨e, .inl h⟩
  · exact ⟨e, .inr ⟨g, cap, cur, rfl, hB, (hb.block g (mark_lt hgb)).trans hgb, hx⟩⟩
/-- what the law's end leans on -/
def Held (w W : World) (M kk : Nat) (U V : List Nat) (D D2 : Nat) : Prop := Two W M kk U V ∧ Below w.heap.size w W ∧ W.heap[D]? = some (.deferred (some [])) ∧ W.heap[D2]? = some (.deferred (some []))
theorem Held.below {w W W' : World} {M kk : Nat} {U V : List Nat} {D D2 : Nat} (h : Held w W M kk U V D D2) (hb : Below W.heap.size W W') : Held w W' M kk U V D D2 :=
  ⟨h.1.below hb, h.2.1.trans (hb.mono h.2.1.size), (hb.block D (mark_lt h.2.2.1)).trans h.2.2.1, (hb.block D2 (mark_lt h.2.2.2)).trans h.2.2.2⟩
theorem row_form {W : World} {base n : Nat} {u : Value} {xs : List Value} (h : W.ownsRow base 3 1 u n xs) : ∃ a c, u = .slice a n c := by
  rcases h.2 with ⟨rfl, rfl⟩ | ⟨g, cap, _, rfl, _⟩
  · exact ⟨_, _, rfl⟩
  · exact ⟨_, _, rfl⟩
theorem take_done {L : List Nat} {k : Nat} (h : L.length ≤ k) : L.take k = L := List.take_of_length_le h
theorem take_stop {L ini : List Nat} {x k : Nat} (h : ini ++ [x] <+: L) (hk : ini.length = k) : ini = L.take k := by
  obtain ⟨t, rfl⟩ := h
  subst hk
  rw [List.append_assoc, List.take_left]

end Go.Proofs.Ytklekpkchpnmiaa
