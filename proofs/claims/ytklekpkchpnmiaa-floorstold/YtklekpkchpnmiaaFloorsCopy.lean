/- The statement 'with, without := want, want': two new arrays, in whatever order they are made and filled. -/
import Derived.Test.YtklekpkchpnmiaaFloorsRef
import Derived.Orders
namespace Go.Proofs.Ytklekpkchpnmiaa
open Go.RowKit

abbrev ops25 (p : String) : Array Oper :=
  #[{ dst := some 88, op := Op.load 31 (Operand.tmp 7), type := 31, pos := p, after := #[], guard := none },
    { dst := some 89, op := Op.load 31 (Operand.tmp 7), type := 31, pos := p, after := #[{ on := 4, ground := Ground.gcOnly Departure.lateStores }], guard := none },
    { dst := some 15, op := Op.alloc 31, type := 0, pos := p, after := #[], guard := none },
    { dst := some 16, op := Op.alloc 31, type := 0, pos := p, after := #[], guard := none },
    { dst := none, op := Op.store 31 (Operand.tmp 15) (Operand.tmp 88), type := 0, pos := p,
      after := #[{ on := 2, ground := Ground.data }, { on := 0, ground := Ground.data }, { on := 0, ground := Ground.phase }, { on := 1, ground := Ground.textOnly Departure.lateStores }, { on := 2, ground := Ground.phase }, { on := 3, ground := Ground.phase }], guard := none },
    { dst := none, op := Op.store 31 (Operand.tmp 16) (Operand.tmp 89), type := 0, pos := p,
      after := #[{ on := 3, ground := Ground.data }, { on := 1, ground := Ground.data }, { on := 4, ground := Ground.chain }, { on := 0, ground := Ground.phase }, { on := 1, ground := Ground.phase }, { on := 2, ground := Ground.phase }, { on := 3, ground := Ground.phase }, { on := 4, ground := Ground.phase }], guard := none }]

/-- how many have come up -/
def cn (l0 l1 l2 l3 l4 l5 : Bool) : Nat := l0.toNat + l1.toNat + l2.toNat + l3.toNat + l4.toNat + l5.toNat
/-- what must have come up ahead -/
def okB (l0 l1 l2 l3 l4 l5 : Bool) : Bool := (!l4 || (l0 && l2 && l3)) && (!l5 || (l0 && l1 && l2 && l3 && l4))
theorem ready_nil0 : ∀ l0 l1 l2 l3 l4 l5 : Bool, okB l0 l1 l2 l3 l4 l5 = true → Region.ready .any (ops25 "") #[l0, l1, l2, l3, l4, l5] = [] → cn l0 l1 l2 l3 l4 l5 = 6 := by decide +kernel
theorem ready_full0 : Region.ready .any (ops25 "") #[true, true, true, true, true, true] = [] := by decide +kernel
theorem ready_pos (p : String) (l0 l1 l2 l3 l4 l5 : Bool) : Region.ready .any (ops25 p) #[l0, l1, l2, l3, l4, l5] = Region.ready .any (ops25 "") #[l0, l1, l2, l3, l4, l5] := by
  cases l0 <;> cases l1 <;> cases l2 <;> cases l3 <;> cases l4 <;> cases l5 <;> rfl
theorem ready_nil (p : String) (l0 l1 l2 l3 l4 l5 : Bool) (h : okB l0 l1 l2 l3 l4 l5 = true) (hr : Region.ready .any (ops25 p) #[l0, l1, l2, l3, l4, l5] = []) : cn l0 l1 l2 l3 l4 l5 = 6 :=
  ready_nil0 l0 l1 l2 l3 l4 l5 h ((ready_pos p l0 l1 l2 l3 l4 l5).symm.trans hr)
theorem ready_full (p : String) : Region.ready .any (ops25 p) #[true, true, true, true, true, true] = [] := (ready_pos p _ _ _ _ _ _).trans ready_full0
def rdB (l0 l1 l2 l3 l4 l5 : Bool) (i : Nat) : Bool :=
  (i == 0 && !l0 && okB true l1 l2 l3 l4 l5) || (i == 1 && !l1 && okB l0 true l2 l3 l4 l5) || (i == 2 && !l2 && okB l0 l1 true l3 l4 l5) || (i == 3 && !l3 && okB l0 l1 l2 true l4 l5) ||
    (i == 4 && !l4 && l0 && l2 && l3 && okB l0 l1 l2 l3 true l5) || (i == 5 && !l5 && l0 && l1 && l2 && l3 && l4)
theorem ready_all : ∀ l0 l1 l2 l3 l4 l5 : Bool, okB l0 l1 l2 l3 l4 l5 = true → (Region.ready .any (ops25 "") #[l0, l1, l2, l3, l4, l5]).all (rdB l0 l1 l2 l3 l4 l5) = true := by decide +kernel
theorem ready_of (p : String) (l0 l1 l2 l3 l4 l5 : Bool) (h : okB l0 l1 l2 l3 l4 l5 = true) (i : Nat) (hi : i ∈ Region.ready .any (ops25 p) #[l0, l1, l2, l3, l4, l5]) :
    (i = 0 ∧ l0 = false ∧ okB true l1 l2 l3 l4 l5 = true) ∨ (i = 1 ∧ l1 = false ∧ okB l0 true l2 l3 l4 l5 = true) ∨ (i = 2 ∧ l2 = false ∧ okB l0 l1 true l3 l4 l5 = true) ∨ (i = 3 ∧ l3 = false ∧ okB l0 l1 l2 true l4 l5 = true) ∨
      (i = 4 ∧ l4 = false ∧ l0 = true ∧ l2 = true ∧ l3 = true ∧ okB l0 l1 l2 l3 true l5 = true) ∨ (i = 5 ∧ l5 = false ∧ l0 = true ∧ l1 = true ∧ l2 = true ∧ l3 = true ∧ l4 = true) := by
  have := List.all_eq_true.1 (ready_all l0 l1 l2 l3 l4 l5 h) i (ready_pos p l0 l1 l2 l3 l4 l5 ▸ hi)
  unfold rdB at this
  simp only [Bool.or_eq_true, Bool.and_eq_true, beq_iff_eq, Bool.not_eq_true'] at this
  rcases this with (((((h | h) | h) | h) | h) | h)
  · exact .inl ⟨h.1.1, h.1.2, h.2⟩
  · exact .inr (.inl ⟨h.1.1, h.1.2, h.2⟩)
  · exact .inr (.inr (.inl ⟨h.1.1, h.1.2, h.2⟩))
  · exact .inr (.inr (.inr (.inl ⟨h.1.1, h.1.2, h.2⟩)))
  · exact .inr (.inr (.inr (.inr (.inl ⟨h.1.1.1.1.1, h.1.1.1.1.2, h.1.1.1.2, h.1.1.2, h.1.2, h.2⟩))))
  · exact .inr (.inr (.inr (.inr (.inr ⟨h.1.1.1.1.1.1, h.1.1.1.1.1.2, h.1.1.1.1.2, h.1.1.1.2, h.1.1.2, h.1.2, h.2⟩))))
theorem cn_six : ∀ l0 l1 l2 l3 l4 l5 : Bool, cn l0 l1 l2 l3 l4 l5 = 6 → l0 = true ∧ l1 = true ∧ l2 = true ∧ l3 = true ∧ l4 = true ∧ l5 = true := by decide

/-- the frame, by what has come up -/
def T25 (tm : Array Value) (A : Value) (l0 l1 l2 l3 : Bool) (p1 p2 : Value) : Array Value :=
  let t := if l0 = true then tm.setIfInBounds 88 A else tm
  let t := if l1 = true then t.setIfInBounds 89 A else t
  let t := if l2 = true then t.setIfInBounds 15 p1 else t
  if l3 = true then t.setIfInBounds 16 p2 else t
theorem sic {i j : Nat} (h : i ≠ j) (t : Array Value) (a b : Value) : (t.setIfInBounds i a).setIfInBounds j b = (t.setIfInBounds j b).setIfInBounds i a := Array.setIfInBounds_comm a b h
theorem T25_put0 (tm : Array Value) (A : Value) (l1 l2 l3 : Bool) (p1 p2 : Value) : (T25 tm A false l1 l2 l3 p1 p2).setIfInBounds 88 A = T25 tm A true l1 l2 l3 p1 p2 := by
  unfold T25
  cases l1 <;> cases l2 <;> cases l3 <;> simp only [Bool.false_eq_true, if_false, if_true, sic (show (16 : Nat) ≠ 88 by decide), sic (show (15 : Nat) ≠ 88 by decide), sic (show (89 : Nat) ≠ 88 by decide)]
theorem T25_put1 (tm : Array Value) (A : Value) (l0 l2 l3 : Bool) (p1 p2 : Value) : (T25 tm A l0 false l2 l3 p1 p2).setIfInBounds 89 A = T25 tm A l0 true l2 l3 p1 p2 := by
  unfold T25
  cases l0 <;> cases l2 <;> cases l3 <;> simp only [Bool.false_eq_true, if_false, if_true, sic (show (16 : Nat) ≠ 89 by decide), sic (show (15 : Nat) ≠ 89 by decide)]
theorem T25_put2 (tm : Array Value) (A : Value) (l0 l1 l3 : Bool) (p0 p1 p2 : Value) : (T25 tm A l0 l1 false l3 p0 p2).setIfInBounds 15 p1 = T25 tm A l0 l1 true l3 p1 p2 := by
  unfold T25
  cases l0 <;> cases l1 <;> cases l3 <;> simp only [Bool.false_eq_true, if_false, if_true, sic (show (16 : Nat) ≠ 15 by decide)]
theorem T25_put3 (tm : Array Value) (A : Value) (l0 l1 l2 : Bool) (p1 p0 p2 : Value) : (T25 tm A l0 l1 l2 false p1 p0).setIfInBounds 16 p2 = T25 tm A l0 l1 l2 true p1 p2 := by
  unfold T25
  cases l0 <;> cases l1 <;> cases l2 <;> simp only [Bool.false_eq_true, if_false, if_true]
theorem gne {i j : Nat} (h : i ≠ j) (t : Array Value) (a : Value) : (t.setIfInBounds i a).getD j undef = t.getD j undef := by
  simp [Array.getElem?_setIfInBounds_ne h]
theorem geq {i : Nat} (t : Array Value) (a : Value) (h : i < t.size) : (t.setIfInBounds i a).getD i undef = a := by
  simp [h]
theorem T25_get7 (tm : Array Value) (A : Value) (l0 l1 l2 l3 : Bool) (p1 p2 : Value) : (T25 tm A l0 l1 l2 l3 p1 p2).getD 7 undef = tm.getD 7 undef := by
  unfold T25
  cases l0 <;> cases l1 <;> cases l2 <;> cases l3 <;> simp only [Bool.false_eq_true, if_false, if_true, gne (show (16 : Nat) ≠ 7 by decide), gne (show (15 : Nat) ≠ 7 by decide), gne (show (89 : Nat) ≠ 7 by decide), gne (show (88 : Nat) ≠ 7 by decide)]
theorem T25_get88 (tm : Array Value) (A : Value) (l1 l2 l3 : Bool) (p1 p2 : Value) (h : 89 < tm.size) : (T25 tm A true l1 l2 l3 p1 p2).getD 88 undef = A := by
  unfold T25
  cases l1 <;> cases l2 <;> cases l3 <;> simp only [Bool.false_eq_true, if_false, if_true, gne (show (16 : Nat) ≠ 88 by decide), gne (show (15 : Nat) ≠ 88 by decide), gne (show (89 : Nat) ≠ 88 by decide)] <;> exact geq _ _ (by first | omega | (simp only [Array.size_setIfInBounds]; omega))
theorem T25_get89 (tm : Array Value) (A : Value) (l0 l2 l3 : Bool) (p1 p2 : Value) (h : 89 < tm.size) : (T25 tm A l0 true l2 l3 p1 p2).getD 89 undef = A := by
  unfold T25
  cases l0 <;> cases l2 <;> cases l3 <;> simp only [Bool.false_eq_true, if_false, if_true, gne (show (16 : Nat) ≠ 89 by decide), gne (show (15 : Nat) ≠ 89 by decide)] <;> exact geq _ _ (by first | omega | (simp only [Array.size_setIfInBounds]; omega))
theorem T25_get15 (tm : Array Value) (A : Value) (l0 l1 l3 : Bool) (p1 p2 : Value) (h : 89 < tm.size) : (T25 tm A l0 l1 true l3 p1 p2).getD 15 undef = p1 := by
  unfold T25
  cases l0 <;> cases l1 <;> cases l3 <;> simp only [Bool.false_eq_true, if_false, if_true, gne (show (16 : Nat) ≠ 15 by decide)] <;> exact geq _ _ (by first | omega | (simp only [Array.size_setIfInBounds]; omega))
theorem T25_get16 (tm : Array Value) (A : Value) (l0 l1 l2 : Bool) (p1 p2 : Value) (h : 89 < tm.size) : (T25 tm A l0 l1 l2 true p1 p2).getD 16 undef = p2 := by
  unfold T25
  cases l0 <;> cases l1 <;> cases l2 <;> simp only [Bool.false_eq_true, if_false, if_true] <;> exact geq _ _ (by first | omega | (simp only [Array.size_setIfInBounds]; omega))

/- the operations, as they come up -/
theorem op_load31 {ops : Array Oper} {Q : Exit → Act → World → Prop} {i : Nat} {o : Oper} {a : Act} {w : World} {K : Act → World → Prop} (hi : ops[i]? = some o) (hg : o.guard = none) (x : Operand) (ho : o.op = .load 31 x)
    (b : Nat) (bs : List Bool) (hx : a.eval x = .pointer (some ⟨b, 0, none⟩)) (hr : w.rangeAt b 0 (bv bs)) (hl : bs.length = 64) (h : K (a.put o.dst (.agg (bv bs).toArray)) w) : wpOp Try.prog ops Q i K a w := by
  unfold wpOp
  simp only [hi, Region.wanted, hg, if_true]
  left
  unfold Oper.wp execOp
  simp only [ho, hx, Sem.run_bind, Sem.run_pure, Result.andThen_ok, load31 w b bs hr hl]
  exact h
theorem op_alloc31 {ops : Array Oper} {Q : Exit → Act → World → Prop} {i : Nat} {o : Oper} {a : Act} {w : World} {K : Act → World → Prop} (hi : ops[i]? = some o) (hg : o.guard = none) (ho : o.op = .alloc 31)
    (h : K (a.put o.dst (.pointer (some ⟨w.heap.size, 0, none⟩))) (w.alloc (.cells (bv zb).toArray 31))) : wpOp Try.prog ops Q i K a w := by
  unfold wpOp
  simp only [hi, Region.wanted, hg, if_true]
  left
  unfold Oper.wp execOp
  simp only [ho, Sem.run_bind, Sem.run_pure, Result.andThen_ok, alloc31]
  exact h
theorem op_store31 {ops : Array Oper} {Q : Exit → Act → World → Prop} {i : Nat} {o : Oper} {a : Act} {w : World} {K : Act → World → Prop} (hi : ops[i]? = some o) (hg : o.guard = none) (hd : o.dst = none) (x y : Operand) (ho : o.op = .store 31 x y)
    (b : Nat) (cs : List Bool) (hx : a.eval x = .pointer (some ⟨b, 0, none⟩)) (hy : a.eval y = .agg (bv cs).toArray) (ht : w.there b 0 64) (hl : cs.length = 64) (h : K a (w.setCells b 0 (bv cs))) : wpOp Try.prog ops Q i K a w := by
  unfold wpOp
  simp only [hi, Region.wanted, hg, if_true]
  left
  unfold Oper.wp execOp
  simp only [ho, hx, hy, Sem.run_bind, Sem.run_pure, Result.andThen_ok, store31 w b cs ht hl]
  show K (a.put o.dst undef) _
  rw [hd]; exact h

/-- what holds between two operations -/
def I25 (tm : Array Value) (W : World) (bs : List Bool) (fuel : Nat) (listed : Array Bool) (a : Act) (w : World) : Prop :=
  ∃ (l0 l1 l2 l3 l4 l5 : Bool) (b1 b2 : Nat), listed = #[l0, l1, l2, l3, l4, l5] ∧ fuel + cn l0 l1 l2 l3 l4 l5 = 6 ∧ okB l0 l1 l2 l3 l4 l5 = true ∧
    a = { tmps := T25 tm (.agg (bv bs).toArray) l0 l1 l2 l3 (.pointer (some ⟨b1, 0, none⟩)) (.pointer (some ⟨b2, 0, none⟩)), defers := [] } ∧ Below W.heap.size W w ∧
    (l2 = true → W.heap.size ≤ b1 ∧ ArrB w b1 (if l4 = true then bs else zb)) ∧ (l3 = true → W.heap.size ≤ b2 ∧ ArrB w b2 (if l5 = true then bs else zb)) ∧ (l2 = true → l3 = true → b1 ≠ b2)

set_option maxHeartbeats 1000000 in
theorem I25_step (p : String) (tm : Array Value) (W : World) (N : Nat) (bs : List Bool) (hl : bs.length = 64) (htm : 89 < tm.size) (h7 : tm.getD 7 undef = .pointer (some ⟨N, 0, none⟩)) (hN : ArrB W N bs) (Q : Exit → Act → World → Prop)
    (hQ : ∀ a w, I25 tm W bs 0 #[true, true, true, true, true, true] a w → Q .normal a w) :
    ∀ (fuel : Nat) (listed : Array Bool) (a : Act) (w : World), I25 tm W bs fuel listed a w → wpAny Try.prog .any (ops25 p) Q fuel listed a w := by
  intro fuel
  induction fuel with
  | zero =>
    intro listed a w h
    have h' := h
    obtain ⟨l0, l1, l2, l3, l4, l5, b1, b2, rfl, hf, hok, ha, hB, h2, h3, hne⟩ := h
    obtain ⟨rfl, rfl, rfl, rfl, rfl, rfl⟩ := cn_six l0 l1 l2 l3 l4 l5 (by omega)
    exact ⟨ready_full p, hQ _ _ h'⟩
  | succ fuel ih =>
    intro listed a w h
    obtain ⟨l0, l1, l2, l3, l4, l5, b1, b2, rfl, hf, hok, ha, hB, h2, h3, hne⟩ := h
    refine ⟨fun hr => by have := ready_nil p l0 l1 l2 l3 l4 l5 hok hr; omega, ?_⟩
    intro i hi
    refine wpOp_mono (fun a' w' hh => ih _ a' w' hh) ?_
    have hNw : ArrB w N bs := hN.below hB hN.lt
    have hNl := hN.lt
    subst ha
    rcases ready_of p _ _ _ _ _ _ hok i hi with ⟨rfl, rfl, ho⟩ | ⟨rfl, rfl, ho⟩ | ⟨rfl, rfl, ho⟩ | ⟨rfl, rfl, ho⟩ | ⟨rfl, rfl, rfl, rfl, rfl, ho⟩ | ⟨rfl, rfl, rfl, rfl, rfl, rfl, rfl⟩
    · refine op_load31 (o := (ops25 p)[0]) rfl rfl _ rfl N bs ((T25_get7 _ _ _ _ _ _ _ _).trans h7) hNw.range hl ?_
      refine ⟨true, l1, l2, l3, l4, l5, b1, b2, rfl, by simp [cn] at hf ⊢; omega, ho, ?_, hB, h2, h3, hne⟩
      show Act.mk _ _ = _
      rw [T25_put0]
    · refine op_load31 (o := (ops25 p)[1]) rfl rfl _ rfl N bs ((T25_get7 _ _ _ _ _ _ _ _).trans h7) hNw.range hl ?_
      refine ⟨l0, true, l2, l3, l4, l5, b1, b2, rfl, by simp [cn] at hf ⊢; omega, ho, ?_, hB, h2, h3, hne⟩
      show Act.mk _ _ = _
      rw [T25_put1]
    · refine op_alloc31 (o := (ops25 p)[2]) rfl rfl rfl ?_
      have h4 : l4 = false := by
        cases l4
        · rfl
        · simp [okB] at hok
      subst h4
      refine ⟨l0, l1, true, l3, false, l5, w.heap.size, b2, rfl, by simp [cn] at hf ⊢; omega, ho, ?_, hB.alloc hB.size _, fun _ => ⟨hB.size, ?_⟩, fun h => ⟨(h3 h).1, (h3 h).2.alloc _⟩, fun _ h => ?_⟩
      · show Act.mk _ _ = _
        rw [T25_put2]
      · exact ArrB.new w
      · have := (h3 h).2.lt; omega
    · refine op_alloc31 (o := (ops25 p)[3]) rfl rfl rfl ?_
      have h5 : l5 = false := by
        cases l5
        · rfl
        · simp [okB] at hok
      subst h5
      refine ⟨l0, l1, l2, true, l4, false, b1, w.heap.size, rfl, by simp [cn] at hf ⊢; omega, ho, ?_, hB.alloc hB.size _, fun h => ⟨(h2 h).1, (h2 h).2.alloc _⟩, fun _ => ⟨hB.size, ?_⟩, fun h _ => ?_⟩
      · show Act.mk _ _ = _
        rw [T25_put3]
      · exact ArrB.new w
      · have := (h2 h).2.lt; omega
    · have hz : zb.length = 64 := by decide
      have a1 : ArrB w b1 zb := (h2 rfl).2
      have g1 := (h2 rfl).1
      have ne := hne rfl rfl
      refine op_store31 (o := (ops25 p)[4]) rfl rfl rfl _ _ rfl b1 bs (T25_get15 _ _ _ _ _ _ _ htm) (T25_get88 _ _ _ _ _ _ _ htm) (by have := a1.there; rw [hz] at this; exact this) hl ?_
      have e1 : ArrB (w.setCells b1 0 (bv bs)) b1 bs := a1.store (by rw [hl, hz])
      have e2 : W.heap.size ≤ b2 ∧ ArrB (w.setCells b1 0 (bv bs)) b2 (if l5 = true then bs else zb) := ⟨(h3 rfl).1, Eq.trans (setCells_other b1 (bv bs) 0 w b2 (Ne.symm ne)) (h3 rfl).2⟩
      have e3 : Below W.heap.size W (w.setCells b1 0 (bv bs)) := below_setCells b1 g1 (bv bs) 0 w hB
      generalize w.setCells b1 0 (bv bs) = w2 at e1 e2 e3 ⊢
      exact ⟨true, l1, true, true, true, l5, b1, b2, rfl, by simp [cn] at hf ⊢; omega, ho, rfl, e3, fun _ => ⟨g1, e1⟩, fun _ => e2, fun _ _ => ne⟩
    · have hz : zb.length = 64 := by decide
      have a2 : ArrB w b2 zb := (h3 rfl).2
      have g2 := (h3 rfl).1
      have ne := hne rfl rfl
      refine op_store31 (o := (ops25 p)[5]) rfl rfl rfl _ _ rfl b2 bs (T25_get16 _ _ _ _ _ _ _ htm) (T25_get89 _ _ _ _ _ _ _ htm) (by have := a2.there; rw [hz] at this; exact this) hl ?_
      have e1 : ArrB (w.setCells b2 0 (bv bs)) b2 bs := a2.store (by rw [hl, hz])
      have e2 : W.heap.size ≤ b1 ∧ ArrB (w.setCells b2 0 (bv bs)) b1 bs := ⟨(h2 rfl).1, Eq.trans (setCells_other b2 (bv bs) 0 w b1 ne) (h2 rfl).2⟩
      have e3 : Below W.heap.size W (w.setCells b2 0 (bv bs)) := below_setCells b2 g2 (bv bs) 0 w hB
      generalize w.setCells b2 0 (bv bs) = w2 at e1 e2 e3 ⊢
      exact ⟨true, true, true, true, true, true, b1, b2, rfl, by simp [cn] at hf ⊢; omega, by decide, rfl, e3, fun _ => e2, fun _ => ⟨g2, e1⟩, fun _ _ => ne⟩

/-- the region, whole -/
theorem wp_copy {p : String} {id : Nat} {tm : Array Value} {W : World} {N : Nat} {bs : List Bool} {Q : Exit → Act → World → Prop} (hl : bs.length = 64) (htm : 89 < tm.size) (h7 : tm.getD 7 undef = .pointer (some ⟨N, 0, none⟩)) (hN : ArrB W N bs)
    (hQ : ∀ (b1 b2 : Nat) (w : World), W.heap.size ≤ b1 → W.heap.size ≤ b2 → b1 ≠ b2 → ArrB w b1 bs → ArrB w b2 bs → Below W.heap.size W w →
      Q .normal { tmps := (((tm.setIfInBounds 88 (.agg (bv bs).toArray)).setIfInBounds 89 (.agg (bv bs).toArray)).setIfInBounds 15 (.pointer (some ⟨b1, 0, none⟩))).setIfInBounds 16 (.pointer (some ⟨b2, 0, none⟩)), defers := [] } w) :
    (Code.region id (ops25 p) true).wp Try.prog Q { tmps := tm, defers := [] } W := by
  refine wp_region_any (by kernel_rfl) ?_
  refine I25_step p tm W N bs hl htm h7 hN Q ?_ _ _ _ _ ⟨false, false, false, false, false, false, 0, 0, rfl, rfl, by decide, rfl, (Below.refl _ W).drew, fun h => (by cases h), fun h => (by cases h), fun h => (by cases h)⟩
  rintro a w ⟨l0, l1, l2, l3, l4, l5, b1, b2, hls, hf, hok, rfl, hB, h2, h3, hne⟩
  obtain ⟨rfl, rfl, rfl, rfl, rfl, rfl⟩ := cn_six l0 l1 l2 l3 l4 l5 (by omega)
  exact hQ b1 b2 w (h2 rfl).1 (h3 rfl).1 (hne rfl rfl) (h2 rfl).2 (h3 rfl).2 hB

end Go.Proofs.Ytklekpkchpnmiaa
