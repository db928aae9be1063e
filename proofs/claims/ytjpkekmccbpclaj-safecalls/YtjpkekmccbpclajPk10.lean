/- Several texts in one, each with its own head. -/
import Derived.Test.YtjpkekmccbpclajPk8
import Derived.Test.YtjpkekmccbpclajPk1
import Derived.Laws.BitsLemmas
import Derived.OrdersHeld
import Derived.Test.YtjpkekmccbpclajPk3
import Derived.Test.YtjpkekmccbpclajPk0
/- Steps of the head of a region that makes new variables. -/
namespace Go.Proofs.Ytjpkekmccbpclaj
open Go.RowKit

theorem calm_val {P : Program} {W0 : World} {K : Act → Prop} {o : Oper} {a : Act} (v : Value) (hrun : ∀ w, Below W0.heap.size W0 w → (execOp a.eval o).run P w = .ok (.value v) w) (h : K (a.put o.dst v)) : Oper.calm P W0 o a K :=
  ⟨v, fun w hw => by unfold Oper.quietAt; rw [hrun w hw]; exact ⟨rfl, rfl⟩, h⟩
theorem calm_load23 {W0 : World} {K : Act → Prop} {o : Oper} {a : Act} (x : Operand) (b : Nat) (s : St) (ho : o.op = .load 23 x) (hx : a.eval x = .pointer (some ⟨b, 0, none⟩)) (hr : ∀ w, Below W0.heap.size W0 w → SB w b s)
    (h : K (a.put o.dst (.agg (sv s).toArray))) : Oper.calm Try.prog W0 o a K :=
  calm_val _ (fun w hw => by unfold execOp; simp only [ho, hx, Sem.run_bind, Sem.run_pure, Result.andThen_ok, load23 w b s (hr w hw).range]) h
theorem calm_loadC {W0 : World} {K : Act → Prop} {o : Oper} {a : Act} (x : Operand) (b : Nat) {c : Cr} (ho : o.op = .load 36 x) (hx : a.eval x = .pointer (some ⟨b, 0, none⟩)) (hr : ∀ w, Below W0.heap.size W0 w → CB w b c)
    (hn : K (a.put o.dst (.agg #[.int .i64 c.fl, .int .i64 c.tg, .int .i64 c.ti, .int .i64 c.d.ph, .int .i64 c.d.le, .int .i64 c.d.ru, .bool c.d.he, .bool c.fa]))) : Oper.calm Try.prog W0 o a K :=
  calm_val _ (fun w hw => by unfold execOp; simp only [ho, hx, Sem.run_bind, Sem.run_pure, Result.andThen_ok, loadC w b c (hr w hw)]) hn
theorem calm_load3 {W0 : World} {K : Act → Prop} {o : Oper} {a : Act} (x : Operand) (b k : Nat) {v : Value} (ho : o.op = .load 3 x) (hx : a.eval x = .pointer (some ⟨b, k, none⟩)) (hr : ∀ w, Below W0.heap.size W0 w → w.cell? ⟨b, k, none⟩ = some v)
    (h : K (a.put o.dst v)) : Oper.calm Try.prog W0 o a K :=
  calm_val _ (fun w hw => by unfold execOp; simp only [ho, hx, Sem.run_bind, Sem.run_pure, Result.andThen_ok, load3 w b k v (hr w hw)]) h
theorem loadMB (w : World) (b : Nat) (o : Bool) (g : Int) (h : MB w b o g) : (Instr.loadAt 40 (.pointer (some ⟨b, 0, none⟩))).run Try.prog w = .ok (.agg #[.bool o, .int .i64 g]) w := by
  simp only [Instr.loadAt, Instr.sureAddr, Sem.run_bind, Sem.run_pure, Result.andThen_ok, run_loadVar_row (P := Try.prog) w b 40 40 _ _ _ h Try.underlying40 rfl infoM]
theorem calm_loadMB {W0 : World} {K : Act → Prop} {o : Oper} {a : Act} (x : Operand) (b : Nat) {m : Bool} {g : Int} (ho : o.op = .load 40 x) (hx : a.eval x = .pointer (some ⟨b, 0, none⟩)) (hr : ∀ w, Below W0.heap.size W0 w → MB w b m g)
    (hn : K (a.put o.dst (.agg #[.bool m, .int .i64 g]))) : Oper.calm Try.prog W0 o a K :=
  calm_val _ (fun w hw => by unfold execOp; simp only [ho, hx, Sem.run_bind, Sem.run_pure, Result.andThen_ok, loadMB w b m g (hr w hw)]) hn
theorem quiet_loadMB {C : World → Prop} {K : Act → Prop} {o : Oper} {a : Act} (x : Operand) (b : Nat) {m : Bool} {g : Int} (ho : o.op = .load 40 x) (hx : a.eval x = .pointer (some ⟨b, 0, none⟩)) (hr : ∀ w, C w → MB w b m g)
    (hn : K (a.put o.dst (.agg #[.bool m, .int .i64 g]))) : o.quiet Try.prog a C K :=
  quiet_val _ (fun w hw => by unfold execOp; simp only [ho, hx, Sem.run_bind, Sem.run_pure, Result.andThen_ok, loadMB w b m g (hr w hw)]) hn
theorem wpList_loadMB {ops : Array Oper} {rest : List Oper} {op : Oper} {a : Act} {w : World} {Q : Exit → Act → World → Prop} (hgd : op.guard = none) (x : Operand) (ho : op.op = .load 40 x)
    (b : Nat) {m : Bool} {g : Int} (hx : a.eval x = .pointer (some ⟨b, 0, none⟩)) (h : MB w b m g)
    (hn : wpList Try.prog ops Q rest (a.put op.dst (.agg #[.bool m, .int .i64 g])) w) : wpList Try.prog ops Q (op :: rest) a w :=
  wpList_load_row hgd 40 x ho b hx _ _ _ _ h Try.underlying40 rfl infoM hn
/-- a new car -/
theorem zeroC {W : World} {D : Nat} (h : W.heap[D]? = some (.cells #[.int .i64 (CM.atF 0).fl, .int .i64 (CM.atF 0).tg, .int .i64 (CM.atF 0).ti, .int .i64 (CM.atF 0).d.ph, .int .i64 (CM.atF 0).d.le, .int .i64 (CM.atF 0).d.ru, .bool (CM.atF 0).d.he, .bool (CM.atF 0).fa] 36)) : CB W D (CM.atF 0) := h

end Go.Proofs.Ytjpkekmccbpclaj

/- Regions that draw their order, read and call, and then make rows or store: steps. -/
namespace Go.Proofs.Ytjpkekmccbpclaj
open Go.RowKit

/-- its head (the first n operations) reads and calls (callees may make memory); what is behind it waits for all of it -/
theorem wp_region_tailS {P : Program} {id : Nat} {Q : Exit → Act → World → Prop} {a : Act} {w : World} {l : List Oper} (n : Nat) (hm : P.follows .mixedOrders = true) (hB : shapeB .any l.toArray n n = true)
    (h : wpCalm P l.toArray w.drew (fun a' => ∀ w', Below w.drew.heap.size w.drew w' → wpList P l.toArray Q (l.drop n) a' w') (l.take n) a) :
    (Code.region id l.toArray true).wp P Q a w := by
  refine wp_region_new n n (fun _ => .cells #[] 0) hm hB (fun j h1 h2 => by omega) ?_
  refine wpCalm_mono (fun a' ha σ w' hs => ?_) _ a h
  match σ, hs with
  | [], hs => exact ha w' hs.bel
  | p :: r, hs =>
    exfalso
    have h1 := hs.some p (by simp)
    omega
theorem calm_loadDo {W0 : World} {K : Act → Prop} {o : Oper} {a : Act} (x : Operand) (g q : Nat) {d : Bool × Int} (ho : o.op = .load 40 x) (hx : a.eval x = .pointer (some ⟨g, q, none⟩)) (hr : ∀ w, Below W0.heap.size W0 w → w.rangeAt g q (dcv d))
    (hn : K (a.put o.dst (.agg #[.bool d.1, .int .i64 d.2]))) : Oper.calm Try.prog W0 o a K :=
  calm_val _ (fun w hw => by unfold execOp; simp only [ho, hx, Sem.run_bind, Sem.run_pure, Result.andThen_ok, loadDo w g q d (hr w hw)]) hn
theorem i64_and16 (n : Int) : bits .and .i64 n 65535 = n % 65536 := by
  have h : (BitVec.ofInt 64 65535).toNat = 2 ^ 16 - 1 := by decide
  have key : (BitVec.ofInt 64 n &&& BitVec.ofInt 64 65535).toNat = (n % ((2 ^ 64 : Nat) : Int)).toNat % 2 ^ 16 := by
    rw [BitVec.toNat_and, BitVec.toNat_ofInt, h, Nat.and_two_pow_sub_one_eq_mod]
  show IntKind.i64.wrap ((BitVec.ofInt 64 n &&& BitVec.ofInt 64 65535).toNat : Nat) = n % 65536
  rw [key, IntKind.wrap_i64]
  omega
theorem CB.rng {w : World} {b : Nat} {c : Cr} (hC : CB w b c) : w.rangeAt b 0 (ckv c) := fun j v hv => by
  have : w.cell? ⟨b, 0 + j, none⟩ = (#[.int .i64 c.fl, .int .i64 c.tg, .int .i64 c.ti, .int .i64 c.d.ph, .int .i64 c.d.le, .int .i64 c.d.ru, .bool c.d.he, .bool c.fa] : Array Value)[0 + j]? := by simp [World.cell?, show w.heap[b]? = _ from hC]
  rw [this, Nat.zero_add]
  simpa [ckv] using hv
theorem run_loadC' {a : Act} {o : Oper} {w : World} (x : Operand) (b : Nat) {c : Cr} (ho : o.op = .load 36 x) (hx : a.eval x = .pointer (some ⟨b, 0, none⟩)) (hr : CB w b c) : (execOp a.eval o).run Try.prog w = .ok (.value (.agg #[.int .i64 c.fl, .int .i64 c.tg, .int .i64 c.ti, .int .i64 c.d.ph, .int .i64 c.d.le, .int .i64 c.d.ru, .bool c.d.he, .bool c.fa])) w := by
  unfold execOp
  simp only [ho, hx, Sem.run_bind, Sem.run_pure, Result.andThen_ok, loadC w b c hr]
theorem run_load23' {a : Act} {o : Oper} {w : World} (x : Operand) (b : Nat) (s : St) (ho : o.op = .load 23 x) (hx : a.eval x = .pointer (some ⟨b, 0, none⟩)) (hr : SB w b s) : (execOp a.eval o).run Try.prog w = .ok (.value (.agg (sv s).toArray)) w := by
  unfold execOp
  simp only [ho, hx, Sem.run_bind, Sem.run_pure, Result.andThen_ok, load23 w b s hr.range]
theorem run_loadDo' {a : Act} {o : Oper} {w : World} (x : Operand) (g q : Nat) {d : Bool × Int} (ho : o.op = .load 40 x) (hx : a.eval x = .pointer (some ⟨g, q, none⟩)) (hr : w.rangeAt g q (dcv d)) : (execOp a.eval o).run Try.prog w = .ok (.value (.agg #[.bool d.1, .int .i64 d.2])) w := by
  unfold execOp
  simp only [ho, hx, Sem.run_bind, Sem.run_pure, Result.andThen_ok, loadDo w g q d hr]
theorem wp_nrm' {P : Program} {Q : Exit → Act → World → Prop} {c : Code} {a : Act} {w : World} (h : c.wp P (fun ex a w => ex = Exit.normal ∧ Q ex a w) a w) : c.wp P Q a w := wp_mono h (fun _ _ _ h => h.2)
/-- a car is put behind a row of cars, in whatever order -/
theorem wpOp_appCr {ops : Array Oper} {Q : Exit → Act → World → Prop} {i : Nat} {o : Oper} {K : Act → World → Prop} {a : Act} {w : World} (hi : ops[i]? = some o) (hw : Region.wanted o (yielded ops a.tmps) = true) (s x : Operand) (ho : o.op = .call { callee := .builtin .append, args := #[s, x], argTypes := #[24, 24] })
    (B : Nat) (v : Value) (l : List Cr) (hs : a.eval s = v) (hown : OG ckv 8 36 w B v l) (g c : Nat) (y : Cr) (hx : a.eval x = .slice (some ⟨g, 0, none⟩) 1 c) (hc : w.rangeAt g 0 (ckv y)) (h63 : l.length ≤ 1000000) (hB : B ≤ w.heap.size)
    (h : ∀ v' w', OG ckv 8 36 w' B v' (l ++ [y]) → w.grownBy w' v.ownBlock → K (a.put o.dst v') w') : wpOp Try.prog ops Q i K a w := by
  obtain ⟨i0, z, by', h1, h2, h3, h4, h5, h6⟩ := infoCrA
  obtain ⟨v', w', hrun, k1, k2, _⟩ := run_append_own (P := Try.prog) w B 24 o.type 36 i0 z 8 by' Try.underlying24 h1 h2 h3 h4 h5 (by decide) v l.length (rcs ckv l) hown ⟨g, 0, none⟩ 1 c (ckv y) rfl (fun j u hj => by rw [Addr.add_mid]; exact hc j u hj) (ckv_one y) (by unfold maxLen; omega) (by have : (l.length + 1) * by' ≤ 1000001 * 1000 := Nat.mul_le_mul (by omega) h6; omega) hB
  refine wpOp_val hi hw (v := v') (w' := w') ?_ (h v' w' ?_ k2)
  · unfold execOp
    simp only [ho, resolve, invoke, builtin, Sem.run_bind, Sem.run_pure, Result.andThen_ok, List.map_toArray, List.map_cons, List.map_nil, hs, hx, hrun]
  · unfold OG
    rw [List.length_append, rcs_append, show rcs ckv [y] = ckv y by simp [rcs]]
    exact k1

end Go.Proofs.Ytjpkekmccbpclaj

/- Calls that are looked at, one behind the other: what is held on the way. -/
namespace Go.Proofs.Ytjpkekmccbpclaj
open Go.RowKit Go.Shelf Go.ChangeMaps

/-- rows of calls, and a map of those that were seen, beside what a look at steps holds -/
structure Cs (s : St) (W wr : World) (vn vo vw : Value) (mb : Nat) (b : List Cr) (Mo Mw Mk : List Ca) : Prop where
  ns : Ns s W wr vn b
  oo : OG cav 4 43 wr (W.heap.size + 1) vo Mo
  ow : OG cav 4 43 wr (W.heap.size + 1) vw Mw
  ms : MS wr mb Mk
  mo : W.heap.size + 1 ≤ mb
  d1 : ∀ g, vw.ownBlock = some g → vo.ownBlock ≠ some g ∧ vn.ownBlock ≠ some g ∧ g ≠ mb
  d2 : ∀ g, vo.ownBlock = some g → vn.ownBlock ≠ some g ∧ g ≠ mb
  d3 : ∀ g, vn.ownBlock = some g → g ≠ mb
section
variable {s : St} {W wr w' : World} {vn vo vw : Value} {mb : Nat} {b : List Cr} {Mo Mw Mk : List Ca}
theorem KB.set2 {W : World} {b : Nat} {y : Ca} (H : KB W b y) (x : Int) : KB (W.setCell ⟨b, 2, none⟩ (.int .i64 x)) b ⟨y.fl, y.ca, x, y.up⟩ := heap_setCell_same W b 2 _ _ _ H
theorem KB.other {W : World} {b g j : Nat} {y : Ca} (H : KB W b y) (u : Value) (hn : b ≠ g) : KB (W.setCell ⟨g, j, none⟩ u) b y := (Below.heap_setCell W ⟨g, j, none⟩ u b hn).trans H
theorem Cs.next (h : Cs s W wr vn vo vw mb b Mo Mw Mk) (hb : Below wr.heap.size wr w') : Cs s W w' vn vo vw mb b Mo Mw Mk :=
  ⟨h.ns.next hb, h.oo.below' hb, h.ow.below' hb, h.ms.below' hb, h.mo, h.d1, h.d2, h.d3⟩
theorem Cs.lt (h : Cs s W wr vn vo vw mb b Mo Mw Mk) : ∀ g, (vw.ownBlock = some g ∨ vo.ownBlock = some g ∨ vn.ownBlock = some g ∨ g = mb) → g < wr.heap.size := fun g hg => by
  rcases hg with e | e | e | rfl
  · exact (h.ow.lt g e).2
  · exact (h.oo.lt g e).2
  · exact (h.ns.ow.lt g e).2
  · exact h.ms.lt
/-- below the site's block nothing turns -/
theorem Cs.be' (h : Cs s W wr vn vo vw mb b Mo Mw Mk) {o : Option Nat} (hg : wr.grownBy w' o) (ho : ∀ g, o = some g → W.heap.size + 1 ≤ g) : Below W.heap.size W w' :=
  have hlt := h.ns.lt
  h.ns.be.trans ⟨hg.os, hg.tape, hg.output, by have := hg.size; omega, fun k hk => hg.block k (by omega) (fun e => by have := ho k e.symm; omega)⟩
/-- a call is put behind those that waited -/
theorem Cs.addW (h : Cs s W wr vn vo vw mb b Mo Mw Mk) {v' : Value} {M' : List Ca} (hg : wr.grownBy w' vw.ownBlock) (ho : OG cav 4 43 w' (W.heap.size + 1) v' M') (hat : ∀ g, v'.ownBlock = some g → vw.ownBlock = some g ∨ g = wr.heap.size) : Cs s W w' vn vo v' mb b Mo M' Mk := by
  have hlt := h.ns.lt
  have kk : ∀ g, g < wr.heap.size → vw.ownBlock ≠ some g → w'.heap[g]? = wr.heap[g]? := fun g h1 h2 => hg.block g h1 (fun e => h2 e.symm)
  have fr : ∀ g, v'.ownBlock = some g → vw.ownBlock ≠ some g → g = wr.heap.size := fun g h1 h2 => (hat g h1).resolve_left h2
  refine ⟨⟨(kk _ (by omega) fun e => by have := (h.ow.lt _ e).1; omega).trans h.ns.sb, h.ns.ow.keep fun g e => kk g (h.lt g (.inr (.inr (.inl e)))) (fun e2 => (h.d1 g e2).2.1 e), h.be' hg fun g e => (h.ow.lt g e).1⟩, h.oo.keep fun g e => kk g (h.lt g (.inr (.inl e))) (fun e2 => (h.d1 g e2).1 e), ho, h.ms.keep (kk mb h.ms.lt fun e => (h.d1 mb e).2.2 rfl), h.mo, fun g e => ?_, h.d2, h.d3⟩
  by_cases e2 : vw.ownBlock = some g
  · exact h.d1 g e2
  · have e3 := fr g e e2
    exact ⟨fun e4 => by have := h.lt g (.inr (.inl e4)); omega, fun e4 => by have := h.lt g (.inr (.inr (.inl e4))); omega, fun e4 => by have := h.lt g (.inr (.inr (.inr e4))); omega⟩
/-- an older one is put behind those that wait -/
theorem Cs.addO (h : Cs s W wr vn vo vw mb b Mo Mw Mk) {v' : Value} {M' : List Ca} (hg : wr.grownBy w' vo.ownBlock) (ho : OG cav 4 43 w' (W.heap.size + 1) v' M') (hat : ∀ g, v'.ownBlock = some g → vo.ownBlock = some g ∨ g = wr.heap.size) : Cs s W w' vn v' vw mb b M' Mw Mk := by
  have hlt := h.ns.lt
  have kk : ∀ g, g < wr.heap.size → vo.ownBlock ≠ some g → w'.heap[g]? = wr.heap[g]? := fun g h1 h2 => hg.block g h1 (fun e => h2 e.symm)
  have fr : ∀ g, v'.ownBlock = some g → vo.ownBlock ≠ some g → g = wr.heap.size := fun g h1 h2 => (hat g h1).resolve_left h2
  refine ⟨⟨(kk _ (by omega) fun e => by have := (h.oo.lt _ e).1; omega).trans h.ns.sb, h.ns.ow.keep fun g e => kk g (h.lt g (.inr (.inr (.inl e)))) (fun e2 => (h.d2 g e2).1 e), h.be' hg fun g e => (h.oo.lt g e).1⟩, ho, h.ow.keep fun g e => kk g (h.lt g (.inl e)) (fun e2 => (h.d1 g e).1 e2), h.ms.keep (kk mb h.ms.lt fun e => (h.d2 mb e).2 rfl), h.mo, fun g e => ⟨fun e2 => ?_, (h.d1 g e).2⟩, fun g e => ?_, h.d3⟩
  · by_cases e3 : vo.ownBlock = some g
    · exact (h.d1 g e).1 e3
    · have := fr g e2 e3
      have := h.lt g (.inl e)
      omega
  · by_cases e2 : vo.ownBlock = some g
    · exact h.d2 g e2
    · have e3 := fr g e e2
      exact ⟨fun e4 => by have := h.lt g (.inr (.inr (.inl e4))); omega, fun e4 => by have := h.lt g (.inr (.inr (.inr e4))); omega⟩
/-- a call is noted as seen -/
theorem Cs.lay (h : Cs s W wr vn vo vw mb b Mo Mw Mk) {c : Ca} (hn : Mk.any (ceq c) = false) : ∃ w', (Instr.mapUpdate 41 (.map (some mb)) (.agg #[.int .i64 c.fl, .int .i64 c.ca, .int .i64 c.ag, .bool c.up]) (.bool true)).run Try.prog wr = .ok () w' ∧ Cs s W w' vn vo vw mb b Mo Mw (Mk ++ [c]) ∧ wr.heap.size = w'.heap.size ∧ ∀ k, k ≠ mb → w'.heap[k]? = wr.heap[k]? := by
  obtain ⟨o, h1, h2, h3⟩ := h.ms.lay hn
  have hmo := h.mo
  refine ⟨setBlock wr mb o, h1, ⟨⟨(h3 _ (by omega)).trans h.ns.sb, h.ns.ow.keep fun g e => h3 g (h.d3 g e), h.ns.be.trans ⟨rfl, rfl, rfl, by simp [setBlock], fun k hk => h3 k (by omega)⟩⟩, h.oo.keep fun g e => h3 g (h.d2 g e).2, h.ow.keep fun g e => h3 g (h.d1 g e).2.2, h2, h.mo, h.d1, h.d2, h.d3⟩, by simp [setBlock], h3⟩
/-- a block that no row has is written -/
theorem Cs.put (h : Cs s W wr vn vo vw mb b Mo Mw Mk) {g j : Nat} (u : Value) (hg : ∀ k, (vw.ownBlock = some k ∨ vo.ownBlock = some k ∨ vn.ownBlock = some k ∨ k = mb) → k ≠ g) (h1 : W.heap.size + 1 ≤ g) : Cs s W (wr.setCell ⟨g, j, none⟩ u) vn vo vw mb b Mo Mw Mk := by
  have h3 : ∀ k, k ≠ g → (wr.setCell ⟨g, j, none⟩ u).heap[k]? = wr.heap[k]? := fun k hk => Below.heap_setCell wr ⟨g, j, none⟩ u k hk
  exact ⟨⟨(h3 _ (by omega)).trans h.ns.sb, h.ns.ow.keep fun k e => h3 k (hg k (.inr (.inr (.inl e)))), h.ns.be.setCell (by show _ ≤ g; omega) _⟩, h.oo.keep fun k e => h3 k (hg k (.inr (.inl e))), h.ow.keep fun k e => h3 k (hg k (.inl e)), h.ms.keep (h3 mb (hg mb (.inr (.inr (.inr rfl))))), h.mo, h.d1, h.d2, h.d3⟩
/-- none yet -/
theorem Cs.new (h : Ns s W wr vn b) : Cs s W (((wr.alloc (.cells #[] 43)).alloc (.map #[] 0)).alloc (.cells #[] 43)) vn (.slice (some ⟨wr.heap.size, 0, none⟩) 0 0) (.slice (some ⟨wr.heap.size + 1 + 1, 0, none⟩) 0 0) (wr.heap.size + 1) b [] [] [] := by
  have hlt := h.lt
  have e1 : (wr.alloc (.cells #[] 43)).heap.size = wr.heap.size + 1 := by simp
  have e2 : ((wr.alloc (.cells #[] 43)).alloc (.map #[] 0)).heap.size = wr.heap.size + 1 + 1 := by simp
  have a1 := (Below.refl wr.heap.size wr).alloc (Nat.le_refl _) (.cells #[] 43)
  have a2 := (Below.refl _ (wr.alloc (.cells #[] 43))).alloc (Nat.le_refl _) (.map #[] 0)
  have a3 := (Below.refl _ ((wr.alloc (.cells #[] 43)).alloc (.map #[] 0))).alloc (Nat.le_refl _) (.cells #[] 43)
  have o1 := OG.nil (t := 43) (B := W.heap.size + 1) cav 4 wr (by omega)
  have o3 := OG.nil (t := 43) (B := W.heap.size + 1) cav 4 ((wr.alloc (.cells #[] 43)).alloc (.map #[] 0)) (by rw [e2]; omega)
  have m2 := MS.new (wr.alloc (.cells #[] 43))
  rw [e1] at m2
  rw [e2] at o3
  have hn : ∀ g, vn.ownBlock = some g → g < wr.heap.size := fun g e => (h.ow.lt g e).2
  have os : ∀ x g : Nat, (Value.slice (some ⟨x, 0, none⟩) 0 0).ownBlock = some g → x = g := fun x g e => by simpa [Value.ownBlock] using e
  refine ⟨((h.next a1).next a2).next a3, (o1.below' a2).below' a3, o3, m2.below' a3, by omega, fun g e => ?_, fun g e => ?_, fun g e => by have := hn g e; omega⟩
  · have := os _ _ e
    exact ⟨fun e2 => by have := os _ _ e2; omega, fun e2 => by have := hn g e2; omega, by omega⟩
  · have := os _ _ e
    exact ⟨fun e2 => by have := hn g e2; omega, by omega⟩
end

theorem setCells_other {b k : Nat} (hk : k ≠ b) : ∀ (vs : List Value) (o : Nat) (w : World), (w.setCells b o vs).heap[k]? = w.heap[k]?
  | [], _, _ => rfl
  | v :: r, o, w => (setCells_other hk r (o + 1) (w.setCell ⟨b, o, none⟩ v)).trans (Below.heap_setCell w ⟨b, o, none⟩ v k hk)
theorem setCells_below {B b : Nat} {W : World} (hb : B ≤ b) : ∀ (vs : List Value) (o : Nat) (w : World), Below B W w → Below B W (w.setCells b o vs)
  | [], _, _, h => h
  | v :: r, o, w, h => setCells_below hb r (o + 1) (w.setCell ⟨b, o, none⟩ v) (h.setCell hb v)
theorem setCells_size (b : Nat) : ∀ (vs : List Value) (o : Nat) (w : World), (w.setCells b o vs).heap.size = w.heap.size
  | [], _, _ => rfl
  | v :: r, o, w => (setCells_size b r (o + 1) (w.setCell ⟨b, o, none⟩ v)).trans (by simp [World.setCell])
section
variable {W : World} {B g n cap j : Nat} {t : TypeId} {l : List Cr}
theorem OG.there (h : OG ckv 8 t W B (.slice (some ⟨g, 0, none⟩) n cap) l) (hn : l.length = n) (hj : j < n) : W.there g (j * 8) 8 := fun i hi => by
  obtain ⟨x, hx⟩ : ∃ x, l[j]? = some x := ⟨_, List.getElem?_eq_getElem (by omega)⟩
  have hr := h.at ckv_len hx
  subst hn
  refine ⟨?_, World.ownsRow.frozenAt h _⟩
  obtain ⟨u, hu⟩ : ∃ u, (ckv x)[i]? = some u := ⟨_, List.getElem?_eq_getElem (by rw [ckv_len]; exact hi)⟩
  rw [hr i u hu]
  rfl
theorem OG.put (h : OG ckv 8 t W B (.slice (some ⟨g, 0, none⟩) n cap) l) (hn : l.length = n) (hj : j < n) (y : Cr) : RK (fun _ => True) (W.setCells g (j * 8) (ckv y)) (.slice (some ⟨g, 0, none⟩) n cap) (l.set j y) := by
  have hth := h.there hn hj
  have hrk := h.rk (D := fun _ => True) (fun _ _ => trivial)
  obtain ⟨_, cap', e, hc, _⟩ := hrk
  cases e
  have hg : g < W.heap.size := (h.lt g rfl).2
  refine ⟨_, cap, by rw [List.length_set], by rw [List.length_set]; exact hc, .inr ⟨g, 0, rfl, trivial, by rw [setCells_size]; exact hg, fun i z hz => ?_⟩⟩
  by_cases e : i = j
  · subst e
    rw [List.getElem?_set_self (by omega)] at hz
    cases hz
    rw [Nat.zero_add]
    exact World.rangeAt_setCells_same W g (i * 8) (ckv y) (by rw [ckv_len]; exact hth)
  · rw [List.getElem?_set_ne (fun e2 => e e2.symm)] at hz
    have hr := h.at ckv_len hz
    rw [Nat.zero_add]
    exact World.rangeAt_setCells_apart hr g (j * 8) (ckv y) (.inr (by rw [ckv_len, ckv_len]; omega))
end

end Go.Proofs.Ytjpkekmccbpclaj

/- A tick of a car, as the program has it. -/
namespace Go.Proofs.Ytjpkekmccbpclaj
open Go.RowKit

/-- the blocks of a tick: the site, the car, the command, the result -/
structure Bk (w0 W : World) (S : Nat) (s : St) (c : Cr) (o : Bool) (g : Int) : Prop where
  bel : Below w0.heap.size w0 W
  sb : SB W S s
  cb : CB W (S + 1) c
  mb : MB W (S + 1 + 1) o g
  eb : CB W (S + 1 + 1 + 1) (CM.atF 0)
theorem Bk.new (w : World) (s : St) (c : Cr) (o : Bool) (g : Int) :
    Bk w ((((w.alloc (.cells (sv s).toArray 23)).alloc (.cells #[.int .i64 c.fl, .int .i64 c.tg, .int .i64 c.ti, .int .i64 c.d.ph, .int .i64 c.d.le, .int .i64 c.d.ru, .bool c.d.he, .bool c.fa] 36)).alloc (.cells #[.bool o, .int .i64 g] 40)).alloc (.cells #[.int .i64 0, .int .i64 0, .int .i64 0, .int .i64 0, .int .i64 0, .int .i64 0, .bool false, .bool false] 36)) w.heap.size s c o g :=
  ⟨((((Below.refl _ w).alloc (Nat.le_refl _) _).alloc (by simp) _).alloc (by simp; omega) _).alloc (by simp; omega) _, (((SB.new w s).alloc _).alloc _).alloc _, ((CB.new' _ c (by simp)).alloc _).alloc _, (MB.new' _ o g (by simp)).alloc _, CB.new' _ (CM.atF 0) (by simp)⟩
theorem Bk.keep {w0 W : World} {S : Nat} {s : St} {c : Cr} {o : Bool} {g : Int} {f : FuncId} {args : Array Value} {R : Ending → Prop} (h : Bk w0 W S s c o g)
    (hc : Calls Try.prog f args W fun e w' => R e ∧ Below W.heap.size W w') : Calls Try.prog f args W fun e w' => R e ∧ Bk w0 w' S s c o g :=
  hc.mono fun _ _ hh => ⟨hh.1, below_class h.bel hh.2, h.sb.below' hh.2, h.cb.below' hh.2, h.mb.below' hh.2, h.eb.below' hh.2⟩

end Go.Proofs.Ytjpkekmccbpclaj

/- A tick of a door, as the document's answer has it. -/
namespace Go.Proofs.Ytjpkekmccbpclaj
open Go.RowKit

theorem ret_dv {p l r : Int} {h : Bool} {d : Dr} (e1 : p = d.ph) (e2 : l = d.le) (e3 : r = d.ru) (e4 : h = d.he) : Ending.returned (.agg #[.int .i64 p, .int .i64 l, .int .i64 r, .bool h]) = .returned (dv d) := by rw [e1, e2, e3, e4]; rfl

set_option maxHeartbeats 4000000 in
theorem rstep_of (s : St) (p l r : Int) (h o b : Bool) (w : World) (hp : p = 0 ∨ p = 1 ∨ p = 2 ∨ p = 3) (l1 : 0 ≤ l) (l2 : l ≤ 1000) (r1 : 0 ≤ r) (r2 : r ≤ 10) (HL : Hid (p = 0 ∨ 1 ≤ l)) :
    Calls Try.prog 23 #[.agg (sv s).toArray, .agg #[.int .i64 p, .int .i64 l, .int .i64 r, .bool h], .bool o, .bool b] w fun e w' => e = .returned (dv (DM.step s ⟨p, l, r, h⟩ o b)) ∧ Below w.heap.size w w' := by
  have e5 : (sv s)[5]? = some (.int .i64 s.opn) := rfl
  have e6 : (sv s)[6]? = some (.int .i64 s.wai) := rfl
  have e7 : (sv s)[7]? = some (.int .i64 s.clo) := rfl
  have e8 : (sv s)[8]? = some (.int .i64 s.nud) := rfl
  rcases hp with rfl | rfl | rfl | rfl
  all_goals
    go_enter Try.func23, Try.ntmps23
    go_wp2
  all_goals
    refine bodyPost_ret (by simp [results, Try.results23, go_sem]; rfl) rfl ?_
    refine ⟨?_, ((((Below.refl _ w).alloc (Nat.le_refl _) _).alloc (by simp) _).alloc (by simp; omega) _)⟩
    have HL' := HL.out
    clear e5 e6 e7 e8 HL
  all_goals
    by_cases hn : r < s.nud <;> by_cases hl : 1 < l
  all_goals first
    | (exfalso; simp only [beq_iff_eq, beq_eq_false_iff_ne, ne_eq] at *; omega)
    | (cases b <;> cases h <;> first | (exfalso; simp_all; done) | (simp [dv, DM.step, DM.on, DM.hd, DM.ps, DM.en, DM.tk, DM.z, hn, hl]; done) | (simp_all [dv, DM.step, DM.on, DM.hd, DM.ps, DM.en, DM.tk, DM.z]; done))

theorem rstep_any (s : St) (R : SM.Rt s) (d : Dr) (hd : DM.Rd s d) (o b : Bool) (w : World) :
    Calls Try.prog 23 #[.agg (sv s).toArray, dv d, .bool o, .bool b] w fun e w' => e = .returned (dv (DM.step s d o b)) ∧ Below w.heap.size w w' := by
  rcases hd with rfl | hd
  · exact rstep_of s 0 0 0 false o b w (by omega) (by omega) (by omega) (by omega) (by omega) (Hid.intro' (by omega))
  · have := hd.l1
    have := hd.ph
    exact rstep_of s d.ph d.le d.ru d.he o b w (by omega) (by omega) (hd.le1000 R) hd.r1 (Int.le_trans hd.r2 R.nud2) (Hid.intro' (by omega))

end Go.Proofs.Ytjpkekmccbpclaj

/- A tick of a car, as the document's answer has it. -/
namespace Go.Proofs.Ytjpkekmccbpclaj
open Go.RowKit

set_option maxHeartbeats 1000000 in
theorem rcstep_moves (s : St) (c : Cr) (o : Bool) (g : Int) (b : Bool) (h1 : 1 ≤ c.ti) (h2 : c.ti ≤ 65000) (w : World) :
    Calls Try.prog 12 #[.agg (sv s).toArray, .agg #[.int .i64 c.fl, .int .i64 c.tg, .int .i64 c.ti, .int .i64 c.d.ph, .int .i64 c.d.le, .int .i64 c.d.ru, .bool c.d.he, .bool c.fa], .agg #[.bool o, .int .i64 g], .bool b] w fun e w' => e = .returned (cv (CM.ride c)) ∧ Below w.heap.size w w' := by
  obtain ⟨f, t, k, d, x⟩ := c
  simp only at h1 h2
  have h0 : 0 < k := by omega
  by_cases hk : k = 1
  · subst hk
    clear h1 h2 h0
    go_enter Try.func12, Try.ntmps12
    go_wp2
    refine bodyPost_ret (by simp [results, Try.results12, go_sem]; rfl) rfl ?_
    exact ⟨rfl, ((((Below.refl _ w).alloc (Nat.le_refl _) _).alloc (by simp) _).alloc (by simp; omega) _).alloc (by simp; omega) _⟩
  · have hq : (k - 1 == 0) = false := by simp; omega
    have HK := Hid.intro' hk
    clear hk
    go_enter Try.func12, Try.ntmps12
    go_wp2
    refine bodyPost_ret (by simp [results, Try.results12, go_sem]; rfl) rfl ?_
    refine ⟨?_, ((((Below.refl _ w).alloc (Nat.le_refl _) _).alloc (by simp) _).alloc (by simp; omega) _).alloc (by simp; omega) _⟩
    unfold CM.ride
    rw [if_neg HK.out]
    rfl

set_option maxHeartbeats 1000000 in
theorem rcstep_door (s : St) (c : Cr) (o : Bool) (g : Int) (b : Bool) (R : SM.Rt s) (hd : DM.Rd s c.d) (hm : c.ti = 0) (hp : c.d.ph ≠ 0) (w : World) :
    Calls Try.prog 12 #[.agg (sv s).toArray, .agg #[.int .i64 c.fl, .int .i64 c.tg, .int .i64 c.ti, .int .i64 c.d.ph, .int .i64 c.d.le, .int .i64 c.d.ru, .bool c.d.he, .bool c.fa], .agg #[.bool o, .int .i64 g], .bool b] w fun e w' => e = .returned (cv ⟨c.fl, c.tg, c.ti, DM.step s c.d o b, c.fa⟩) ∧ Below w.heap.size w w' := by
  have H2 := Hid.intro' (Bk.new w s c o g)
  have hm' : decide (0 < c.ti) = false := by simp; omega
  have hp' : (c.d.ph != 0) = true := by simpa using hp
  clear hm hp
  go_enter Try.func12, Try.ntmps12
  go_wp2_with (first | (refine wpList_load23 rfl _ rfl w.heap.size s rfl H2.out.sb ?_) | (refine wpList_loadM rfl _ rfl (w.heap.size + 1) rfl H2.out.cb ?_))
  refine (H2.out.keep (rstep_any s R c.d hd o b _)).mono ?_
  rintro e W3 ⟨rfl, hk⟩
  have H3 := Hid.intro' hk
  clear hk H2 hd hm' hp'
  generalize hgen : DM.step s c.d o b = d'
  have HG := Hid.intro' hgen
  clear hgen
  simp only [dv]
  go_wp2_with (refine wpList_storeM rfl _ _ rfl (w.heap.size + 1) rfl rfl H3.out.cb ?_)
  intro W4 hu hc
  have HB4 := Hid.intro' (hu.below H3.out.bel (by omega))
  have HE4 := Hid.intro' (hu.cb H3.out.eb (by omega))
  have HC4 := Hid.intro' hc
  clear hu hc H3
  go_wp2_with (first | (refine wpList_loadC rfl _ rfl (w.heap.size + 1) rfl HC4.out ?_) | (refine wpList_storeC (c' := ⟨c.fl, c.tg, c.ti, d', c.fa⟩) rfl _ _ rfl (w.heap.size + 1 + 1 + 1) rfl rfl HE4.out ?_))
  intro W5 hu hc
  go_wp2
  exact bodyPost_ret (retC Try.results12 rfl hc) rfl ⟨by rw [HG.out]; rfl, hu.below HB4.out (by omega)⟩

set_option maxHeartbeats 1000000 in
theorem rcstep_fault (s : St) (c : Cr) (o : Bool) (g : Int) (b : Bool) (hm : c.ti = 0) (hp : c.d.ph = 0) (hf : c.fa = true) (w : World) :
    Calls Try.prog 12 #[.agg (sv s).toArray, .agg #[.int .i64 c.fl, .int .i64 c.tg, .int .i64 c.ti, .int .i64 c.d.ph, .int .i64 c.d.le, .int .i64 c.d.ru, .bool c.d.he, .bool c.fa], .agg #[.bool o, .int .i64 g], .bool b] w fun e w' => e = .returned (cv c) ∧ Below w.heap.size w w' := by
  obtain ⟨f, t, k, d, x⟩ := c
  obtain rfl : k = 0 := hm
  obtain rfl : x = true := hf
  have hp' : (d.ph != 0) = false := by simpa using hp
  clear hp
  go_enter Try.func12, Try.ntmps12
  go_wp2
  refine bodyPost_ret (by simp [results, Try.results12, go_sem]; rfl) rfl ?_
  exact ⟨rfl, ((((Below.refl _ w).alloc (Nat.le_refl _) _).alloc (by simp) _).alloc (by simp; omega) _).alloc (by simp; omega) _⟩

set_option maxHeartbeats 1000000 in
theorem rcstep_opens (s : St) (c : Cr) (g : Int) (b : Bool) (R : SM.Rt s) (hd : DM.Rd s c.d) (hm : c.ti = 0) (hp : c.d.ph = 0) (hf : c.fa = false) (w : World) :
    Calls Try.prog 12 #[.agg (sv s).toArray, .agg #[.int .i64 c.fl, .int .i64 c.tg, .int .i64 c.ti, .int .i64 c.d.ph, .int .i64 c.d.le, .int .i64 c.d.ru, .bool c.d.he, .bool c.fa], .agg #[.bool true, .int .i64 g], .bool b] w fun e w' => e = .returned (cv ⟨c.fl, c.tg, c.ti, DM.step s c.d true b, c.fa⟩) ∧ Below w.heap.size w w' := by
  obtain ⟨f, t, k, d, x⟩ := c
  obtain rfl : k = 0 := hm
  obtain rfl : x = false := hf
  have hp' : (d.ph != 0) = false := by simpa using hp
  have H2 := Hid.intro' (Bk.new w s ⟨f, t, 0, d, false⟩ true g)
  clear hp
  go_enter Try.func12, Try.ntmps12
  go_wp2_with (first | (refine wpList_load23 rfl _ rfl w.heap.size s rfl H2.out.sb ?_) | (refine wpList_loadM rfl _ rfl (w.heap.size + 1) rfl H2.out.cb ?_))
  refine (H2.out.keep (rstep_any s R d hd true b _)).mono ?_
  rintro e W3 ⟨rfl, hk⟩
  have H3 := Hid.intro' hk
  clear hk H2 hd hp'
  generalize hgen : DM.step s d true b = d'
  have HG := Hid.intro' hgen
  clear hgen
  simp only [dv]
  go_wp2_with (refine wpList_storeM rfl _ _ rfl (w.heap.size + 1) rfl rfl H3.out.cb ?_)
  intro W4 hu hc
  have HB4 := Hid.intro' (hu.below H3.out.bel (by omega))
  have HE4 := Hid.intro' (hu.cb H3.out.eb (by omega))
  have HC4 := Hid.intro' hc
  clear hu hc H3
  go_wp2_with (first | (refine wpList_loadC rfl _ rfl (w.heap.size + 1) rfl HC4.out ?_) | (refine wpList_storeC (c' := ⟨f, t, 0, d', false⟩) rfl _ _ rfl (w.heap.size + 1 + 1 + 1) rfl rfl HE4.out ?_))
  intro W5 hu hc
  go_wp2
  exact bodyPost_ret (retC Try.results12 rfl hc) rfl ⟨by rw [HG.out]; rfl, hu.below HB4.out (by omega)⟩

set_option maxHeartbeats 2000000 in
theorem rcstep_stays (s : St) (c : Cr) (g : Int) (b : Bool) (hm : c.ti = 0) (hp : c.d.ph = 0) (hf : c.fa = false) (hg : ¬ (g ≠ c.fl ∧ CM.has s g = true)) (w : World) :
    Calls Try.prog 12 #[.agg (sv s).toArray, .agg #[.int .i64 c.fl, .int .i64 c.tg, .int .i64 c.ti, .int .i64 c.d.ph, .int .i64 c.d.le, .int .i64 c.d.ru, .bool c.d.he, .bool c.fa], .agg #[.bool false, .int .i64 g], .bool b] w fun e w' => e = .returned (cv c) ∧ Below w.heap.size w w' := by
  obtain ⟨f, t, k, d, x⟩ := c
  obtain rfl : k = 0 := hm
  obtain rfl : x = false := hf
  have e0 : (sv s)[0]? = some (.int .i64 s.fl) := rfl
  have hp' : (d.ph != 0) = false := by simpa using hp
  have HG := Hid.intro' hg
  clear hp hg
  rcases Bool.eq_false_or_eq_true (decide (0 ≤ g)) with k1 | k1
  · rcases Bool.eq_false_or_eq_true (decide (g < s.fl)) with k2 | k2
    · have k3 : (g != f) = false := by
        have := HG.out
        rw [has_iff] at this
        simp only [decide_eq_true_eq] at k1 k2
        simp only [bne_eq_false_iff_eq]
        exact Classical.byContradiction fun h => this ⟨h, k1, k2⟩
      go_enter Try.func12, Try.ntmps12
      go_wp2
      refine bodyPost_ret (by simp [results, Try.results12, go_sem]; rfl) rfl ?_
      exact ⟨rfl, ((((Below.refl _ w).alloc (Nat.le_refl _) _).alloc (by simp) _).alloc (by simp; omega) _).alloc (by simp; omega) _⟩
    · go_enter Try.func12, Try.ntmps12
      go_wp2
      refine bodyPost_ret (by simp [results, Try.results12, go_sem]; rfl) rfl ?_
      exact ⟨rfl, ((((Below.refl _ w).alloc (Nat.le_refl _) _).alloc (by simp) _).alloc (by simp; omega) _).alloc (by simp; omega) _⟩
  · go_enter Try.func12, Try.ntmps12
    go_wp2
    refine bodyPost_ret (by simp [results, Try.results12, go_sem]; rfl) rfl ?_
    exact ⟨rfl, ((((Below.refl _ w).alloc (Nat.le_refl _) _).alloc (by simp) _).alloc (by simp; omega) _).alloc (by simp; omega) _⟩

set_option maxHeartbeats 2000000 in
theorem rcstep_goes (s : St) (c : Cr) (g : Int) (b : Bool) (R : SM.Rt s) (hm : c.ti = 0) (hp : c.d.ph = 0) (hf : c.fa = false) (hg : g ≠ c.fl) (hh : CM.has s g = true) (w : World) :
    Calls Try.prog 12 #[.agg (sv s).toArray, .agg #[.int .i64 c.fl, .int .i64 c.tg, .int .i64 c.ti, .int .i64 c.d.ph, .int .i64 c.d.le, .int .i64 c.d.ru, .bool c.d.he, .bool c.fa], .agg #[.bool false, .int .i64 g], .bool b] w fun e w' => e = .returned (cv ⟨c.fl, g, SM.trav s c.fl g, c.d, c.fa⟩) ∧ Below w.heap.size w w' := by
  obtain ⟨f, t, k, d, x⟩ := c
  obtain rfl : k = 0 := hm
  obtain rfl : x = false := hf
  have H2 := Hid.intro' (Bk.new w s ⟨f, g, 0, d, false⟩ false g)
  have e0 : (sv s)[0]? = some (.int .i64 s.fl) := rfl
  have hp' : (d.ph != 0) = false := by simpa using hp
  have k3 : (g != f) = true := by simpa using hg
  have k1 : decide (0 ≤ g) = true := by rw [has_iff] at hh; simp; omega
  have k2 : decide (g < s.fl) = true := by rw [has_iff] at hh; simp; omega
  clear hp hg hh
  go_enter Try.func12, Try.ntmps12
  go_wp2_with (refine wpList_load23 rfl _ rfl w.heap.size s rfl H2.out.sb ?_)
  clear e0 hp' k1 k2 k3
  refine (H2.out.keep (rtravel_any s R f g _)).mono ?_
  rintro e W3 ⟨rfl, hk⟩
  have H3 := Hid.intro' hk
  clear hk H2
  have d2 := H3.out.cb.c2
  have f2 := H3.out.cb.fr 2
  have HB4 := Hid.intro' ((Upd.set H3.out.cb 2 (.int .i64 (SM.trav s f g))).below H3.out.bel (by omega))
  have HE4 := Hid.intro' ((Upd.set H3.out.cb 2 (.int .i64 (SM.trav s f g))).cb H3.out.eb (by omega))
  have HC4 := Hid.intro' (H3.out.cb.set2 (SM.trav s f g))
  clear H3
  go_wp2_with (first | (refine wpList_loadC rfl _ rfl (w.heap.size + 1) rfl HC4.out ?_) | (refine wpList_storeC (c' := ⟨f, g, SM.trav s f g, d, false⟩) rfl _ _ rfl (w.heap.size + 1 + 1 + 1) rfl rfl HE4.out ?_))
  intro W5 hu hc
  clear d2 f2
  go_wp2
  exact bodyPost_ret (retC Try.results12 rfl hc) rfl ⟨rfl, hu.below HB4.out (by omega)⟩

/-- a tick of a right car -/
theorem rcstep_any (s : St) (c : Cr) (h : CM.Rc s c) (o : Bool) (g : Int) (b : Bool) (w : World) :
    Calls Try.prog 12 #[.agg (sv s).toArray, .agg #[.int .i64 c.fl, .int .i64 c.tg, .int .i64 c.ti, .int .i64 c.d.ph, .int .i64 c.d.le, .int .i64 c.d.ru, .bool c.d.he, .bool c.fa], .agg #[.bool o, .int .i64 g], .bool b] w fun e w' => e = .returned (cv (CM.step s c o g b)) ∧ Below w.heap.size w w' := by
  unfold CM.step
  split
  · rename_i hm
    obtain ⟨_, m2, _, _⟩ := h.mo hm
    exact rcstep_moves s c o g b m2 h.ti_bd.2 w
  · rename_i hm
    have hm' : c.ti = 0 := by omega
    split
    · rename_i hp
      exact rcstep_door s c o g b h.rs h.rd hm' hp w
    · rename_i hp
      have hp' : c.d.ph = 0 := by omega
      split
      · rename_i hf
        exact rcstep_fault s c o g b hm' hp' hf w
      · rename_i hf
        have hf' : c.fa = false := by simpa using hf
        split
        · rename_i ho
          subst ho
          exact rcstep_opens s c g b h.rs h.rd hm' hp' hf' w
        · rename_i ho
          obtain rfl : o = false := by simpa using ho
          split
          · rename_i hg
            exact rcstep_goes s c g b h.rs hm' hp' hf' hg.1 hg.2 w
          · rename_i hg
            exact rcstep_stays s c g b hm' hp' hf' hg w

end Go.Proofs.Ytjpkekmccbpclaj
