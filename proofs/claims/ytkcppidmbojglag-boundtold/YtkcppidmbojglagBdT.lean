/- A beginning on its way, in memory. -/
import Derived.Test.YtkcppidmbojglagBdN
import Derived.Test.YtkcppidmbojglagBdQ
import Derived.Test.YtkcppidmbojglagRtQ
import Derived.Test.YtkcppidmbojglagNewT
namespace Go.Proofs.Ytkcppidmbojglag
open Go.RowKit

/-- the cells of a beginning -/
def bc (s : St) (vc vw : Value) (eb n mb : Nat) (co : Int) : List Value := nv s vc vw ++ [.slice (some ⟨eb, 0, none⟩) n n, .map (some mb), .int .i64 co]
/-- the cells of a row of stops -/
def tcs : List RM.Sp → List Value
  | [] => []
  | a :: l => .int .i64 a.fl :: .int .i64 a.he :: .int .i64 a.le :: tcs l
theorem tcs_length : ∀ (l : List RM.Sp), (tcs l).length = 3 * l.length
  | [] => rfl
  | a :: l => by rw [tcs, List.length_cons, List.length_cons, List.length_cons, tcs_length l, List.length_cons]; omega
theorem tcs_get : ∀ {l : List RM.Sp} {j : Nat} {a : RM.Sp}, l[j]? = some a → (tcs l)[j * 3]? = some (.int .i64 a.fl) ∧ (tcs l)[j * 3 + 1]? = some (.int .i64 a.he) ∧ (tcs l)[j * 3 + 2]? = some (.int .i64 a.le)
  | [], _, _, h => by simp at h
  | a :: l, 0, _, h => by cases h; exact ⟨rfl, rfl, rfl⟩
  | b :: l, j + 1, a, h => by
    have := tcs_get (l := l) (j := j) (a := a) (by simpa using h)
    rw [show (j + 1) * 3 = j * 3 + 1 + 1 + 1 by omega]
    exact this
theorem tcs_set : ∀ (l : List RM.Sp) (j : Nat) (a : RM.Sp), (((tcs l).set (j * 3) (.int .i64 a.fl)).set (j * 3 + 1) (.int .i64 a.he)).set (j * 3 + 2) (.int .i64 a.le) = tcs (l.set j a)
  | [], _, _ => rfl
  | b :: l, 0, a => rfl
  | b :: l, j + 1, a => by
    have := tcs_set l j a
    rw [show (j + 1) * 3 = j * 3 + 1 + 1 + 1 by omega, List.set_cons_succ, tcs, tcs, ← this]; rfl
/-- a beginning: its block b, its stops eb, its wants mb -/
structure Bg (W : World) (b eb mb : Nat) (s : St) (vc vw : Value) (es : List RM.Sp) (f : Int → Option (Int × Int)) (co : Int) : Prop where
  hb : W.heap[b]? = some (.cells (bc s vc vw eb es.length mb co).toArray 69 (0, 0))
  he : W.heap[eb]? = some (.cells (tcs es).toArray 71 (0, 0))
  hm : MP W mb f
  n1 : b ≠ eb
  n2 : b ≠ mb
  n3 : eb ≠ mb
/-- its blocks -/
def bp (b eb mb k : Nat) : Prop := k = b ∨ k = eb ∨ k = mb
section
variable {W W' : World} {b eb mb : Nat} {s : St} {vc vw : Value} {es : List RM.Sp} {f : Int → Option (Int × Int)} {co : Int}
theorem Bg.lb (h : Bg W b eb mb s vc vw es f co) : b < W.heap.size := (Array.getElem?_eq_some_iff.1 h.hb).1
theorem Bg.le (h : Bg W b eb mb s vc vw es f co) : eb < W.heap.size := (Array.getElem?_eq_some_iff.1 h.he).1
theorem Bg.lt (h : Bg W b eb mb s vc vw es f co) : ∀ k, bp b eb mb k → k < W.heap.size := fun k hk => by
  rcases hk with rfl | rfl | rfl
  · exact h.lb
  · exact h.le
  · exact h.hm.lt
theorem Bg.keep (h : Bg W b eb mb s vc vw es f co) (hk : ∀ k, bp b eb mb k → W'.heap[k]? = W.heap[k]?) : Bg W' b eb mb s vc vw es f co :=
  ⟨(hk b (.inl rfl)).trans h.hb, (hk eb (.inr (.inl rfl))).trans h.he, h.hm.keep (hk mb (.inr (.inr rfl))), h.n1, h.n2, h.n3⟩
theorem Bg.below' (h : Bg W b eb mb s vc vw es f co) (hb : Below W.heap.size W W') : Bg W' b eb mb s vc vw es f co := h.keep fun k hk => hb.block k (h.lt k hk)
theorem Bg.drew (h : Bg W b eb mb s vc vw es f co) : Bg W.drew b eb mb s vc vw es f co := h.below' (Below.refl _ _).drew
theorem Bg.cell (h : Bg W b eb mb s vc vw es f co) (i : Nat) : W.cell? ⟨b, i, none⟩ = (bc s vc vw eb es.length mb co)[i]? := blk_cell h.hb i
theorem Bg.c14 (h : Bg W b eb mb s vc vw es f co) : W.cell? ⟨b, 14, none⟩ = some vw := h.cell 14
theorem Bg.c15 (h : Bg W b eb mb s vc vw es f co) : W.cell? ⟨b, 15, none⟩ = some (.slice (some ⟨eb, 0, none⟩) es.length es.length) := h.cell 15
theorem Bg.c16 (h : Bg W b eb mb s vc vw es f co) : W.cell? ⟨b, 16, none⟩ = some (.map (some mb)) := h.cell 16
theorem Bg.c17 (h : Bg W b eb mb s vc vw es f co) : W.cell? ⟨b, 17, none⟩ = some (.int .i64 co) := h.cell 17
theorem Bg.fr (h : Bg W b eb mb s vc vw es f co) (i : Nat) : W.frozen? ⟨b, i, none⟩ = false := blk_fr h.hb i
theorem Bg.site (h : Bg W b eb mb s vc vw es f co) : W.rangeAt b 0 (sv s) := fun j v hv => by
  rw [Nat.zero_add, h.cell, ← hv]
  have hj : j < 13 := by have := (List.getElem?_eq_some_iff.1 hv).1; rwa [sv_length] at this
  show (sv s ++ [vc, vw, _, _, _])[j]? = _
  rw [List.getElem?_append_left (by rw [sv_length]; exact hj)]
theorem Bg.stop (h : Bg W b eb mb s vc vw es f co) {j : Nat} {a : RM.Sp} (hj : es[j]? = some a) : W.rangeAt eb (j * 3) [.int .i64 a.fl, .int .i64 a.he, .int .i64 a.le] := fun i v hv => by
  rw [blk_cell h.he]
  obtain ⟨h0, h1, h2⟩ := tcs_get hj
  match i, hv with
  | 0, hv => cases hv; exact h0
  | 1, hv => cases hv; exact h1
  | 2, hv => cases hv; exact h2
  | i + 3, hv => simp at hv
/-- the cost is written -/
theorem Bg.put17 (h : Bg W b eb mb s vc vw es f co) (n : Int) : Bg (W.setCell ⟨b, 17, none⟩ (.int .i64 n)) b eb mb s vc vw es f n := by
  have hk : Kp (fun k => k = b) W (W.setCell ⟨b, 17, none⟩ (.int .i64 n)) := (Kp.refl _ W).set _ _ _ (fun _ => rfl)
  exact ⟨blk_set h.hb 17 _, (hk.block eb h.le (fun e => h.n1 e.symm)).trans h.he, h.hm.keep (hk.block mb h.hm.lt (fun e => h.n2 e.symm)), h.n1, h.n2, h.n3⟩
/-- a stop is written -/
theorem Bg.there (h : Bg W b eb mb s vc vw es f co) {j : Nat} {a : RM.Sp} (hj : es[j]? = some a) : W.there eb (j * 3) 3 := fun i hi => by
  refine ⟨?_, blk_fr h.he _⟩
  have := h.stop hj
  match i, hi with
  | 0, _ => rw [this 0 _ rfl]; rfl
  | 1, _ => rw [this 1 _ rfl]; rfl
  | 2, _ => rw [this 2 _ rfl]; rfl
theorem Bg.put (h : Bg W b eb mb s vc vw es f co) {j : Nat} (a : RM.Sp) : Bg (W.setCells eb (j * 3) [.int .i64 a.fl, .int .i64 a.he, .int .i64 a.le]) b eb mb s vc vw (es.set j a) f co ∧ Kp (fun k => k = eb) W (W.setCells eb (j * 3) [.int .i64 a.fl, .int .i64 a.he, .int .i64 a.le]) := by
  have e : W.setCells eb (j * 3) [.int .i64 a.fl, .int .i64 a.he, .int .i64 a.le] = ((W.setCell ⟨eb, j * 3, none⟩ (.int .i64 a.fl)).setCell ⟨eb, j * 3 + 1, none⟩ (.int .i64 a.he)).setCell ⟨eb, j * 3 + 2, none⟩ (.int .i64 a.le) := by
    rfl
  rw [e]
  have hk : Kp (fun k => k = eb) W (((W.setCell ⟨eb, j * 3, none⟩ (.int .i64 a.fl)).setCell ⟨eb, j * 3 + 1, none⟩ (.int .i64 a.he)).setCell ⟨eb, j * 3 + 2, none⟩ (.int .i64 a.le)) := (((Kp.refl (fun k => k = eb) W).set eb _ _ (fun _ => rfl)).set eb _ _ (fun _ => rfl)).set eb _ _ (fun _ => rfl)
  refine ⟨⟨?_, ?_, h.hm.keep (hk.block mb h.hm.lt (fun e => h.n3 e.symm)), h.n1, h.n2, h.n3⟩, hk⟩
  · rw [List.length_set]
    exact (hk.block b h.lb h.n1).trans h.hb
  · have := blk_set (blk_set (blk_set h.he (j * 3) (.int .i64 a.fl)) (j * 3 + 1) (.int .i64 a.he)) (j * 3 + 2) (.int .i64 a.le)
    rw [tcs_set] at this
    exact this
end
/- steps -/
theorem ixE (W : World) {g n cap j : Nat} (hj : j < n) : (Instr.indexAt 66 (.slice (some ⟨g, 0, none⟩) n cap) (.int .i64 (j : Int))).run Try.prog W = .ok (.pointer (some ⟨g, j * 3, none⟩)) W := by
  rw [run_indexAt_slice W 66 _ n cap .i64 j (by kernel_rfl), if_pos ⟨by omega, by omega⟩, show Try.prog.elem 66 = 71 by kernel_rfl, Try.sizeOf71]
  simp only [Result.andThen_ok, Int.toNat_natCast, Addr.add_mid, Nat.zero_add]
theorem loadE (w : World) (b o : Nat) (a : RM.Sp) (h : w.rangeAt b o [.int .i64 a.fl, .int .i64 a.he, .int .i64 a.le]) :
    (Instr.loadAt 71 (.pointer (some ⟨b, o, none⟩))).run Try.prog w = .ok (.agg #[.int .i64 a.fl, .int .i64 a.he, .int .i64 a.le]) w :=
  run_loadAt_mid (P := Try.prog) w b o 71 _ _ h Try.underlying71 rfl infoT
theorem loadSE (w : World) (b o : Nat) (v : Value) (h : w.cell? ⟨b, o, none⟩ = some v) : (Instr.loadAt 66 (.pointer (some ⟨b, o, none⟩))).run Try.prog w = .ok v w := by simp [go_sem, h]
theorem loadMB (w : World) (b o : Nat) (v : Value) (h : w.cell? ⟨b, o, none⟩ = some v) : (Instr.loadAt 67 (.pointer (some ⟨b, o, none⟩))).run Try.prog w = .ok v w := by simp [go_sem, h]
theorem loadWV (w : World) (b : Nat) (y : Int × Int) (h : w.heap[b]? = some (.cells #[.int .i64 y.1, .int .i64 y.2] 46 (0, 0))) : (Instr.loadAt 46 (.pointer (some ⟨b, 0, none⟩))).run Try.prog w = .ok (wv y) w := by
  have h0 : w.cell? ⟨b, 0, none⟩ = some (.int .i64 y.1) := by rw [cell_of_row _ _ 0 _ _ _ h]; rfl
  have h1 : w.cell? ⟨b, 1, none⟩ = some (.int .i64 y.2) := by rw [cell_of_row _ _ 1 _ _ _ h]; rfl
  unfold wv
  simp [go_sem, h0, h1]
section
variable {W0 : World} {K : Act → Prop} {o : Oper} {a : Act}
theorem calm_ixE (x y : Operand) {g n cap j : Nat} (ho : o.op = .indexAddr 66 x y) (hx : a.eval x = .slice (some ⟨g, 0, none⟩) n cap) (hy : a.eval y = .int .i64 (j : Int)) (hj : j < n)
    (h : K (a.put o.dst (.pointer (some ⟨g, j * 3, none⟩)))) : Oper.calm Try.prog W0 o a K :=
  calm_val _ (fun w hw => by unfold execOp; simp only [ho, hx, hy, Sem.run_bind, Sem.run_pure, Result.andThen_ok, ixE w hj]) h
theorem calm_loadE (x : Operand) (b k : Nat) (s : RM.Sp) (ho : o.op = .load 71 x) (hx : a.eval x = .pointer (some ⟨b, k, none⟩)) (hr : ∀ w, Below W0.heap.size W0 w → w.rangeAt b k [.int .i64 s.fl, .int .i64 s.he, .int .i64 s.le])
    (h : K (a.put o.dst (.agg #[.int .i64 s.fl, .int .i64 s.he, .int .i64 s.le]))) : Oper.calm Try.prog W0 o a K :=
  calm_val _ (fun w hw => by unfold execOp; simp only [ho, hx, Sem.run_bind, Sem.run_pure, Result.andThen_ok, loadE w b k s (hr w hw)]) h
theorem calm_loadSE (x : Operand) (b k : Nat) {v : Value} (ho : o.op = .load 66 x) (hx : a.eval x = .pointer (some ⟨b, k, none⟩)) (hr : ∀ w, Below W0.heap.size W0 w → w.cell? ⟨b, k, none⟩ = some v)
    (h : K (a.put o.dst v)) : Oper.calm Try.prog W0 o a K :=
  calm_val _ (fun w hw => by unfold execOp; simp only [ho, hx, Sem.run_bind, Sem.run_pure, Result.andThen_ok, loadSE w b k v (hr w hw)]) h
theorem calm_loadMB (x : Operand) (b k : Nat) {v : Value} (ho : o.op = .load 67 x) (hx : a.eval x = .pointer (some ⟨b, k, none⟩)) (hr : ∀ w, Below W0.heap.size W0 w → w.cell? ⟨b, k, none⟩ = some v)
    (h : K (a.put o.dst v)) : Oper.calm Try.prog W0 o a K :=
  calm_val _ (fun w hw => by unfold execOp; simp only [ho, hx, Sem.run_bind, Sem.run_pure, Result.andThen_ok, loadMB w b k v (hr w hw)]) h
theorem calm_load23b (x : Operand) (b : Nat) (s : St) (ho : o.op = .load 23 x) (hx : a.eval x = .pointer (some ⟨b, 0, none⟩)) (hr : ∀ w, Below W0.heap.size W0 w → w.rangeAt b 0 (sv s))
    (h : K (a.put o.dst (.agg (sv s).toArray))) : Oper.calm Try.prog W0 o a K :=
  calm_val _ (fun w hw => by unfold execOp; simp only [ho, hx, Sem.run_bind, Sem.run_pure, Result.andThen_ok, load23 w b s (hr w hw)]) h
theorem calm_loadWV (x : Operand) (b : Nat) (y : Int × Int) (ho : o.op = .load 46 x) (hx : a.eval x = .pointer (some ⟨b, 0, none⟩)) (hr : ∀ w, Below W0.heap.size W0 w → w.heap[b]? = some (.cells #[.int .i64 y.1, .int .i64 y.2] 46 (0, 0)))
    (h : K (a.put o.dst (wv y))) : Oper.calm Try.prog W0 o a K :=
  calm_val _ (fun w hw => by unfold execOp; simp only [ho, hx, Sem.run_bind, Sem.run_pure, Result.andThen_ok, loadWV w b y (hr w hw)]) h
end
theorem wpList_storeE {ops : Array Oper} {rest : List Oper} {op : Oper} {a : Act} {w : World} {Q : Exit → Act → World → Prop} (hgd : op.guard = none) (x y : Operand) (ho : op.op = .store 71 x y)
    {b eb mb : Nat} {s : St} {vc vw : Value} {es : List RM.Sp} {f : Int → Option (Int × Int)} {co : Int} (h : Bg w b eb mb s vc vw es f co) {j : Nat} {z : RM.Sp} (hj : es[j]? = some z) (n : RM.Sp)
    (hx : a.eval x = .pointer (some ⟨eb, j * 3, none⟩)) (hy : a.eval y = .agg #[.int .i64 n.fl, .int .i64 n.he, .int .i64 n.le])
    (hn : ∀ W', Kp (fun k => k = eb) w W' → Bg W' b eb mb s vc vw (es.set j n) f co → wpList Try.prog ops Q rest (a.put op.dst undef) W') : wpList Try.prog ops Q (op :: rest) a w :=
  wpList_store_mid hgd 71 x y ho eb (j * 3) #[.int .i64 n.fl, .int .i64 n.he, .int .i64 n.le] hx hy (h.there hj) infoT (by simp [Value.oneCell']) (hn _ (h.put n).2 (h.put n).1)

/-- may a car serve a want? -/
theorem has_any (f : Int) (m c : Nat) (hc : c ≤ 64) (w : World) : Calls Try.prog 35 #[.agg #[.int .i64 f, .int .i64 (m : Int)], .int .i64 (c : Int)] w fun e w' => e = .returned (.bool (PM.bt m c)) ∧ Below w.heap.size w w' := by
  have hb := (Below.refl w.heap.size w).alloc (Nat.le_refl _) (.cells #[.int .i64 f, .int .i64 (m : Int)] 46)
  have hsh := shr_any m c hc
  have HE := Hid.intro' (bt_bits m c)
  go_enter Try.func35, Try.ntmps35
  go_wp2
  go_ret
  exact ⟨ret_bool HE.out, hb⟩

end Go.Proofs.Ytkcppidmbojglag
