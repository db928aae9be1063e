/- A car in memory: a block of eight cells; commands; laws of whole loads and stores. -/
import Derived.Test.YtjcccdlhdffbdacDoorL
import Derived.Test.YtjcccdlhdffbdacCarM
namespace Go.Proofs.Ytjcccdlhdffbdac
open Go.RowKit

theorem Upd.trans {b : Nat} {w W1 W2 : World} (h1 : Upd b w W1) (h2 : Upd b W1 W2) : Upd b w W2 := by
  obtain ⟨c1, rfl⟩ := h1
  obtain ⟨c2, rfl⟩ := h2
  exact ⟨c2, setRow_setRow w b c1 c2⟩
theorem Upd.set {b : Nat} {w : World} {cs : Array Value} {t : TypeId} {fr : Nat × Nat} (h : w.heap[b]? = some (.cells cs t fr)) (i : Nat) (v : Value) : Upd b w (w.setCell ⟨b, i, none⟩ v) := ⟨_, setCell_eq_setRow w b i cs t fr v h⟩

/-- a block that holds a car -/
def CB (W : World) (b : Nat) (c : Cr) : Prop := W.heap[b]? = some (.cells #[.int .i64 c.fl, .int .i64 c.tg, .int .i64 c.ti, .int .i64 c.d.ph, .int .i64 c.d.le, .int .i64 c.d.ru, .bool c.d.he, .bool c.fa] 31 (0, 0))
/-- a block that holds a command -/
def MB (W : World) (b : Nat) (o : Bool) (g : Int) : Prop := W.heap[b]? = some (.cells #[.bool o, .int .i64 g] 35 (0, 0))
section
variable {W W' : World} {b : Nat} {c : Cr} {o : Bool} {g : Int}
theorem CB.lt (H : CB W b c) : b < W.heap.size := (Array.getElem?_eq_some_iff.1 H).1
theorem CB.c0 (H : CB W b c) : W.cell? ⟨b, 0, none⟩ = some (.int .i64 c.fl) := by simp [World.cell?, show W.heap[b]? = _ from H]
theorem CB.c1 (H : CB W b c) : W.cell? ⟨b, 1, none⟩ = some (.int .i64 c.tg) := by simp [World.cell?, show W.heap[b]? = _ from H]
theorem CB.c2 (H : CB W b c) : W.cell? ⟨b, 2, none⟩ = some (.int .i64 c.ti) := by simp [World.cell?, show W.heap[b]? = _ from H]
theorem CB.c3 (H : CB W b c) : W.cell? ⟨b, 3, none⟩ = some (.int .i64 c.d.ph) := by simp [World.cell?, show W.heap[b]? = _ from H]
theorem CB.c4 (H : CB W b c) : W.cell? ⟨b, 4, none⟩ = some (.int .i64 c.d.le) := by simp [World.cell?, show W.heap[b]? = _ from H]
theorem CB.c5 (H : CB W b c) : W.cell? ⟨b, 5, none⟩ = some (.int .i64 c.d.ru) := by simp [World.cell?, show W.heap[b]? = _ from H]
theorem CB.c6 (H : CB W b c) : W.cell? ⟨b, 6, none⟩ = some (.bool c.d.he) := by simp [World.cell?, show W.heap[b]? = _ from H]
theorem CB.c7 (H : CB W b c) : W.cell? ⟨b, 7, none⟩ = some (.bool c.fa) := by simp [World.cell?, show W.heap[b]? = _ from H]
theorem CB.fr (H : CB W b c) (i : Nat) : W.frozen? ⟨b, i, none⟩ = false := by simp [World.frozen?, show W.heap[b]? = _ from H]
theorem CB.below {B : Nat} (H : CB W b c) (hb : Below B W W') (hlt : b < B) : CB W' b c := (hb.block b hlt).trans H
theorem CB.below' (H : CB W b c) (hb : Below W.heap.size W W') : CB W' b c := H.below hb H.lt
theorem CB.alloc (H : CB W b c) (x : Obj) : CB (W.alloc x) b c := (Below.heap_alloc W x b H.lt).trans H
theorem CB.new (W : World) (c : Cr) : CB (W.alloc (.cells #[.int .i64 c.fl, .int .i64 c.tg, .int .i64 c.ti, .int .i64 c.d.ph, .int .i64 c.d.le, .int .i64 c.d.ru, .bool c.d.he, .bool c.fa] 31)) W.heap.size c := World.alloc_heap_new W _
theorem CB.new' (W : World) (c : Cr) {n : Nat} (hn : W.heap.size = n) : CB (W.alloc (.cells #[.int .i64 c.fl, .int .i64 c.tg, .int .i64 c.ti, .int .i64 c.d.ph, .int .i64 c.d.le, .int .i64 c.d.ru, .bool c.d.he, .bool c.fa] 31)) n c := hn ▸ CB.new W c
theorem CB.other {b' : Nat} (H : CB W b c) (hne : b ≠ b') (i : Nat) (v : Value) : CB (W.setCell ⟨b', i, none⟩ v) b c :=
  (Below.heap_setCell W ⟨b', i, none⟩ v b hne).trans H
theorem CB.fault (H : CB W b c) (f : Bool) : CB (W.setCell ⟨b, 7, none⟩ (.bool f)) b ⟨c.fl, c.tg, c.ti, c.d, f⟩ := heap_setCell_same W b 7 _ _ _ H
theorem CB.set0 (H : CB W b c) (f : Int) : CB (W.setCell ⟨b, 0, none⟩ (.int .i64 f)) b ⟨f, c.tg, c.ti, c.d, c.fa⟩ := heap_setCell_same W b 0 _ _ _ H
theorem CB.set1 (H : CB W b c) (f : Int) : CB (W.setCell ⟨b, 1, none⟩ (.int .i64 f)) b ⟨c.fl, f, c.ti, c.d, c.fa⟩ := heap_setCell_same W b 1 _ _ _ H
theorem CB.set2 (H : CB W b c) (f : Int) : CB (W.setCell ⟨b, 2, none⟩ (.int .i64 f)) b ⟨c.fl, c.tg, f, c.d, c.fa⟩ := heap_setCell_same W b 2 _ _ _ H
theorem Upd.cb {k : Nat} (hu : Upd k W W') (hc : CB W b c) (hne : b ≠ k) : CB W' b c := by obtain ⟨cs, rfl⟩ := hu; exact (setRow_other W k b cs hne).trans hc
theorem MB.lt (H : MB W b o g) : b < W.heap.size := (Array.getElem?_eq_some_iff.1 H).1
theorem MB.c0 (H : MB W b o g) : W.cell? ⟨b, 0, none⟩ = some (.bool o) := by simp [World.cell?, show W.heap[b]? = _ from H]
theorem MB.c1 (H : MB W b o g) : W.cell? ⟨b, 1, none⟩ = some (.int .i64 g) := by simp [World.cell?, show W.heap[b]? = _ from H]
theorem MB.below' (H : MB W b o g) (hb : Below W.heap.size W W') : MB W' b o g := (hb.block b H.lt).trans H
theorem MB.alloc (H : MB W b o g) (x : Obj) : MB (W.alloc x) b o g := (Below.heap_alloc W x b H.lt).trans H
theorem MB.new' (W : World) (o : Bool) (g : Int) {n : Nat} (hn : W.heap.size = n) : MB (W.alloc (.cells #[.bool o, .int .i64 g] 35)) n o g := hn ▸ World.alloc_heap_new W _
theorem Upd.mb {k : Nat} (hu : Upd k W W') (hc : MB W b o g) (hne : b ≠ k) : MB W' b o g := by obtain ⟨cs, rfl⟩ := hu; exact (setRow_other W k b cs hne).trans hc
end

theorem infoC : (Try.prog.info? 31).map (·.size) = some 8 := by kernel_rfl
theorem infoM : (Try.prog.info? 35).map (·.size) = some 2 := by kernel_rfl
section
variable {ops : Array Oper} {rest : List Oper} {op : Oper} {a : Act} {w : World} {Q : Exit → Act → World → Prop}
theorem wpList_storeC (hgd : op.guard = none) (x y : Operand) (ho : op.op = .store 31 x y)
    (b : Nat) {c c' : Cr} (hx : a.eval x = .pointer (some ⟨b, 0, none⟩)) (hy : a.eval y = .agg #[.int .i64 c'.fl, .int .i64 c'.tg, .int .i64 c'.ti, .int .i64 c'.d.ph, .int .i64 c'.d.le, .int .i64 c'.d.ru, .bool c'.d.he, .bool c'.fa]) (hC : CB w b c)
    (hn : ∀ W', Upd b w W' → CB W' b c' → wpList Try.prog ops Q rest (a.put op.dst undef) W') : wpList Try.prog ops Q (op :: rest) a w :=
  wpList_store_row hgd 31 x y ho b _ hx hy _ _ hC infoC rfl (by simp [Value.oneCell']) (hn _ ⟨_, rfl⟩ (setRow_heap w b _ _ _ _ hC))
theorem wpList_loadC (hgd : op.guard = none) (x : Operand) (ho : op.op = .load 31 x)
    (b : Nat) {c : Cr} (hx : a.eval x = .pointer (some ⟨b, 0, none⟩)) (hC : CB w b c)
    (hn : wpList Try.prog ops Q rest (a.put op.dst (.agg #[.int .i64 c.fl, .int .i64 c.tg, .int .i64 c.ti, .int .i64 c.d.ph, .int .i64 c.d.le, .int .i64 c.d.ru, .bool c.d.he, .bool c.fa])) w) : wpList Try.prog ops Q (op :: rest) a w :=
  wpList_load_row hgd 31 x ho b hx _ _ _ _ hC Try.underlying31 rfl infoC hn
theorem loadC (w : World) (b : Nat) (c : Cr) (hC : CB w b c) : (Instr.loadAt 31 (.pointer (some ⟨b, 0, none⟩))).run Try.prog w = .ok (.agg #[.int .i64 c.fl, .int .i64 c.tg, .int .i64 c.ti, .int .i64 c.d.ph, .int .i64 c.d.le, .int .i64 c.d.ru, .bool c.d.he, .bool c.fa]) w := by
  simp only [Instr.loadAt, Instr.sureAddr, Sem.run_bind, Sem.run_pure, Result.andThen_ok, run_loadVar_row (P := Try.prog) w b 31 31 _ _ _ hC Try.underlying31 rfl infoC]
theorem wpList_loadCg (hgd : Region.wanted op (yielded ops a.tmps) = true) (x : Operand) (ho : op.op = .load 31 x)
    (b : Nat) {c : Cr} (hx : a.eval x = .pointer (some ⟨b, 0, none⟩)) (hC : CB w b c)
    (hn : wpList Try.prog ops Q rest (a.put op.dst (.agg #[.int .i64 c.fl, .int .i64 c.tg, .int .i64 c.ti, .int .i64 c.d.ph, .int .i64 c.d.le, .int .i64 c.d.ru, .bool c.d.he, .bool c.fa])) w) : wpList Try.prog ops Q (op :: rest) a w :=
  wpList_step fun _ hK => by
    rw [if_pos hgd]
    unfold Oper.wp execOp
    simp only [ho, Sem.run_bind, Sem.run_pure, Result.andThen_ok, hx, loadC w b c hC]
    exact hK _ _ hn
theorem CB.range3 {b : Nat} {c : Cr} (hC : CB w b c) : w.rangeAt b 3 [.int .i64 c.d.ph, .int .i64 c.d.le, .int .i64 c.d.ru, .bool c.d.he] := fun j v hv => by
  have : w.cell? ⟨b, 3 + j, none⟩ = (#[.int .i64 c.fl, .int .i64 c.tg, .int .i64 c.ti, .int .i64 c.d.ph, .int .i64 c.d.le, .int .i64 c.d.ru, .bool c.d.he, .bool c.fa] : Array Value)[3 + j]? := by simp [World.cell?, show w.heap[b]? = _ from hC]
  rw [this]
  rcases j with _ | _ | _ | _ | j <;> first | exact hv | (simp at hv)
theorem wpList_loadM (hgd : op.guard = none) (x : Operand) (ho : op.op = .load 27 x)
    (b : Nat) {c : Cr} (hx : a.eval x = .pointer (some ⟨b, 3, none⟩)) (hC : CB w b c)
    (hn : wpList Try.prog ops Q rest (a.put op.dst (.agg #[.int .i64 c.d.ph, .int .i64 c.d.le, .int .i64 c.d.ru, .bool c.d.he])) w) : wpList Try.prog ops Q (op :: rest) a w :=
  wpList_load_mid hgd 27 x ho b 3 hx _ _ hC.range3 Try.underlying27 rfl infoD hn
/-- four cells in the middle of a car's block are written -/
theorem set4 {b : Nat} {c : Cr} {d : Dr} (hC : CB w b c) : Upd b w (w.setCells b 3 [.int .i64 d.ph, .int .i64 d.le, .int .i64 d.ru, .bool d.he]) ∧ CB (w.setCells b 3 [.int .i64 d.ph, .int .i64 d.le, .int .i64 d.ru, .bool d.he]) b ⟨c.fl, c.tg, c.ti, d, c.fa⟩ := by
  have h1 := heap_setCell_same w b 3 _ _ (.int .i64 d.ph) hC
  have h2 := heap_setCell_same _ b 4 _ _ (.int .i64 d.le) h1
  have h3 := heap_setCell_same _ b 5 _ _ (.int .i64 d.ru) h2
  have h4 := heap_setCell_same _ b 6 _ _ (.bool d.he) h3
  exact ⟨((((Upd.set hC 3 _).trans (Upd.set h1 4 _)).trans (Upd.set h2 5 _)).trans (Upd.set h3 6 _)), h4⟩
theorem there4 {b : Nat} {c : Cr} (hC : CB w b c) : w.there b 3 4 := fun j hj => by
  refine ⟨?_, hC.fr _⟩
  have : j = 0 ∨ j = 1 ∨ j = 2 ∨ j = 3 := by omega
  rcases this with rfl | rfl | rfl | rfl
  · rw [show 3 + 0 = 3 from rfl, hC.c3]; rfl
  · rw [show 3 + 1 = 4 from rfl, hC.c4]; rfl
  · rw [show 3 + 2 = 5 from rfl, hC.c5]; rfl
  · rw [show 3 + 3 = 6 from rfl, hC.c6]; rfl
theorem wpList_storeM (hgd : op.guard = none) (x y : Operand) (ho : op.op = .store 27 x y)
    (b : Nat) {c : Cr} {d : Dr} (hx : a.eval x = .pointer (some ⟨b, 3, none⟩)) (hy : a.eval y = .agg #[.int .i64 d.ph, .int .i64 d.le, .int .i64 d.ru, .bool d.he]) (hC : CB w b c)
    (hn : ∀ W', Upd b w W' → CB W' b ⟨c.fl, c.tg, c.ti, d, c.fa⟩ → wpList Try.prog ops Q rest (a.put op.dst undef) W') : wpList Try.prog ops Q (op :: rest) a w :=
  wpList_store_mid hgd 27 x y ho b 3 _ hx hy (there4 hC) infoD (by simp [Value.oneCell']) (hn _ (set4 hC).1 (set4 hC).2)
end
theorem retC {fn : Func} {t : Tmp} (hf : fn.results = #[.cell t 31]) {tmps : Array Value} {w : World} {b : Nat} {c : Cr} (hp : tmps.getD t undef = .pointer (some ⟨b, 0, none⟩)) (hC : CB w b c) :
    (results fn tmps).run Try.prog w = .ok (.agg #[.int .i64 c.fl, .int .i64 c.tg, .int .i64 c.ti, .int .i64 c.d.ph, .int .i64 c.d.le, .int .i64 c.d.ru, .bool c.d.he, .bool c.fa]) w :=
  results_cell_row hf tmps w b _ _ _ _ hp hC Try.underlying31 rfl infoC
theorem quiet_loadC {C : World → Prop} {K : Act → Prop} {o : Oper} {a : Act} (x : Operand) (b : Nat) {c : Cr} (ho : o.op = .load 31 x) (hx : a.eval x = .pointer (some ⟨b, 0, none⟩)) (hr : ∀ w, C w → CB w b c)
    (hn : K (a.put o.dst (.agg #[.int .i64 c.fl, .int .i64 c.tg, .int .i64 c.ti, .int .i64 c.d.ph, .int .i64 c.d.le, .int .i64 c.d.ru, .bool c.d.he, .bool c.fa]))) : o.quiet Try.prog a C K :=
  quiet_val _ (fun w hw => by unfold execOp; simp only [ho, hx, Sem.run_bind, Sem.run_pure, Result.andThen_ok, loadC w b c (hr w hw)]) hn

/-- the value of a car -/
def cv (c : Cr) : Value := .agg #[.int .i64 c.fl, .int .i64 c.tg, .int .i64 c.ti, .int .i64 c.d.ph, .int .i64 c.d.le, .int .i64 c.d.ru, .bool c.d.he, .bool c.fa]
theorem ret_car {c c' : Cr} (h : c = c') : Ending.returned (.agg #[.int .i64 c.fl, .int .i64 c.tg, .int .i64 c.ti, .int .i64 c.d.ph, .int .i64 c.d.le, .int .i64 c.d.ru, .bool c.d.he, .bool c.fa]) = .returned (cv c') := by rw [h]; rfl

/-- a car held against itself -/
theorem eqC (c : Cr) (w : World) : (Op.equalIn 10000 31 (.agg #[.int .i64 c.fl, .int .i64 c.tg, .int .i64 c.ti, .int .i64 c.d.ph, .int .i64 c.d.le, .int .i64 c.d.ru, .bool c.d.he, .bool c.fa]) (.agg #[.int .i64 c.fl, .int .i64 c.tg, .int .i64 c.ti, .int .i64 c.d.ph, .int .i64 c.d.le, .int .i64 c.d.ru, .bool c.d.he, .bool c.fa])).run Try.prog w = .ok true w := by
  have u3 := Try.underlying3
  have u4 := Try.underlying4
  have uD := Try.underlying27
  have uC := Try.underlying31
  go_simp

end Go.Proofs.Ytjcccdlhdffbdac
