/- A call in memory; which calls a car may serve, as a function that is handed on. -/
import Derived.Test.YtdfdkddjkhcgdaiPk9
import Derived.Shelf.Abstract
namespace Go.Proofs.Ytdfdkddjkhcgdai
open Go.RowKit Go.Shelf

/-- a block that holds a call -/
def CaB (W : World) (b : Nat) (y : Ca) : Prop := W.heap[b]? = some (.cells (cav y).toArray 25 (0, 0))
section
variable {W W' : World} {b : Nat} {y : Ca}
theorem CaB.lt (H : CaB W b y) : b < W.heap.size := (Array.getElem?_eq_some_iff.1 H).1
theorem CaB.below' (H : CaB W b y) (hb : Below W.heap.size W W') : CaB W' b y := (hb.block b H.lt).trans H
theorem CaB.kp {G : Nat → Prop} (H : CaB W b y) (k : Kp G W W') (hG : ¬ G b) : CaB W' b y := (k.block b H.lt hG).trans H
theorem CaB.new (W : World) (y : Ca) : CaB (W.alloc (.cells (cav y).toArray 25)) W.heap.size y := World.alloc_heap_new W _
theorem CaB.cell (H : CaB W b y) (i : Nat) : W.cell? ⟨b, i, none⟩ = (cav y)[i]? := by
  have h : W.heap[b]? = some (.cells (cav y).toArray 25 (0, 0)) := H
  simp [World.cell?, h]
end
theorem infoCa : (Try.prog.info? 25).map (·.size) = some 4 := by kernel_rfl
theorem kp_rowC (w : World) (b : Nat) (cs : Array Value) : Kp (fun k => k = b) w (w.setRow b cs) := ⟨rfl, rfl, rfl, by simp [World.setRow], fun k _ hk => setRow_other w b k cs hk⟩
theorem wpList_storeCa {ops : Array Oper} {rest : List Oper} {op : Oper} {a : Act} {w : World} {Q : Exit → Act → World → Prop} (hgd : op.guard = none) (x y : Operand) (ho : op.op = .store 25 x y)
    (b : Nat) {old : Ca} (z : Ca) (hx : a.eval x = .pointer (some ⟨b, 0, none⟩)) (hy : a.eval y = .agg (cav z).toArray) (hL : CaB w b old)
    (hn : ∀ W', Kp (fun k => k = b) w W' → CaB W' b z → wpList Try.prog ops Q rest (a.put op.dst undef) W') : wpList Try.prog ops Q (op :: rest) a w :=
  wpList_store_row hgd 25 x y ho b _ hx hy _ _ hL infoCa rfl (by simp [cav, Value.oneCell']) (hn _ (kp_rowC w b _) (setRow_heap w b _ _ _ _ hL))
theorem retCa2 {fn : Func} {p t : Tmp} (hf : fn.results = #[.cell p 25, .tmp t]) {tmps : Array Value} {w : World} {b : Nat} {y : Ca} {u : Value} (hp : tmps.getD p undef = .pointer (some ⟨b, 0, none⟩)) (ht : tmps.getD t undef = u) (H : CaB w b y) :
    (results fn tmps).run Try.prog w = .ok (.tuple #[.agg #[.int .i64 y.fl, .int .i64 y.ca, .int .i64 y.ag, .bool y.up], u]) w := by
  have hp' : tmps[p]?.getD undef = .pointer (some ⟨b, 0, none⟩) := by simpa using hp
  have ht' : tmps[t]?.getD undef = u := by simpa using ht
  have H' : w.heap[b]? = some (.cells #[.int .i64 y.fl, .int .i64 y.ca, .int .i64 y.ag, .bool y.up] 25 (0, 0)) := H
  simp [results, hf, hp', ht', asAddr, run_loadVar_row w b 25 25 _ _ _ H' Try.underlying25 rfl infoCa]
/-- a call held against itself -/
theorem eqCa (f c g : Int) (u : Bool) (w : World) : (Op.equalIn 10000 25 (.agg #[.int .i64 f, .int .i64 c, .int .i64 g, .bool u]) (.agg #[.int .i64 f, .int .i64 c, .int .i64 g, .bool u])).run Try.prog w = .ok true w := by
  have u3 := Try.underlying3
  have u4 := Try.underlying4
  have uT := Try.underlying25
  cases u <;> go_simp
/-- what a function that is handed on does: it answers, and memory only grows -/
def PrC (g : Nat) (lb : Array Value) (p : Ca → Bool) (w : World) : Prop := ∀ (W : World) (x : Ca), Below w.heap.size w W → Calls Try.prog g (#[.agg #[.int .i64 x.fl, .int .i64 x.ca, .int .i64 x.ag, .bool x.up]] ++ lb) W fun e w' => e = .returned (.bool (p x)) ∧ Below W.heap.size W w'
/-- what is told of the oldest -/
def ocl (o : Option (Nat × Ca)) : Ca := match o with
  | none => ca0
  | some x => x.2
set_option maxHeartbeats 2000000 in
theorem rmay_any (x : Ca) (car : Int) (cb : Nat) (W : World) (hc : W.cell? ⟨cb, 0, none⟩ = some (.int .i64 car)) :
    Calls Try.prog 7 #[.agg #[.int .i64 x.fl, .int .i64 x.ca, .int .i64 x.ag, .bool x.up], .pointer (some ⟨cb, 0, none⟩)] W fun e w' => e = .returned (.bool (decide (x.ca < 0) || decide (x.ca = car))) ∧ Below W.heap.size W w' := by
  have hb := (Below.refl W.heap.size W).alloc (Nat.le_refl _) (.cells #[.int .i64 x.fl, .int .i64 x.ca, .int .i64 x.ag, .bool x.up] 25)
  have hc2 : (W.alloc (.cells #[.int .i64 x.fl, .int .i64 x.ca, .int .i64 x.ag, .bool x.up] 25)).cell? ⟨cb, 0, none⟩ = some (.int .i64 car) := (hb.cell (p := ⟨cb, 0, none⟩) (World.block_lt_of_cell? W _ hc)).trans hc
  have HB := Hid.intro' hb
  obtain ⟨r, HR⟩ : ∃ r, Hid ((decide (x.ca < 0) || decide (x.ca = car)) = r) := ⟨_, Hid.intro' rfl⟩
  rw [HR.out]
  clear hb
  by_cases h1 : x.ca < 0
  · have d1 : decide (x.ca < 0) = true := decide_eq_true h1
    have HQ : Hid (true = r) := by show _ = _; rw [← HR.out, d1]; rfl
    go_enter Try.func7, Try.ntmps7
    go_wp2
    go_ret
    exact ⟨ret_bool HQ.out, HB.out⟩
  · have d1 : decide (x.ca < 0) = false := decide_eq_false h1
    obtain ⟨q, hq, HQ⟩ : ∃ q, (x.ca == car) = q ∧ Hid (q = r) := ⟨_, rfl, by show _ = _; rw [← HR.out, d1]; rfl⟩
    go_enter Try.func7, Try.ntmps7
    go_wp2
    go_ret
    exact ⟨ret_bool HQ.out, HB.out⟩

end Go.Proofs.Ytdfdkddjkhcgdai
