/- Several texts in one, each with its own head. -/
import Derived.Test.YtjpkekmccbpclajRows
import Derived.WalkKit
import Derived.WalkSpells
import Derived.WalkLawsBesides
import Derived.RangeFuncBox
import Derived.Deep.MidRow
import Derived.Deep.Quiet
import Derived.Deep.QuietTactic
import Derived.Laws.Tables
import Derived.Laws.Rows
import Derived.Laws.CopyOwn
/- Sites, and which are right. No program is named here. -/
namespace Go.Proofs.Ytjpkekmccbpclaj

theorem ret_int {k : IntKind} {a b : Int} (h : a = b) : Ending.returned (.int k a) = .returned (.int k b) := by rw [h]

/-- a site's numbers -/
structure St where
  fl : Int
  ca : Int
  sta : Int
  ste : Int
  sto : Int
  opn : Int
  wai : Int
  clo : Int
  nud : Int
  age : Int
  sil : Int
  bud : Int
  per : Int

namespace SM

/-- a site that is right -/
structure Rt (s : St) : Prop where
  fl1 : 2 ≤ s.fl
  fl2 : s.fl ≤ 64
  ca1 : 1 ≤ s.ca
  ca2 : s.ca ≤ 8
  sta1 : 0 ≤ s.sta
  sta2 : s.sta ≤ 1000
  ste1 : 1 ≤ s.ste
  ste2 : s.ste ≤ 1000
  sto1 : 0 ≤ s.sto
  sto2 : s.sto ≤ 1000
  opn1 : 1 ≤ s.opn
  opn2 : s.opn ≤ 1000
  wai1 : 1 ≤ s.wai
  wai2 : s.wai ≤ 1000
  clo1 : 1 ≤ s.clo
  clo2 : s.clo ≤ 1000
  nud1 : 0 ≤ s.nud
  nud2 : s.nud ≤ 10
  age1 : 1 ≤ s.age
  age2 : s.age ≤ 1000000
  sil1 : 1 ≤ s.sil
  sil2 : s.sil ≤ 1000000
  bud1 : 1 ≤ s.bud
  bud2 : s.bud ≤ 1000000
  per1 : 1 ≤ s.per
  per2 : s.per ≤ 1000

end SM
end Go.Proofs.Ytjpkekmccbpclaj

/- A site in memory: a block of thirteen cells, kept whole. -/
namespace Go.Proofs.Ytjpkekmccbpclaj
open Go.RowKit

theorem Hid.intro' {p : Prop} (h : p) : Hid p := h
/-- the cells of a site -/
def sv (s : St) : List Value := [.int .i64 s.fl, .int .i64 s.ca, .int .i64 s.sta, .int .i64 s.ste, .int .i64 s.sto, .int .i64 s.opn, .int .i64 s.wai, .int .i64 s.clo, .int .i64 s.nud, .int .i64 s.age, .int .i64 s.sil, .int .i64 s.bud, .int .i64 s.per]
theorem sv_length (s : St) : (sv s).length = 13 := rfl
theorem info23 : (Try.prog.info? 23).map (·.size) = some 13 := by kernel_rfl

/-- a block that holds a site -/
def SB (W : World) (b : Nat) (s : St) : Prop := W.heap[b]? = some (.cells (sv s).toArray 23 (0, 0))
theorem SB.lt {W : World} {b : Nat} {s : St} (h : SB W b s) : b < W.heap.size := (Array.getElem?_eq_some_iff.1 h).1
theorem SB.cell {W : World} {b : Nat} {s : St} (h : SB W b s) (i : Nat) : W.cell? ⟨b, i, none⟩ = (sv s)[i]? := by
  simp [World.cell?, show W.heap[b]? = _ from h]
theorem SB.range {W : World} {b : Nat} {s : St} (h : SB W b s) : W.rangeAt b 0 (sv s) := fun j v hv => by
  rw [Nat.zero_add, h.cell, hv]
theorem SB.below {W W' : World} {B b : Nat} {s : St} (h : SB W b s) (hb : Below B W W') (hlt : b < B) : SB W' b s := (hb.block b hlt).trans h
theorem SB.below' {W W' : World} {b : Nat} {s : St} (h : SB W b s) (hb : Below W.heap.size W W') : SB W' b s := h.below hb h.lt
theorem SB.alloc {W : World} {b : Nat} {s : St} (h : SB W b s) (o : Obj) : SB (W.alloc o) b s := (Below.heap_alloc W o b h.lt).trans h
theorem SB.drew {W : World} {b : Nat} {s : St} (h : SB W b s) : SB W.drew b s := h
theorem SB.other {W : World} {b b' : Nat} {s : St} (h : SB W b s) (hne : b ≠ b') (i : Nat) (v : Value) : SB (W.setCell ⟨b', i, none⟩ v) b s :=
  (Below.heap_setCell W ⟨b', i, none⟩ v b hne).trans h
theorem SB.new (W : World) (s : St) : SB (W.alloc (.cells (sv s).toArray 23)) W.heap.size s := World.alloc_heap_new W _

theorem load23 (w : World) (b : Nat) (s : St) (h : w.rangeAt b 0 (sv s)) :
    (Instr.loadAt 23 (.pointer (some ⟨b, 0, none⟩))).run Try.prog w = .ok (.agg (sv s).toArray) w :=
  run_loadAt_mid (P := Try.prog) w b 0 23 (sv s) _ h Try.underlying23 rfl (by rw [sv_length]; exact info23)
theorem wpList_load23 {ops : Array Oper} {rest : List Oper} {op : Oper} {a : Act} {w : World} {Q : Exit → Act → World → Prop} (hgd : op.guard = none) (x : Operand) (ho : op.op = .load 23 x)
    (b : Nat) (s : St) (hx : a.eval x = .pointer (some ⟨b, 0, none⟩)) (hr : SB w b s)
    (h : wpList Try.prog ops Q rest (a.put op.dst (.agg (sv s).toArray)) w) : wpList Try.prog ops Q (op :: rest) a w :=
  wpList_plain hgd fun _ hK => by
    unfold Oper.wp execOp
    simp only [ho, Sem.run_bind, Sem.run_pure, Result.andThen_ok, hx, load23 w b s hr.range]
    exact hK _ _ h

theorem wpList_load23g {ops : Array Oper} {rest : List Oper} {op : Oper} {a : Act} {w : World} {Q : Exit → Act → World → Prop} (hgd : Region.wanted op (yielded ops a.tmps) = true) (x : Operand) (ho : op.op = .load 23 x)
    (b : Nat) (s : St) (hx : a.eval x = .pointer (some ⟨b, 0, none⟩)) (hr : SB w b s)
    (h : wpList Try.prog ops Q rest (a.put op.dst (.agg (sv s).toArray)) w) : wpList Try.prog ops Q (op :: rest) a w :=
  wpList_step fun _ hK => by
    rw [if_pos hgd]
    unfold Oper.wp execOp
    simp only [ho, Sem.run_bind, Sem.run_pure, Result.andThen_ok, hx, load23 w b s hr.range]
    exact hK _ _ h

/- one operation of a region that draws its order and only reads, in a class of worlds -/
theorem wpQuiet_val {P : Program} {ops : Array Oper} {C : World → Prop} {Q : Act → Prop} {rest : List Oper} {o : Oper} {a : Act} (v : Value) (hw : Region.wanted o (yielded ops a.tmps) = true)
    (hrun : ∀ w, C w → (execOp a.eval o).run P w = .ok (.value v) w) (h : wpQuiet P ops C Q rest (a.put o.dst v)) : wpQuiet P ops C Q (o :: rest) a := by
  unfold wpQuiet
  rw [if_pos hw]
  exact ⟨v, fun w hw' => by unfold Oper.quietAt; rw [hrun w hw']; exact ⟨rfl, rfl⟩, h⟩
theorem wpQuiet_call {P : Program} {ops : Array Oper} {C : World → Prop} {Q : Act → Prop} {rest : List Oper} {o : Oper} {a : Act} (f : FuncId) (args : Array Value) (v : Value) (hw : Region.wanted o (yielded ops a.tmps) = true)
    (hrun : ∀ w, C w → (execOp a.eval o).run P w = .ok (.enter f args) w) (hc : ∀ w, C w → Calls P f args w fun e w'' => e = .returned v ∧ C w'')
    (h : wpQuiet P ops C Q rest (a.put o.dst v)) : wpQuiet P ops C Q (o :: rest) a := by
  unfold wpQuiet
  rw [if_pos hw]
  exact ⟨v, fun w hw' => by unfold Oper.quietAt; rw [hrun w hw']; exact ⟨rfl, hc w hw'⟩, h⟩
theorem wpQuiet_skip {P : Program} {ops : Array Oper} {C : World → Prop} {Q : Act → Prop} {rest : List Oper} {o : Oper} {a : Act} (hw : Region.wanted o (yielded ops a.tmps) = false)
    (h : wpQuiet P ops C Q rest (a.put o.dst undef)) : wpQuiet P ops C Q (o :: rest) a := by
  unfold wpQuiet
  rw [if_neg (by rw [hw]; simp)]
  exact h
theorem wpQuiet_load23 {ops : Array Oper} {C : World → Prop} {Q : Act → Prop} {rest : List Oper} {o : Oper} {a : Act} (x : Operand) (b : Nat) (s : St) (hw : Region.wanted o (yielded ops a.tmps) = true)
    (ho : o.op = .load 23 x) (hx : a.eval x = .pointer (some ⟨b, 0, none⟩)) (hr : ∀ w, C w → SB w b s)
    (h : wpQuiet Try.prog ops C Q rest (a.put o.dst (.agg (sv s).toArray))) : wpQuiet Try.prog ops C Q (o :: rest) a :=
  wpQuiet_val _ hw (fun w hw' => by unfold execOp; simp only [ho, hx, Sem.run_bind, Sem.run_pure, Result.andThen_ok, load23 w b s (hr w hw').range]) h
theorem load3 (w : World) (b o : Nat) (v : Value) (h : w.cell? ⟨b, o, none⟩ = some v) : (Instr.loadAt 3 (.pointer (some ⟨b, o, none⟩))).run Try.prog w = .ok v w := by simp [go_sem, h]
theorem wpQuiet_load3 {ops : Array Oper} {C : World → Prop} {Q : Act → Prop} {rest : List Oper} {o : Oper} {a : Act} (x : Operand) (b k : Nat) (v : Value) (hw : Region.wanted o (yielded ops a.tmps) = true)
    (ho : o.op = .load 3 x) (hx : a.eval x = .pointer (some ⟨b, k, none⟩)) (hr : ∀ w, C w → w.cell? ⟨b, k, none⟩ = some v)
    (h : wpQuiet Try.prog ops C Q rest (a.put o.dst v)) : wpQuiet Try.prog ops C Q (o :: rest) a :=
  wpQuiet_val _ hw (fun w hw' => by unfold execOp; simp only [ho, hx, Sem.run_bind, Sem.run_pure, Result.andThen_ok, load3 w b k v (hr w hw')]) h
theorem below_class {W0 w w' : World} (h : Below W0.heap.size W0 w) (h' : Below w.heap.size w w') : Below W0.heap.size W0 w' := h.trans (h'.mono h.size)

end Go.Proofs.Ytjpkekmccbpclaj

/- Doors, tick by tick: plain mathematics. No program is named here. -/
namespace Go.Proofs.Ytjpkekmccbpclaj

/-- a door -/
structure Dr where
  ph : Int
  le : Int
  ru : Int
  he : Bool

namespace DM

/-- the shut one -/
def z : Dr := ⟨0, 0, 0, false⟩
/-- a phase's ticks -/
def tk (s : St) (p : Int) : Int := if p = 1 then s.opn else if p = 2 then s.wai else if p = 3 then s.clo else 0
/-- a phase begins anew -/
def en (s : St) (d : Dr) (p : Int) : Dr := ⟨p, tk s p, d.ru, d.he⟩
/-- whether it is held -/
def hd (s : St) (d : Dr) (b : Bool) : Dr := if b = false then ⟨d.ph, d.le, d.ru, false⟩ else if d.he = false ∧ d.ru < s.nud then ⟨d.ph, d.le, d.ru + 1, true⟩ else d
/-- a tick passes -/
def ps (s : St) (d : Dr) : Dr := if 1 < d.le then ⟨d.ph, d.le - 1, d.ru, d.he⟩ else if d.ph = 1 then en s d 2 else if d.ph = 2 then en s d 3 else z
/-- a tick of a door that isn't shut, once it is told whether it is held -/
def on (s : St) (d : Dr) : Dr := if d.he = true ∧ d.ph = 2 then en s d 2 else if d.he = true ∧ d.ph = 3 then en s d 1 else ps s d
/-- a tick -/
def step (s : St) (d : Dr) (o b : Bool) : Dr := if d.ph = 0 then (if o = true then en s d 1 else d) else on s (hd s d b)

/-- a door that isn't shut and is right -/
structure Ro (s : St) (d : Dr) : Prop where
  r1 : 0 ≤ d.ru
  r2 : d.ru ≤ s.nud
  l1 : 1 ≤ d.le
  l2 : d.le ≤ tk s d.ph
  p1 : 1 ≤ d.ph
  p3 : d.ph ≤ 3
/-- a door that is right -/
def Rd (s : St) (d : Dr) : Prop := d = z ∨ Ro s d

theorem tk1 (s : St) : tk s 1 = s.opn := rfl
theorem tk2 (s : St) : tk s 2 = s.wai := rfl
theorem tk3 (s : St) : tk s 3 = s.clo := rfl
theorem tk_bd {s : St} (r : SM.Rt s) {p : Int} (h1 : 1 ≤ p) (h3 : p ≤ 3) : 1 ≤ tk s p ∧ tk s p ≤ 1000 := by
  have := r.opn1; have := r.opn2; have := r.wai1; have := r.wai2; have := r.clo1; have := r.clo2
  have h : p = 1 ∨ p = 2 ∨ p = 3 := by omega
  rcases h with rfl | rfl | rfl
  · rw [tk1]; omega
  · rw [tk2]; omega
  · rw [tk3]; omega
theorem Ro.le1000 {s : St} {d : Dr} (r : SM.Rt s) (h : Ro s d) : d.le ≤ 1000 := Int.le_trans h.l2 (tk_bd r h.p1 h.p3).2
theorem Ro.ph {s : St} {d : Dr} (h : Ro s d) : d.ph = 1 ∨ d.ph = 2 ∨ d.ph = 3 := by have := h.p1; have := h.p3; omega

theorem ro_en {s : St} (r : SM.Rt s) {d : Dr} (h1 : 0 ≤ d.ru) (h2 : d.ru ≤ s.nud) {p : Int} (p1 : 1 ≤ p) (p3 : p ≤ 3) : Ro s (en s d p) :=
  ⟨h1, h2, (tk_bd r p1 p3).1, Int.le_refl _, p1, p3⟩
theorem ro_hd {s : St} {d : Dr} (h : Ro s d) (b : Bool) : Ro s (hd s d b) := by
  have := h.r1; have := h.r2
  unfold hd; split
  · exact ⟨h.r1, h.r2, h.l1, h.l2, h.p1, h.p3⟩
  · split
    · rename_i h'
      exact ⟨by show 0 ≤ d.ru + 1; omega, by show d.ru + 1 ≤ s.nud; omega, h.l1, h.l2, h.p1, h.p3⟩
    · exact h
theorem rd_ps {s : St} (r : SM.Rt s) {d : Dr} (h : Ro s d) : Rd s (ps s d) := by
  unfold ps; split
  · rename_i h'
    have := h.l2
    exact .inr ⟨h.r1, h.r2, by show 1 ≤ d.le - 1; omega, by show d.le - 1 ≤ tk s d.ph; omega, h.p1, h.p3⟩
  · split
    · exact .inr (ro_en r h.r1 h.r2 (by omega) (by omega))
    · split
      · exact .inr (ro_en r h.r1 h.r2 (by omega) (by omega))
      · exact .inl rfl
theorem rd_on {s : St} (r : SM.Rt s) {d : Dr} (h : Ro s d) : Rd s (on s d) := by
  unfold on; split
  · exact .inr (ro_en r h.r1 h.r2 (by omega) (by omega))
  · split
    · exact .inr (ro_en r h.r1 h.r2 (by omega) (by omega))
    · exact rd_ps r h
theorem rd_step {s : St} (r : SM.Rt s) {d : Dr} (h : Rd s d) (o b : Bool) : Rd s (step s d o b) := by
  rcases h with rfl | h
  · unfold step
    rw [if_pos (show z.ph = 0 from rfl)]
    split
    · exact .inr (ro_en r (Int.le_refl 0) r.nud1 (by omega) (by omega))
    · exact .inl rfl
  · unfold step
    rw [if_neg (by have := h.p1; omega)]
    exact rd_on r (ro_hd h b)

end DM
end Go.Proofs.Ytjpkekmccbpclaj

/- A door in memory: a block of four cells; and the contracts of package door's inner functions. -/
namespace Go.Proofs.Ytjpkekmccbpclaj
open Go.RowKit

/-- the cells of a door -/
def dv (d : Dr) : Value := .agg #[.int .i64 d.ph, .int .i64 d.le, .int .i64 d.ru, .bool d.he]
/-- a block that holds a door -/
def DB (W : World) (b : Nat) (p l r : Int) (h : Bool) : Prop := W.heap[b]? = some (.cells #[.int .i64 p, .int .i64 l, .int .i64 r, .bool h] 34 (0, 0))
section
variable {W W' : World} {b : Nat} {p l r : Int} {h : Bool}
theorem DB.lt (H : DB W b p l r h) : b < W.heap.size := (Array.getElem?_eq_some_iff.1 H).1
theorem DB.c0 (H : DB W b p l r h) : W.cell? ⟨b, 0, none⟩ = some (.int .i64 p) := by simp [World.cell?, show W.heap[b]? = _ from H]
theorem DB.c1 (H : DB W b p l r h) : W.cell? ⟨b, 1, none⟩ = some (.int .i64 l) := by simp [World.cell?, show W.heap[b]? = _ from H]
theorem DB.c2 (H : DB W b p l r h) : W.cell? ⟨b, 2, none⟩ = some (.int .i64 r) := by simp [World.cell?, show W.heap[b]? = _ from H]
theorem DB.c3 (H : DB W b p l r h) : W.cell? ⟨b, 3, none⟩ = some (.bool h) := by simp [World.cell?, show W.heap[b]? = _ from H]
theorem DB.fr (H : DB W b p l r h) (i : Nat) : W.frozen? ⟨b, i, none⟩ = false := by simp [World.frozen?, show W.heap[b]? = _ from H]
theorem DB.below {B : Nat} (H : DB W b p l r h) (hb : Below B W W') (hlt : b < B) : DB W' b p l r h := (hb.block b hlt).trans H
theorem DB.below' (H : DB W b p l r h) (hb : Below W.heap.size W W') : DB W' b p l r h := H.below hb H.lt
theorem DB.alloc (H : DB W b p l r h) (o : Obj) : DB (W.alloc o) b p l r h := (Below.heap_alloc W o b H.lt).trans H
theorem DB.new (W : World) (p l r : Int) (h : Bool) : DB (W.alloc (.cells #[.int .i64 p, .int .i64 l, .int .i64 r, .bool h] 34)) W.heap.size p l r h := World.alloc_heap_new W _
theorem DB.other {b' : Nat} (H : DB W b p l r h) (hne : b ≠ b') (i : Nat) (v : Value) : DB (W.setCell ⟨b', i, none⟩ v) b p l r h :=
  (Below.heap_setCell W ⟨b', i, none⟩ v b hne).trans H
end

theorem ret_door {p l r p' l' r' : Int} {h h' : Bool} (e1 : p = p') (e2 : l = l') (e3 : r = r') (e4 : h = h') :
    Ending.returned (.agg #[.int .i64 p, .int .i64 l, .int .i64 r, .bool h]) = .returned (.agg #[.int .i64 p', .int .i64 l', .int .i64 r', .bool h']) := by rw [e1, e2, e3, e4]
theorem below_set {B : Nat} {a w : World} {b i : Nat} {v : Value} (h : Below B a w) (hp : B ≤ b) : Below B a (w.setCell ⟨b, i, none⟩ v) := h.setCell hp v
theorem ret_boo {a b : Bool} (h : a = b) : Ending.returned (.bool a) = .returned (.bool b) := by rw [h]

theorem DB.new' (W : World) (p l r : Int) (h : Bool) {n : Nat} (hn : W.heap.size = n) : DB (W.alloc (.cells #[.int .i64 p, .int .i64 l, .int .i64 r, .bool h] 34)) n p l r h := hn ▸ DB.new W p l r h
theorem SB.new' (W : World) (s : St) {n : Nat} (hn : W.heap.size = n) : SB (W.alloc (.cells (sv s).toArray 23)) n s := hn ▸ SB.new W s
/-- what a call keeps: a site's block, a door's, and that of the result -/
theorem calls_keep {f : FuncId} {args : Array Value} {w0 W : World} {bs bd be : Nat} {s : St} {p l r : Int} {h : Bool} {R : Ending → Prop}
    (hc : Calls Try.prog f args W fun e w' => R e ∧ Below W.heap.size W w') (hB : Below w0.heap.size w0 W) (hS : SB W bs s) (hD : DB W bd p l r h) (hE : DB W be 0 0 0 false) :
    Calls Try.prog f args W fun e w' => R e ∧ Below w0.heap.size w0 w' ∧ SB w' bs s ∧ DB w' bd p l r h ∧ DB w' be 0 0 0 false :=
  hc.mono fun _ _ hh => ⟨hh.1, below_class hB hh.2, hS.below' hh.2, hD.below' hh.2, hE.below' hh.2⟩

/-- one block is written -/
def Upd (b : Nat) (w W' : World) : Prop := ∃ cs, W' = w.setRow b cs
theorem Upd.below {b B : Nat} {w W' a : World} (h : Upd b w W') (hb : Below B a w) (hB : B ≤ b) : Below B a W' := by obtain ⟨cs, rfl⟩ := h; exact below_setRow hb hB cs
theorem Upd.sb {b c : Nat} {w W' : World} {s : St} (h : Upd b w W') (hs : SB w c s) (hne : c ≠ b) : SB W' c s := by obtain ⟨cs, rfl⟩ := h; exact (setRow_other w b c cs hne).trans hs
theorem Upd.db {b c : Nat} {w W' : World} {p l r : Int} {h : Bool} (hu : Upd b w W') (hd : DB w c p l r h) (hne : c ≠ b) : DB W' c p l r h := by obtain ⟨cs, rfl⟩ := hu; exact (setRow_other w b c cs hne).trans hd
theorem Upd.cell {b c i : Nat} {w W' : World} (hu : Upd b w W') (hne : c ≠ b) : W'.cell? ⟨c, i, none⟩ = w.cell? ⟨c, i, none⟩ := by obtain ⟨cs, rfl⟩ := hu; exact cell_setRow_other w b cs _ hne
theorem infoD : (Try.prog.info? 34).map (·.size) = some 4 := by kernel_rfl
theorem wpList_storeD {ops : Array Oper} {rest : List Oper} {op : Oper} {a : Act} {w : World} {Q : Exit → Act → World → Prop} (hgd : op.guard = none) (x y : Operand) (ho : op.op = .store 34 x y)
    (b : Nat) {p l r p' l' r' : Int} {h h' : Bool} (hx : a.eval x = .pointer (some ⟨b, 0, none⟩)) (hy : a.eval y = .agg #[.int .i64 p', .int .i64 l', .int .i64 r', .bool h']) (hD : DB w b p l r h)
    (hn : ∀ W', Upd b w W' → DB W' b p' l' r' h' → wpList Try.prog ops Q rest (a.put op.dst undef) W') : wpList Try.prog ops Q (op :: rest) a w :=
  wpList_store_row hgd 34 x y ho b _ hx hy _ _ hD infoD rfl (by simp [Value.oneCell']) (hn _ ⟨_, rfl⟩ (setRow_heap w b _ _ _ _ hD))
theorem wpList_loadD {ops : Array Oper} {rest : List Oper} {op : Oper} {a : Act} {w : World} {Q : Exit → Act → World → Prop} (hgd : op.guard = none) (x : Operand) (ho : op.op = .load 34 x)
    (b : Nat) {p l r : Int} {h : Bool} (hx : a.eval x = .pointer (some ⟨b, 0, none⟩)) (hD : DB w b p l r h)
    (hn : wpList Try.prog ops Q rest (a.put op.dst (.agg #[.int .i64 p, .int .i64 l, .int .i64 r, .bool h])) w) : wpList Try.prog ops Q (op :: rest) a w :=
  wpList_load_row hgd 34 x ho b hx _ _ _ _ hD Try.underlying34 rfl infoD hn
theorem retD {fn : Func} {t : Tmp} (hf : fn.results = #[.cell t 34]) {tmps : Array Value} {w : World} {b : Nat} {p l r : Int} {h : Bool} (hp : tmps.getD t undef = .pointer (some ⟨b, 0, none⟩)) (hD : DB w b p l r h) :
    (results fn tmps).run Try.prog w = .ok (.agg #[.int .i64 p, .int .i64 l, .int .i64 r, .bool h]) w :=
  results_cell_row hf tmps w b _ _ _ _ hp hD Try.underlying34 rfl infoD

/-- is it the shut one? -/
def shB (p l r : Int) (h : Bool) : Bool := decide (p = 0 ∧ l = 0 ∧ r = 0 ∧ h = false)

set_option maxHeartbeats 400000 in
theorem isShut_any (p l r : Int) (h : Bool) (w : World) :
    Calls Try.prog 45 #[.agg #[.int .i64 p, .int .i64 l, .int .i64 r, .bool h]] w fun e w' => e = .returned (.bool (shB p l r h)) ∧ Below w.heap.size w w' := by
  go_enter Try.func45, Try.ntmps45
  go_wp2
  all_goals
    go_ret
    refine ⟨ret_boo ?_, (Below.refl _ w).alloc (Nat.le_refl _) _⟩
    unfold shB
    simp_all

set_option maxHeartbeats 400000 in
theorem ticks_any (s : St) (p : Int) (w : World) :
    Calls Try.prog 46 #[.agg (sv s).toArray, .int .i64 p] w fun e w' => e = .returned (.int .i64 (DM.tk s p)) ∧ Below w.heap.size w w' := by
  have n0 := SB.new w s
  have hc5 : (w.alloc (.cells (sv s).toArray 23)).cell? ⟨w.heap.size, 5, none⟩ = some (.int .i64 s.opn) := n0.cell 5
  have hc6 : (w.alloc (.cells (sv s).toArray 23)).cell? ⟨w.heap.size, 6, none⟩ = some (.int .i64 s.wai) := n0.cell 6
  have hc7 : (w.alloc (.cells (sv s).toArray 23)).cell? ⟨w.heap.size, 7, none⟩ = some (.int .i64 s.clo) := n0.cell 7
  have HB : Hid (Below w.heap.size w (w.alloc (.cells (sv s).toArray 23))) := Hid.intro' ((Below.refl _ w).alloc (Nat.le_refl _) _)
  clear n0
  go_enter Try.func46, Try.ntmps46
  go_wp2
  all_goals
    clear hc5 hc6 hc7
    go_ret
    refine ⟨ret_int ?_, HB.out⟩
    unfold DM.tk
    simp_all

end Go.Proofs.Ytjpkekmccbpclaj

/- A tick of a door, as the program has it. -/
namespace Go.Proofs.Ytjpkekmccbpclaj
open Go.RowKit

theorem shB_z : shB 0 0 0 false = true := rfl
theorem shB_n {p l r : Int} {h : Bool} (hp : p ≠ 0) : shB p l r h = false := by unfold shB; simp [hp]
theorem isShut_t (w : World) : Calls Try.prog 45 #[.agg #[.int .i64 0, .int .i64 0, .int .i64 0, .bool false]] w fun e w' => e = .returned (.bool true) ∧ Below w.heap.size w w' := isShut_any 0 0 0 false w
theorem isShut_f (p l r : Int) (h : Bool) (hp : p ≠ 0) (w : World) : Calls Try.prog 45 #[.agg #[.int .i64 p, .int .i64 l, .int .i64 r, .bool h]] w fun e w' => e = .returned (.bool false) ∧ Below w.heap.size w w' := by
  have := isShut_any p l r h w
  rwa [shB_n hp] at this

end Go.Proofs.Ytjpkekmccbpclaj
