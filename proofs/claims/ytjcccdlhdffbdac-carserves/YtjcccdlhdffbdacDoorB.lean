/- A door in memory: a block of four cells; and the contracts of package door's inner functions. -/
import Derived.Test.YtjcccdlhdffbdacSiteB
import Derived.Test.YtjcccdlhdffbdacDoorM
import Derived.Laws.Tables
import Derived.Laws.Rows
import Derived.Laws.CopyOwn
namespace Go.Proofs.Ytjcccdlhdffbdac
open Go.RowKit

/-- the cells of a door -/
def dv (d : Dr) : Value := .agg #[.int .i64 d.ph, .int .i64 d.le, .int .i64 d.ru, .bool d.he]
/-- a block that holds a door -/
def DB (W : World) (b : Nat) (p l r : Int) (h : Bool) : Prop := W.heap[b]? = some (.cells #[.int .i64 p, .int .i64 l, .int .i64 r, .bool h] 27 (0, 0))
section
variable {W W' : World} {b : Nat} {p l r : Int} {h : Bool}
theorem DB.lt (H : DB W b p l r h) : b < W.heap.size := (Array.getElem?_eq_some_iff.1 H).1
theorem DB.c0 (H : DB W b p l r h) : W.cell? ⟨b, 0, none⟩ = some (.int .i64 p) := by simp [World.cell?, show W.heap[b]? = _ from H]
theorem DB.c1 (H : DB W b p l r h) : W.cell? ⟨b, 1, none⟩ = some (.int .i64 l) := by simp [World.cell?, show W.heap[b]? = _ from H]
theorem DB.c2 (H : DB W b p l r h) : W.cell? ⟨b, 2, none⟩ = some (.int .i64 r) := by simp [World.cell?, show W.heap[b]? = _ from H]
theorem DB.c3 (H : DB W b p l r h) : W.cell? ⟨b, 3, none⟩ = some (.bool h) := by simp [World.cell?, show W.heap[b]? = _ from H]
theorem DB.fr (H : DB W b p l r h) (i : Nat) : W.frozen? ⟨b, i, none⟩ = false := by simp [World.frozen?, show W.heap[b]? = _ from H]
theorem DB.below {B : Nat} (H : DB W b p l r h) (hb : Below B W W') (hlt : b < B) : DB W' b p l r h := (hb.block b hlt).trans H
theorem DB.below' (H : DB W b p l r h) (hb : Below W.heap.size W W') : DB W' b p l r h := H.below hb H.lt
theorem DB.alloc (H : DB W b p l r h) (o : Obj) : DB (W.alloc o) b p l r h := (Below.heap_alloc W o b H.lt).trans H
theorem DB.new (W : World) (p l r : Int) (h : Bool) : DB (W.alloc (.cells #[.int .i64 p, .int .i64 l, .int .i64 r, .bool h] 27)) W.heap.size p l r h := World.alloc_heap_new W _
theorem DB.other {b' : Nat} (H : DB W b p l r h) (hne : b ≠ b') (i : Nat) (v : Value) : DB (W.setCell ⟨b', i, none⟩ v) b p l r h :=
  (Below.heap_setCell W ⟨b', i, none⟩ v b hne).trans H
end

theorem ret_door {p l r p' l' r' : Int} {h h' : Bool} (e1 : p = p') (e2 : l = l') (e3 : r = r') (e4 : h = h') :
    Ending.returned (.agg #[.int .i64 p, .int .i64 l, .int .i64 r, .bool h]) = .returned (.agg #[.int .i64 p', .int .i64 l', .int .i64 r', .bool h']) := by rw [e1, e2, e3, e4]
theorem below_set {B : Nat} {a w : World} {b i : Nat} {v : Value} (h : Below B a w) (hp : B ≤ b) : Below B a (w.setCell ⟨b, i, none⟩ v) := h.setCell hp v
theorem ret_boo {a b : Bool} (h : a = b) : Ending.returned (.bool a) = .returned (.bool b) := by rw [h]

theorem DB.new' (W : World) (p l r : Int) (h : Bool) {n : Nat} (hn : W.heap.size = n) : DB (W.alloc (.cells #[.int .i64 p, .int .i64 l, .int .i64 r, .bool h] 27)) n p l r h := hn ▸ DB.new W p l r h
theorem SB.new' (W : World) (s : St) {n : Nat} (hn : W.heap.size = n) : SB (W.alloc (.cells (sv s).toArray 23)) n s := hn ▸ SB.new W s
/-- what a call keeps: a site's block, a door's, and that of the result -/
theorem calls_keep {f : FuncId} {args : Array Value} {w0 W : World} {bs bd be : Nat} {s : St} {p l r : Int} {h : Bool} {R : Ending → Prop}
    (hc : Calls Try.prog f args W fun e w' => R e ∧ Below W.heap.size W w') (hB : Below w0.heap.size w0 W) (hS : SB W bs s) (hD : DB W bd p l r h) (hE : DB W be 0 0 0 false) :
    Calls Try.prog f args W fun e w' => R e ∧ Below w0.heap.size w0 w' ∧ SB w' bs s ∧ DB w' bd p l r h ∧ DB w' be 0 0 0 false :=
  hc.mono fun _ _ hh => ⟨hh.1, below_class hB hh.2, hS.below' hh.2, hD.below' hh.2, hE.below' hh.2⟩

/-- one block is written -/
def Upd (b : Nat) (w W' : World) : Prop := ∃ cs, W' = w.setRow b cs
theorem Upd.below {b B : Nat} {w W' a : World} (h : Upd b w W') (hb : Below B a w) (hB : B ≤ b) : Below B a W' := by obtain ⟨cs, rfl⟩ := h; exact below_setRow hb hB cs
theorem Upd.sb {b c : Nat} {w W' : World} {s : St} (h : Upd b w W') (hs : SB w c s) (hne : c ≠ b) : SB W' c s := by obtain ⟨cs, rfl⟩ := h; exact (setRow_other w b c cs hne).trans hs
theorem Upd.db {b c : Nat} {w W' : World} {p l r : Int} {h : Bool} (hu : Upd b w W') (hd : DB w c p l r h) (hne : c ≠ b) : DB W' c p l r h := by obtain ⟨cs, rfl⟩ := hu; exact (setRow_other w b c cs hne).trans hd
theorem Upd.cell {b c i : Nat} {w W' : World} (hu : Upd b w W') (hne : c ≠ b) : W'.cell? ⟨c, i, none⟩ = w.cell? ⟨c, i, none⟩ := by obtain ⟨cs, rfl⟩ := hu; exact cell_setRow_other w b cs _ hne
theorem infoD : (Try.prog.info? 27).map (·.size) = some 4 := by kernel_rfl
theorem wpList_storeD {ops : Array Oper} {rest : List Oper} {op : Oper} {a : Act} {w : World} {Q : Exit → Act → World → Prop} (hgd : op.guard = none) (x y : Operand) (ho : op.op = .store 27 x y)
    (b : Nat) {p l r p' l' r' : Int} {h h' : Bool} (hx : a.eval x = .pointer (some ⟨b, 0, none⟩)) (hy : a.eval y = .agg #[.int .i64 p', .int .i64 l', .int .i64 r', .bool h']) (hD : DB w b p l r h)
    (hn : ∀ W', Upd b w W' → DB W' b p' l' r' h' → wpList Try.prog ops Q rest (a.put op.dst undef) W') : wpList Try.prog ops Q (op :: rest) a w :=
  wpList_store_row hgd 27 x y ho b _ hx hy _ _ hD infoD rfl (by simp [Value.oneCell']) (hn _ ⟨_, rfl⟩ (setRow_heap w b _ _ _ _ hD))
theorem wpList_loadD {ops : Array Oper} {rest : List Oper} {op : Oper} {a : Act} {w : World} {Q : Exit → Act → World → Prop} (hgd : op.guard = none) (x : Operand) (ho : op.op = .load 27 x)
    (b : Nat) {p l r : Int} {h : Bool} (hx : a.eval x = .pointer (some ⟨b, 0, none⟩)) (hD : DB w b p l r h)
    (hn : wpList Try.prog ops Q rest (a.put op.dst (.agg #[.int .i64 p, .int .i64 l, .int .i64 r, .bool h])) w) : wpList Try.prog ops Q (op :: rest) a w :=
  wpList_load_row hgd 27 x ho b hx _ _ _ _ hD Try.underlying27 rfl infoD hn
theorem retD {fn : Func} {t : Tmp} (hf : fn.results = #[.cell t 27]) {tmps : Array Value} {w : World} {b : Nat} {p l r : Int} {h : Bool} (hp : tmps.getD t undef = .pointer (some ⟨b, 0, none⟩)) (hD : DB w b p l r h) :
    (results fn tmps).run Try.prog w = .ok (.agg #[.int .i64 p, .int .i64 l, .int .i64 r, .bool h]) w :=
  results_cell_row hf tmps w b _ _ _ _ hp hD Try.underlying27 rfl infoD

/-- is it the shut one? -/
def shB (p l r : Int) (h : Bool) : Bool := decide (p = 0 ∧ l = 0 ∧ r = 0 ∧ h = false)

set_option maxHeartbeats 400000 in
theorem isShut_any (p l r : Int) (h : Bool) (w : World) :
    Calls Try.prog 23 #[.agg #[.int .i64 p, .int .i64 l, .int .i64 r, .bool h]] w fun e w' => e = .returned (.bool (shB p l r h)) ∧ Below w.heap.size w w' := by
  go_enter Try.func23, Try.ntmps23
  go_wp2
  all_goals
    go_ret
    refine ⟨ret_boo ?_, (Below.refl _ w).alloc (Nat.le_refl _) _⟩
    unfold shB
    simp_all

set_option maxHeartbeats 400000 in
theorem ticks_any (s : St) (p : Int) (w : World) :
    Calls Try.prog 36 #[.agg (sv s).toArray, .int .i64 p] w fun e w' => e = .returned (.int .i64 (DM.tk s p)) ∧ Below w.heap.size w w' := by
  have n0 := SB.new w s
  have hc5 : (w.alloc (.cells (sv s).toArray 23)).cell? ⟨w.heap.size, 5, none⟩ = some (.int .i64 s.opn) := n0.cell 5
  have hc6 : (w.alloc (.cells (sv s).toArray 23)).cell? ⟨w.heap.size, 6, none⟩ = some (.int .i64 s.wai) := n0.cell 6
  have hc7 : (w.alloc (.cells (sv s).toArray 23)).cell? ⟨w.heap.size, 7, none⟩ = some (.int .i64 s.clo) := n0.cell 7
  have HB : Hid (Below w.heap.size w (w.alloc (.cells (sv s).toArray 23))) := Hid.intro' ((Below.refl _ w).alloc (Nat.le_refl _) _)
  clear n0
  go_enter Try.func36, Try.ntmps36
  go_wp2
  all_goals
    clear hc5 hc6 hc7
    go_ret
    refine ⟨ret_int ?_, HB.out⟩
    unfold DM.tk
    simp_all

set_option maxHeartbeats 1000000 in
theorem enter_any (s : St) (p l r q : Int) (h : Bool) (w : World) :
    Calls Try.prog 24 #[.agg (sv s).toArray, .agg #[.int .i64 p, .int .i64 l, .int .i64 r, .bool h], .int .i64 q] w fun e w' => e = .returned (.agg #[.int .i64 q, .int .i64 (DM.tk s q), .int .i64 r, .bool h]) ∧ Below w.heap.size w w' := by
  go_enter Try.func24, Try.ntmps24
  go_wp2_with (refine wpList_load23 rfl _ rfl w.heap.size s rfl (((SB.new w s).alloc _).alloc _) ?_)
  have HB0 := Hid.intro' (((((Below.refl _ w).alloc (Nat.le_refl _) (.cells (sv s).toArray 23)).alloc (by simp) (.cells #[.int .i64 p, .int .i64 l, .int .i64 r, .bool h] 27)).alloc (by simp; omega) (.cells #[.int .i64 0, .int .i64 0, .int .i64 0, .bool false] 27)))
  have HD0 := Hid.intro' ((DB.new (w.alloc (.cells (sv s).toArray 23)) p l r h).alloc (.cells #[.int .i64 0, .int .i64 0, .int .i64 0, .bool false] 27))
  have HE0 := Hid.intro' (DB.new ((w.alloc (.cells (sv s).toArray 23)).alloc (.cells #[.int .i64 p, .int .i64 l, .int .i64 r, .bool h] 27)) 0 0 0 false)
  refine (ticks_any s _ _).mono ?_
  rintro e W1 ⟨rfl, hb⟩
  have HB1 := Hid.intro' (HB0.out.trans (hb.mono HB0.out.size))
  have hd := HD0.out.below' hb
  have he := HE0.out.below' hb
  simp only [World.size_alloc] at hd he
  have a0 := hd.c0; have a1 := hd.c1; have a2 := hd.c2; have a3 := hd.c3
  have f0 := hd.fr 0; have f1 := hd.fr 1; have f2 := hd.fr 2; have f3 := hd.fr 3
  have b0 := he.c0; have b1 := he.c1; have b2 := he.c2; have b3 := he.c3
  have g0 := he.fr 0; have g1 := he.fr 1; have g2 := he.fr 2; have g3 := he.fr 3
  clear hb HB0 HD0 HE0 hd he
  go_wp2
  refine bodyPost_ret (by simp [results, Try.results24, go_sem, b0, b1, b2, b3]; rfl) rfl ?_
  refine ⟨rfl, ?_⟩
  repeat refine below_set ?_ (by omega)
  exact HB1.out

set_option maxHeartbeats 1000000 in
theorem hold_any (s : St) (p l r : Int) (h b : Bool) (r1 : 0 ≤ r) (r2 : r ≤ 10) (w : World) :
    Calls Try.prog 25 #[.agg (sv s).toArray, .agg #[.int .i64 p, .int .i64 l, .int .i64 r, .bool h], .bool b] w fun e w' => e = .returned (dv (DM.hd s ⟨p, l, r, h⟩ b)) ∧ Below w.heap.size w w' := by
  have e8 : (sv s)[8]? = some (.int .i64 s.nud) := rfl
  go_enter Try.func25, Try.ntmps25
  go_wp2
  all_goals
    refine bodyPost_ret (by simp [results, Try.results25, go_sem]; rfl) rfl ?_
    refine ⟨?_, ((((Below.refl _ w).alloc (Nat.le_refl _) _).alloc (by simp) _).alloc (by simp; omega) _)⟩
    clear e8
    unfold dv DM.hd
    simp_all
    try (rw [if_neg (by omega)]; simp)

set_option maxHeartbeats 1000000 in
theorem pass_any (s : St) (p l r : Int) (h : Bool) (l1 : 1 ≤ l) (l2 : l ≤ 1000) (w : World) :
    Calls Try.prog 26 #[.agg (sv s).toArray, .agg #[.int .i64 p, .int .i64 l, .int .i64 r, .bool h]] w fun e w' => e = .returned (dv (DM.ps s ⟨p, l, r, h⟩)) ∧ Below w.heap.size w w' := by
  go_enter Try.func26, Try.ntmps26
  by_cases hl : 1 < l
  · go_wp2
    refine bodyPost_ret (by simp [results, Try.results26, go_sem]; rfl) rfl ?_
    refine ⟨?_, ((((Below.refl _ w).alloc (Nat.le_refl _) _).alloc (by simp) _).alloc (by simp; omega) _)⟩
    unfold dv DM.ps
    rw [if_pos hl]
  · obtain rfl : l = 1 := by omega
    clear l1 l2 hl
    go_wp2_with (refine wpList_load23 rfl _ rfl w.heap.size s rfl (((SB.new w s).alloc _).alloc _) ?_)
    · refine (calls_keep (bd := w.heap.size + 1) (be := w.heap.size + 1 + 1) (enter_any s p 0 r 2 h _) ((((Below.refl _ w).alloc (Nat.le_refl _) _).alloc (by simp) _).alloc (by simp; omega) _) (((SB.new w s).alloc _).alloc _) ((DB.new' _ p 0 r h (by simp)).alloc _) (DB.new' _ 0 0 0 false (by simp))).mono ?_
      rintro e W1 ⟨rfl, hB, _, _, he⟩
      have HB := Hid.intro' hB
      have b0 := he.c0; have b1 := he.c1; have b2 := he.c2; have b3 := he.c3
      have g0 := he.fr 0; have g1 := he.fr 1; have g2 := he.fr 2; have g3 := he.fr 3
      clear hB he
      go_wp2
      refine bodyPost_ret (by simp [results, Try.results26, go_sem, b0, b1, b2, b3]; rfl) rfl ?_
      refine ⟨?_, ?_⟩
      · unfold dv DM.ps DM.en
        simp_all
      · repeat refine below_set ?_ (by omega)
        exact HB.out
    · refine (calls_keep (bd := w.heap.size + 1) (be := w.heap.size + 1 + 1) (enter_any s p 0 r 3 h _) ((((Below.refl _ w).alloc (Nat.le_refl _) _).alloc (by simp) _).alloc (by simp; omega) _) (((SB.new w s).alloc _).alloc _) ((DB.new' _ p 0 r h (by simp)).alloc _) (DB.new' _ 0 0 0 false (by simp))).mono ?_
      rintro e W1 ⟨rfl, hB, _, _, he⟩
      have HB := Hid.intro' hB
      have b0 := he.c0; have b1 := he.c1; have b2 := he.c2; have b3 := he.c3
      have g0 := he.fr 0; have g1 := he.fr 1; have g2 := he.fr 2; have g3 := he.fr 3
      clear hB he
      go_wp2
      refine bodyPost_ret (by simp [results, Try.results26, go_sem, b0, b1, b2, b3]; rfl) rfl ?_
      refine ⟨?_, ?_⟩
      · unfold dv DM.ps DM.en
        simp_all
      · repeat refine below_set ?_ (by omega)
        exact HB.out
    · refine bodyPost_ret (by simp [results, Try.results26, go_sem]; rfl) rfl ?_
      refine ⟨?_, ((((Below.refl _ w).alloc (Nat.le_refl _) _).alloc (by simp) _).alloc (by simp; omega) _)⟩
      unfold dv DM.ps DM.z
      simp_all

end Go.Proofs.Ytjcccdlhdffbdac
