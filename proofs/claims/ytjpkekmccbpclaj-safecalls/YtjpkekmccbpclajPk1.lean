/- Several texts in one, each with its own head. -/
import Derived.Test.YtjpkekmccbpclajPk0
import Derived.Test.YtjpkekmccbpclajSiteQ
import Derived.StillTailTactics
/- The document's example of a door; and what the laws of doors lean on besides. -/
namespace Go.Proofs.Ytjpkekmccbpclaj
open Go.RowKit

theorem rright_t (s : St) (r : SM.Rt s) (w : World) : Calls Try.prog 10 #[.agg (sv s).toArray] w fun e w' => e = .returned (.bool true) ∧ Below w.heap.size w w' := by
  have := rright_any s w
  rwa [rightB_true r] at this
theorem rright_f (s : St) (r : ¬ SM.Rt s) (w : World) : Calls Try.prog 10 #[.agg (sv s).toArray] w fun e w' => e = .returned (.bool false) ∧ Below w.heap.size w w' := by
  have := rright_any s w
  rwa [rightB_false r] at this
def exD : St := ⟨2, 1, 0, 1, 0, 3, 1, 1, 0, 1, 1, 1, 1⟩
end Go.Proofs.Ytjpkekmccbpclaj

/- Steps of regions that only read: a value, a number. -/
namespace Go.Proofs.Ytjpkekmccbpclaj
open Go.RowKit

theorem quiet_val {P : Program} {C : World → Prop} {K : Act → Prop} {o : Oper} {a : Act} (v : Value) (hrun : ∀ w, C w → (execOp a.eval o).run P w = .ok (.value v) w) (h : K (a.put o.dst v)) : o.quiet P a C K :=
  ⟨v, fun w hw => by unfold Oper.quietAt; rw [hrun w hw]; exact ⟨rfl, rfl⟩, h⟩
theorem quiet_load3 {C : World → Prop} {K : Act → Prop} {o : Oper} {a : Act} (x : Operand) (b k : Nat) {v : Value} (ho : o.op = .load 3 x) (hx : a.eval x = .pointer (some ⟨b, k, none⟩)) (hr : ∀ w, C w → w.cell? ⟨b, k, none⟩ = some v)
    (h : K (a.put o.dst v)) : o.quiet Try.prog a C K :=
  quiet_val _ (fun w hw => by unfold execOp; simp only [ho, hx, Sem.run_bind, Sem.run_pure, Result.andThen_ok, load3 w b k v (hr w hw)]) h

end Go.Proofs.Ytjpkekmccbpclaj

/- Steps of regions that draw their order: those that only read, and those that end in a call and a store. -/
namespace Go.Proofs.Ytjpkekmccbpclaj
open Go.RowKit

theorem wpStill_val {P : Program} {ops : Array Oper} {w : World} {Q : Act → Prop} {rest : List Oper} {o : Oper} {a : Act} (v : Value) (hw : Region.wanted o (yielded ops a.tmps) = true)
    (hrun : (execOp a.eval o).run P w = .ok (.value v) w) (h : wpStill P ops w Q rest (a.put o.dst v)) : wpStill P ops w Q (o :: rest) a := by
  unfold wpStill
  rw [if_pos hw]
  unfold Oper.still
  rw [hrun]
  exact ⟨rfl, h⟩
theorem wpStill_load23 {ops : Array Oper} {w : World} {Q : Act → Prop} {rest : List Oper} {o : Oper} {a : Act} (x : Operand) (b : Nat) (s : St) (hw : Region.wanted o (yielded ops a.tmps) = true)
    (ho : o.op = .load 23 x) (hx : a.eval x = .pointer (some ⟨b, 0, none⟩)) (hr : SB w b s)
    (h : ∀ K : Act → Prop, (∀ a, wpStill Try.prog ops w Q rest a → K a) → K (a.put o.dst (.agg (sv s).toArray))) : wpStill Try.prog ops w Q (o :: rest) a :=
  wpStill_val _ hw (by unfold execOp; simp only [ho, hx, Sem.run_bind, Sem.run_pure, Result.andThen_ok, load23 w b s hr.range]) (h _ fun _ h => h)
theorem loadD (w : World) (b : Nat) (p l r : Int) (h : Bool) (hD : DB w b p l r h) : (Instr.loadAt 34 (.pointer (some ⟨b, 0, none⟩))).run Try.prog w = .ok (.agg #[.int .i64 p, .int .i64 l, .int .i64 r, .bool h]) w := by
  simp only [Instr.loadAt, Instr.sureAddr, Sem.run_bind, Sem.run_pure, Result.andThen_ok, run_loadVar_row (P := Try.prog) w b 34 34 _ _ _ hD Try.underlying34 rfl infoD]
theorem wpList_loadDg {ops : Array Oper} {rest : List Oper} {op : Oper} {a : Act} {w : World} {Q : Exit → Act → World → Prop} (hgd : Region.wanted op (yielded ops a.tmps) = true) (x : Operand) (ho : op.op = .load 34 x)
    (b : Nat) {p l r : Int} {h : Bool} (hx : a.eval x = .pointer (some ⟨b, 0, none⟩)) (hD : DB w b p l r h)
    (hn : wpList Try.prog ops Q rest (a.put op.dst (.agg #[.int .i64 p, .int .i64 l, .int .i64 r, .bool h])) w) : wpList Try.prog ops Q (op :: rest) a w :=
  wpList_step fun _ hK => by
    rw [if_pos hgd]
    unfold Oper.wp execOp
    simp only [ho, Sem.run_bind, Sem.run_pure, Result.andThen_ok, hx, loadD w b p l r h hD]
    exact hK _ _ hn
theorem wpStill_loadD {ops : Array Oper} {w : World} {Q : Act → Prop} {rest : List Oper} {o : Oper} {a : Act} (x : Operand) (b : Nat) {p l r : Int} {h : Bool} (hw : Region.wanted o (yielded ops a.tmps) = true)
    (ho : o.op = .load 34 x) (hx : a.eval x = .pointer (some ⟨b, 0, none⟩)) (hr : DB w b p l r h)
    (hn : ∀ K : Act → Prop, (∀ a, wpStill Try.prog ops w Q rest a → K a) → K (a.put o.dst (.agg #[.int .i64 p, .int .i64 l, .int .i64 r, .bool h]))) : wpStill Try.prog ops w Q (o :: rest) a :=
  wpStill_val _ hw (by unfold execOp; simp only [ho, hx, Sem.run_bind, Sem.run_pure, Result.andThen_ok, loadD w b p l r h hr]) (hn _ fun _ h => h)

theorem quiet_load23 {C : World → Prop} {K : Act → Prop} {o : Oper} {a : Act} (x : Operand) (b : Nat) (s : St) (ho : o.op = .load 23 x) (hx : a.eval x = .pointer (some ⟨b, 0, none⟩)) (hr : ∀ w, C w → SB w b s)
    (h : K (a.put o.dst (.agg (sv s).toArray))) : o.quiet Try.prog a C K :=
  quiet_val _ (fun w hw => by unfold execOp; simp only [ho, hx, Sem.run_bind, Sem.run_pure, Result.andThen_ok, load23 w b s (hr w hw).range]) h
theorem quiet_loadD {C : World → Prop} {K : Act → Prop} {o : Oper} {a : Act} (x : Operand) (b : Nat) {p l r : Int} {h : Bool} (ho : o.op = .load 34 x) (hx : a.eval x = .pointer (some ⟨b, 0, none⟩)) (hr : ∀ w, C w → DB w b p l r h)
    (hn : K (a.put o.dst (.agg #[.int .i64 p, .int .i64 l, .int .i64 r, .bool h]))) : o.quiet Try.prog a C K :=
  quiet_val _ (fun w hw => by unfold execOp; simp only [ho, hx, Sem.run_bind, Sem.run_pure, Result.andThen_ok, loadD w b p l r h (hr w hw)]) hn

end Go.Proofs.Ytjpkekmccbpclaj

/- Plain mathematics of numbers within the limit 2^40: no program is named here. -/
namespace Go.Proofs.Ytjpkekmccbpclaj.NumM

/-- a number within the limit -/
def cl (a : Int) : Int := if 1099511627776 < a then 1099511627776 else if a < -1099511627776 then -1099511627776 else a

theorem cl_bd (a : Int) : -1099511627776 ≤ cl a ∧ cl a ≤ 1099511627776 := by
  unfold cl; split
  · omega
  · split <;> omega

theorem cl_hi {a : Int} (h : 1099511627776 < a) : cl a = 1099511627776 := by unfold cl; rw [if_pos h]
theorem cl_lo {a : Int} (h : a < -1099511627776) : cl a = -1099511627776 := by
  unfold cl; rw [if_neg (by omega), if_pos h]
theorem cl_in {a : Int} (h1 : -1099511627776 ≤ a) (h2 : a ≤ 1099511627776) : cl a = a := by
  unfold cl; rw [if_neg (by omega), if_neg (by omega)]
theorem cl_ge {a : Int} (h : 1099511627776 ≤ a) : cl a = 1099511627776 := by
  unfold cl; split
  · rfl
  · split <;> omega
theorem cl_le {a : Int} (h : a ≤ -1099511627776) : cl a = -1099511627776 := by
  unfold cl; split
  · omega
  · split <;> omega
theorem cl_cl (a : Int) : cl (cl a) = cl a := cl_in (cl_bd a).1 (cl_bd a).2
theorem cl_mono {a b : Int} (h : a ≤ b) : cl a ≤ cl b := by
  unfold cl; repeat' split
  all_goals omega
theorem cl_neg (a : Int) : cl (-a) = -cl a := by
  unfold cl; repeat' split
  all_goals omega

/-- the size of a number -/
def sz (a : Int) : Int := if a < 0 then -a else a
theorem sz_nonneg (a : Int) : 0 ≤ sz a := by unfold sz; split <;> omega
theorem sz_bd {a : Int} (h1 : -1099511627776 ≤ a) (h2 : a ≤ 1099511627776) : sz a ≤ 1099511627776 := by
  unfold sz; split <;> omega
theorem sz_pos {a : Int} (h : a ≠ 0) : 1 ≤ sz a := by unfold sz; split <;> omega
theorem sz_neg {a : Int} (h : a < 0) : sz a = -a := by unfold sz; rw [if_pos h]
theorem sz_nn {a : Int} (h : 0 ≤ a) : sz a = a := by unfold sz; rw [if_neg (by omega)]
theorem sz_mul (a b : Int) : sz (a * b) = sz a * sz b := by
  by_cases ha : a < 0 <;> by_cases hb : b < 0
  · have h : 0 < a * b := Int.mul_pos_of_neg_of_neg ha hb
    rw [sz_nn (by omega), sz_neg ha, sz_neg hb, Int.neg_mul_neg]
  · by_cases h0 : b = 0
    · subst h0; simp [sz]
    · have h : a * b < 0 := Int.mul_neg_of_neg_of_pos ha (by omega)
      rw [sz_neg h, sz_neg ha, sz_nn (by omega), Int.neg_mul]
  · by_cases h0 : a = 0
    · subst h0; simp [sz]
    · have h : a * b < 0 := Int.mul_neg_of_pos_of_neg (by omega) hb
      rw [sz_neg h, sz_neg hb, sz_nn (by omega), Int.mul_neg]
  · have h : 0 ≤ a * b := Int.mul_nonneg (by omega) (by omega)
    rw [sz_nn h, sz_nn (by omega), sz_nn (by omega)]

/-- the product, within the limit: the test asks whether it passes -/
theorem big_of {x y : Int} (hx : 1 ≤ x) (h : 1099511627776 / x < y) : 1099511627776 < x * y := by
  have h1 := Int.lt_ediv_add_one_mul_self 1099511627776 (by omega : 0 < x)
  have h2 : (1099511627776 / x + 1) * x ≤ y * x := Int.mul_le_mul_of_nonneg_right (by omega) (by omega)
  rw [Int.mul_comm x y]; omega
theorem small_of {x y : Int} (hx : 1 ≤ x) (h : y ≤ 1099511627776 / x) : x * y ≤ 1099511627776 := by
  have h1 := Int.ediv_mul_le 1099511627776 (by omega : x ≠ 0)
  have h2 : y * x ≤ 1099511627776 / x * x := Int.mul_le_mul_of_nonneg_right h (by omega)
  rw [Int.mul_comm x y]; omega

/-- what the product comes to where it passes the limit -/
theorem cl_mul_pass {a b : Int} (ha : a ≠ 0) (h : 1099511627776 / sz a < sz b) :
    cl (a * b) = if (a < 0) ≠ (b < 0) then -1099511627776 else 1099511627776 := by
  have hb := big_of (sz_pos ha) h
  rw [← sz_mul] at hb
  have h1 := sz_nonneg (1099511627776 / sz a)
  have hb0 : b ≠ 0 := by
    rintro rfl
    simp [sz] at hb
  by_cases hm : a * b < 0
  · rw [sz_neg hm] at hb
    rw [cl_lo (by omega)]
    by_cases xa : a < 0 <;> by_cases xb : b < 0
    · have := Int.mul_pos_of_neg_of_neg xa xb; omega
    · simp [xa, xb]
    · simp [xa, xb]
    · have := Int.mul_nonneg (by omega : 0 ≤ a) (by omega : 0 ≤ b); omega
  · rw [sz_nn (by omega)] at hb
    rw [cl_hi hb]
    by_cases xa : a < 0 <;> by_cases xb : b < 0
    · simp [xa, xb]
    · have := Int.mul_neg_of_neg_of_pos xa (by omega : 0 < b); omega
    · have := Int.mul_neg_of_pos_of_neg (by omega : 0 < a) xb; omega
    · simp [xa, xb]
theorem mul_small {a b : Int} (h : a = 0 ∨ sz b ≤ 1099511627776 / sz a) : -1099511627776 ≤ a * b ∧ a * b ≤ 1099511627776 := by
  by_cases ha : a = 0
  · subst ha; simp
  · have h' : sz b ≤ 1099511627776 / sz a := by rcases h with h | h; exact absurd h ha; exact h
    have := small_of (sz_pos ha) h'
    rw [← sz_mul] at this
    by_cases hm : a * b < 0
    · rw [sz_neg hm] at this; omega
    · rw [sz_nn (by omega)] at this; omega

/-- one round of the product by adding -/
theorem round_odd {n a q : Int} (hn : 0 ≤ n) (ha : 0 ≤ a) (hq : 0 ≤ q) :
    cl (cl (n + a) + cl (a + a) * q) = cl (n + a * (2 * q + 1)) := by
  have e : n + a * (2 * q + 1) = (n + a) + (a + a) * q := by
    rw [Int.mul_add, Int.mul_one, ← Int.mul_assoc, Int.mul_comm a 2, Int.two_mul]; omega
  have h0 : 0 ≤ (a + a) * q := Int.mul_nonneg (by omega) hq
  have h1 : 0 ≤ cl (a + a) * q := Int.mul_nonneg (by have := cl_mono (show 0 ≤ a + a by omega); simpa [cl] using this) hq
  rw [e]
  by_cases c1 : n + a ≤ 1099511627776
  · rw [cl_in (a := n + a) (by omega) c1]
    by_cases c2 : a + a ≤ 1099511627776
    · rw [cl_in (a := a + a) (by omega) c2]
    · rw [cl_hi (a := a + a) (by omega)]
      by_cases c3 : q = 0
      · subst c3; simp
      · have g1 : 1099511627776 * 1 ≤ 1099511627776 * q := Int.mul_le_mul_of_nonneg_left (by omega) (by omega)
        have g2 : 1099511627776 * q ≤ (a + a) * q := Int.mul_le_mul_of_nonneg_right (by omega) hq
        rw [cl_ge (by omega), cl_ge (by omega)]
  · rw [cl_hi (a := n + a) (by omega), cl_ge (by omega), cl_ge (by omega)]
theorem round_even {n a q : Int} (hn : 0 ≤ n) (ha : 0 ≤ a) (hq : 0 ≤ q) :
    cl (n + cl (a + a) * q) = cl (n + a * (2 * q)) := by
  have e : n + a * (2 * q) = n + (a + a) * q := by
    rw [← Int.mul_assoc, Int.mul_comm a 2, Int.two_mul]
  have h0 : 0 ≤ (a + a) * q := Int.mul_nonneg (by omega) hq
  rw [e]
  by_cases c2 : a + a ≤ 1099511627776
  · rw [cl_in (a := a + a) (by omega) c2]
  · rw [cl_hi (a := a + a) (by omega)]
    by_cases c3 : q = 0
    · subst c3; simp
    · have g1 : 1099511627776 * 1 ≤ 1099511627776 * q := Int.mul_le_mul_of_nonneg_left (by omega) (by omega)
      have g2 : 1099511627776 * q ≤ (a + a) * q := Int.mul_le_mul_of_nonneg_right (by omega) hq
      rw [cl_ge (by omega), cl_ge (by omega)]

theorem cl_nn {a : Int} (h : 0 ≤ a) : 0 ≤ cl a := by
  have := cl_mono h
  simpa [cl] using this
/-- the product's sign is put back -/
theorem signs_pp {a b n : Int} (xa : decide (a < 0) = false) (xb : decide (b < 0) = false) (h : cl n = cl (sz a * sz b)) (h1 : 0 ≤ n) (h2 : n ≤ 1099511627776) : n = cl (a * b) := by
  simp only [decide_eq_false_iff_not] at xa xb
  rw [cl_in (by omega) h2] at h
  rw [h, sz_nn (by omega), sz_nn (by omega)]
theorem signs_nn {a b n : Int} (xa : decide (a < 0) = true) (xb : decide (b < 0) = true) (h : cl n = cl (sz a * sz b)) (h1 : 0 ≤ n) (h2 : n ≤ 1099511627776) : n = cl (a * b) := by
  simp only [decide_eq_true_eq] at xa xb
  rw [cl_in (by omega) h2] at h
  rw [h, sz_neg xa, sz_neg xb, Int.neg_mul_neg]
theorem signs_np {a b n : Int} (xa : decide (a < 0) = true) (xb : decide (b < 0) = false) (h : cl n = cl (sz a * sz b)) (h1 : 0 ≤ n) (h2 : n ≤ 1099511627776) : -n = cl (a * b) := by
  simp only [decide_eq_true_eq, decide_eq_false_iff_not] at xa xb
  rw [cl_in (by omega) h2] at h
  rw [h, sz_neg xa, sz_nn (by omega), Int.neg_mul, cl_neg, Int.neg_neg]
theorem signs_pn {a b n : Int} (xa : decide (a < 0) = false) (xb : decide (b < 0) = true) (h : cl n = cl (sz a * sz b)) (h1 : 0 ≤ n) (h2 : n ≤ 1099511627776) : -n = cl (a * b) := by
  simp only [decide_eq_true_eq, decide_eq_false_iff_not] at xa xb
  rw [cl_in (by omega) h2] at h
  rw [h, sz_nn (by omega), sz_neg xb, Int.mul_neg, cl_neg, Int.neg_neg]
theorem step_odd {n x y : Int} (hn : 0 ≤ n) (hn2 : n ≤ 1099511627776) (hx : 0 ≤ x) (hx2 : x ≤ 1099511627776) (hy : 0 ≤ y) (ho : y % 2 = 1) :
    cl (cl (cl n + cl x) + cl (cl x + cl x) * (y / 2)) = cl (n + x * y) := by
  rw [cl_in (a := n) (by omega) hn2, cl_in (a := x) (by omega) hx2, round_odd hn hx (by omega)]
  rw [show 2 * (y / 2) + 1 = y by omega]
theorem step_even {n x y : Int} (hn : 0 ≤ n) (hx : 0 ≤ x) (hx2 : x ≤ 1099511627776) (hy : 0 ≤ y) (ho : ¬ y % 2 = 1) :
    cl (n + cl (cl x + cl x) * (y / 2)) = cl (n + x * y) := by
  rw [cl_in (a := x) (by omega) hx2, round_even hn hx (by omega)]
  rw [show 2 * (y / 2) = y by omega]
theorem dbl_nn {x y : Int} (hx : 0 ≤ x) (hy : 0 ≤ y) : 0 ≤ cl (cl x + cl y) := cl_nn (by have := cl_nn hx; have := cl_nn hy; omega)

/-- the sum of a list, one behind the other -/
def sumL (l : List Int) : Int := l.foldl (fun n x => cl (cl n + cl x)) 0
theorem sumL_snoc (l : List Int) (x : Int) : sumL (l ++ [x]) = cl (cl (sumL l) + cl x) := by simp [sumL]
theorem sumL_bd (l : List Int) : -1099511627776 ≤ sumL l ∧ sumL l ≤ 1099511627776 := by
  rcases List.eq_nil_or_concat l with h | ⟨l', x, h⟩
  · subst h; simp [sumL]
  · rw [h, List.concat_eq_append, sumL_snoc]; exact cl_bd _

end Go.Proofs.Ytjpkekmccbpclaj.NumM

/- Plain mathematics of sites: what is right, and how long things take. No program is named here. -/
namespace Go.Proofs.Ytjpkekmccbpclaj

namespace SM

/-- how far -/
def dist (a b : Int) : Int := if a < b then b - a else a - b
/-- travel -/
def trav (s : St) (a b : Int) : Int := if a < 0 ∨ b < 0 ∨ s.fl ≤ a ∨ s.fl ≤ b ∨ a = b then 0 else s.sta + s.ste * dist a b + s.sto
/-- a hold, within its bounds -/
def hol (h : Int) : Int := if h < 0 then 0 else if 1000000 < h then 1000000 else h
def run (s : St) : Int := s.opn + s.wai + s.clo + 4
def ser (s : St) (h : Int) : Int := s.sta + s.ste * (s.fl - 1) + s.sto + run s + s.nud * (run s + hol h)
def bou (s : St) (h : Int) : Int := s.age + 130 * ser s h + s.per

theorem hol_bd (h : Int) : 0 ≤ hol h ∧ hol h ≤ 1000000 := by
  unfold hol; split
  · omega
  · split <;> omega
theorem run_bd {s : St} (r : Rt s) : 7 ≤ run s ∧ run s ≤ 3004 := by
  have := r.opn1; have := r.opn2; have := r.wai1; have := r.wai2; have := r.clo1; have := r.clo2
  unfold run; omega
theorem mul_bd {a b A B : Int} (h1 : 0 ≤ a) (h2 : a ≤ A) (h3 : 0 ≤ b) (h4 : b ≤ B) : 0 ≤ a * b ∧ a * b ≤ A * B :=
  ⟨Int.mul_nonneg h1 h3, Int.mul_le_mul h2 h4 h3 (by omega)⟩
theorem step_bd {s : St} (r : Rt s) {d : Int} (h1 : 0 ≤ d) (h2 : d ≤ 63) : 0 ≤ s.ste * d ∧ s.ste * d ≤ 63000 := by
  have := r.ste1; have := r.ste2
  have := mul_bd (a := s.ste) (b := d) (A := 1000) (B := 63) (by omega) (by omega) h1 h2
  omega
theorem nudge_bd {s : St} (r : Rt s) (h : Int) : 0 ≤ s.nud * (run s + hol h) ∧ s.nud * (run s + hol h) ≤ 10030040 := by
  have := r.nud1; have := r.nud2
  have := run_bd r; have := hol_bd h
  have := mul_bd (a := s.nud) (b := run s + hol h) (A := 10) (B := 1003004) (by omega) (by omega) (by omega) (by omega)
  omega
theorem ser_bd {s : St} (r : Rt s) (h : Int) : 8 ≤ ser s h ∧ ser s h ≤ 10098044 := by
  have a := step_bd r (d := s.fl - 1) (by have := r.fl1; omega) (by have := r.fl2; omega)
  have b := nudge_bd r h
  have c := run_bd r
  have := r.sta1; have := r.sta2; have := r.sto1; have := r.sto2
  have e := mul_bd (a := 1) (b := s.fl - 1) (A := s.ste) (B := s.fl - 1) (by omega) r.ste1 (by have := r.fl1; omega) (by omega)
  have := r.fl1
  unfold ser; omega
theorem bou_bd {s : St} (r : Rt s) (h : Int) : 0 ≤ bou s h ∧ bou s h ≤ 1400000000 := by
  have := ser_bd r h
  have := r.age1; have := r.age2; have := r.per1; have := r.per2
  unfold bou; omega
theorem dist_bd {s : St} (r : Rt s) {a b : Int} (h1 : 0 ≤ a) (h2 : 0 ≤ b) (h3 : a < s.fl) (h4 : b < s.fl) : 0 ≤ dist a b ∧ dist a b ≤ 63 := by
  have := r.fl2
  unfold dist; split <;> omega
theorem trav_out {s : St} {a b : Int} (h : a < 0 ∨ b < 0 ∨ s.fl ≤ a ∨ s.fl ≤ b ∨ a = b) : trav s a b = 0 := by unfold trav; rw [if_pos h]
theorem trav_in {s : St} {a b : Int} (h1 : 0 ≤ a) (h2 : 0 ≤ b) (h3 : a < s.fl) (h4 : b < s.fl) (h5 : a ≠ b) : trav s a b = s.sta + s.ste * dist a b + s.sto := by
  unfold trav; rw [if_neg (by omega)]
theorem trav_bd {s : St} (r : Rt s) (a b : Int) : 0 ≤ trav s a b ∧ trav s a b ≤ 65000 := by
  unfold trav; split
  · omega
  · rename_i h
    have d := dist_bd r (a := a) (b := b) (by omega) (by omega) (by omega) (by omega)
    have := step_bd r d.1 d.2
    have := r.sta1; have := r.sta2; have := r.sto1; have := r.sto2
    omega

/-- the sums, within the limit -/
theorem sumL3 {a b c : Int} (h1 : 0 ≤ a) (h2 : 0 ≤ b) (h3 : 0 ≤ c) (h : a + b + c ≤ 1099511627776) : NumM.sumL [a, b, c] = a + b + c := by
  have e : ([a, b, c] : List Int) = (([] ++ [a]) ++ [b]) ++ [c] := rfl
  rw [e, NumM.sumL_snoc, NumM.sumL_snoc, NumM.sumL_snoc]
  have z : NumM.sumL [] = 0 := rfl
  rw [z, NumM.cl_in (a := 0) (by omega) (by omega), NumM.cl_in (a := a) (by omega) (by omega), Int.zero_add, NumM.cl_in (a := a) (by omega) (by omega),
    NumM.cl_in (a := a) (by omega) (by omega), NumM.cl_in (a := b) (by omega) (by omega), NumM.cl_in (a := a + b) (by omega) (by omega), NumM.cl_in (a := a + b) (by omega) (by omega),
    NumM.cl_in (a := c) (by omega) (by omega), NumM.cl_in (by omega) (by omega)]
theorem sumL4 {a b c d : Int} (h1 : 0 ≤ a) (h2 : 0 ≤ b) (h3 : 0 ≤ c) (h4 : 0 ≤ d) (h : a + b + c + d ≤ 1099511627776) : NumM.sumL [a, b, c, d] = a + b + c + d := by
  have e : ([a, b, c, d] : List Int) = [a, b, c] ++ [d] := rfl
  rw [e, NumM.sumL_snoc, sumL3 h1 h2 h3 (by omega), NumM.cl_in (a := a + b + c) (by omega) (by omega), NumM.cl_in (a := d) (by omega) (by omega), NumM.cl_in (by omega) (by omega)]
theorem mulC {a b A B : Int} (h1 : 0 ≤ a) (h2 : a ≤ A) (h3 : 0 ≤ b) (h4 : b ≤ B) (hA : A ≤ 1099511627776) (hB : B ≤ 1099511627776) (h : A * B ≤ 1099511627776) : NumM.cl (NumM.cl a * NumM.cl b) = a * b := by
  have := mul_bd h1 h2 h3 h4
  rw [NumM.cl_in (a := a) (by omega) (by omega), NumM.cl_in (a := b) (by omega) (by omega), NumM.cl_in (by omega) (by omega)]
theorem addC {a b : Int} (h1 : 0 ≤ a) (h2 : 0 ≤ b) (h : a + b ≤ 1099511627776) : NumM.cl (NumM.cl a + NumM.cl b) = a + b := by
  rw [NumM.cl_in (a := a) (by omega) (by omega), NumM.cl_in (a := b) (by omega) (by omega), NumM.cl_in (by omega) (by omega)]

theorem travel_sum {s : St} (r : Rt s) {a b : Int} (h1 : 0 ≤ a) (h2 : 0 ≤ b) (h3 : a < s.fl) (h4 : b < s.fl) (h5 : a ≠ b) :
    NumM.sumL [s.sta, NumM.cl (NumM.cl s.ste * NumM.cl (dist a b)), s.sto] = trav s a b := by
  have d := dist_bd r h1 h2 h3 h4
  have := step_bd r d.1 d.2
  have := r.ste1; have := r.ste2; have := r.sta1; have := r.sta2; have := r.sto1; have := r.sto2
  rw [mulC (A := 1000) (B := 63) (by omega) (by omega) d.1 d.2 (by omega) (by omega) (by omega), sumL3 (by omega) (by omega) (by omega) (by omega), trav_in h1 h2 h3 h4 h5]
theorem run_sum {s : St} (r : Rt s) : NumM.sumL [s.opn, s.wai, s.clo, 4] = run s := by
  have := r.opn1; have := r.opn2; have := r.wai1; have := r.wai2; have := r.clo1; have := r.clo2
  rw [sumL4 (by omega) (by omega) (by omega) (by omega) (by omega)]; rfl
theorem again_mul {s : St} (r : Rt s) (h : Int) : NumM.cl (NumM.cl s.nud * NumM.cl (NumM.cl (NumM.cl (run s) + NumM.cl (hol h)))) = s.nud * (run s + hol h) := by
  have := run_bd r; have := hol_bd h; have := r.nud1; have := r.nud2
  rw [addC (by omega) (by omega) (by omega), mulC (A := 10) (B := 1003004) (by omega) (by omega) (by omega) (by omega) (by omega) (by omega) (by omega)]
theorem again_mul' {s : St} (r : Rt s) (h : Int) : NumM.cl (NumM.cl s.nud * NumM.cl (NumM.cl (NumM.cl (run s) + NumM.cl (hol h)))) = s.nud * (run s + hol h) := again_mul r h
theorem trav_all {s : St} (r : Rt s) : trav s 0 (s.fl - 1) = s.sta + s.ste * (s.fl - 1) + s.sto := by
  have := r.fl1
  rw [trav_in (by omega) (by omega) (by omega) (by omega) (by omega)]
  unfold dist; rw [if_pos (by omega), Int.sub_zero]
theorem ser_sum {s : St} (r : Rt s) (h : Int) : NumM.sumL [trav s 0 (s.fl - 1), run s, s.nud * (run s + hol h)] = ser s h := by
  have := trav_bd r 0 (s.fl - 1); have := run_bd r; have := nudge_bd r h
  rw [sumL3 (by omega) (by omega) (by omega) (by omega), trav_all r]; rfl
theorem bou_sum {s : St} (r : Rt s) (h : Int) : NumM.sumL [s.age, NumM.cl (NumM.cl 130 * NumM.cl (ser s h)), s.per] = bou s h := by
  have := ser_bd r h
  have := r.age1; have := r.age2; have := r.per1; have := r.per2
  rw [mulC (A := 130) (B := 10098044) (by omega) (by omega) (by omega) (by omega) (by omega) (by omega) (by omega), sumL3 (by omega) (by omega) (by omega) (by omega)]; rfl

end SM
end Go.Proofs.Ytjpkekmccbpclaj

/- Cars, tick by tick: plain mathematics. No program is named here. -/
namespace Go.Proofs.Ytjpkekmccbpclaj

/-- a car -/
structure Cr where
  fl : Int
  tg : Int
  ti : Int
  d : Dr
  fa : Bool

namespace CM

/-- a car that stands at a floor -/
def atF (f : Int) : Cr := ⟨f, f, 0, DM.z, false⟩
/-- a tick of a car that moves -/
def ride (c : Cr) : Cr := if c.ti = 1 then ⟨c.tg, c.tg, 0, c.d, c.fa⟩ else ⟨c.fl, c.tg, c.ti - 1, c.d, c.fa⟩
/-- whether a site has a floor -/
def has (s : St) (f : Int) : Bool := decide (0 ≤ f ∧ f < s.fl)
/-- a tick -/
def step (s : St) (c : Cr) (o : Bool) (g : Int) (b : Bool) : Cr :=
  if c.ti ≠ 0 then ride c
  else if c.d.ph ≠ 0 then ⟨c.fl, c.tg, c.ti, DM.step s c.d o b, c.fa⟩
  else if c.fa = true then c
  else if o = true then ⟨c.fl, c.tg, c.ti, DM.step s c.d true b, c.fa⟩
  else if g ≠ c.fl ∧ has s g = true then ⟨c.fl, g, SM.trav s c.fl g, c.d, c.fa⟩
  else c
/-- idle -/
def idle (c : Cr) : Bool := decide (c.ti = 0 ∧ c.d.ph = 0)

/-- a right car in a right site -/
structure Rc (s : St) (c : Cr) : Prop where
  rs : SM.Rt s
  rd : DM.Rd s c.d
  f1 : 0 ≤ c.fl
  f2 : c.fl < s.fl
  t1 : 0 ≤ c.tg
  t2 : c.tg < s.fl
  st : c.ti = 0 → c.tg = c.fl
  mo : c.ti ≠ 0 → c.tg ≠ c.fl ∧ 1 ≤ c.ti ∧ c.ti ≤ SM.trav s c.fl c.tg ∧ c.d = DM.z

/-- what a tick may be, of two right cars -/
def Sf (a b : Cr) : Prop :=
  if b.ti ≠ 0 then (if a.ti ≠ 0 then a.fl = b.fl ∧ a.tg = b.tg ∧ a.ti = b.ti + 1 else a.d.ph = 0 ∧ a.fl = b.fl)
  else if a.ti ≠ 0 then a.ti = 1 ∧ a.tg = b.fl ∧ b.d.ph = 0 else a.fl = b.fl

theorem rd0 {s : St} {d : Dr} (h : DM.Rd s d) (hp : d.ph = 0) : d = DM.z := by
  rcases h with rfl | h
  · rfl
  · have := h.p1; omega
theorem trav_ge {s : St} (r : SM.Rt s) {a b : Int} (h1 : 0 ≤ a) (h2 : 0 ≤ b) (h3 : a < s.fl) (h4 : b < s.fl) (h5 : a ≠ b) : 1 ≤ SM.trav s a b := by
  rw [SM.trav_in h1 h2 h3 h4 h5]
  have d : 1 ≤ SM.dist a b := by unfold SM.dist; split <;> omega
  have := SM.mul_bd (a := 1) (b := SM.dist a b) (A := s.ste) (B := SM.dist a b) (by omega) r.ste1 (by omega) (Int.le_refl _)
  have := r.sta1; have := r.sto1
  omega
theorem Rc.ti_bd {s : St} {c : Cr} (h : Rc s c) : 0 ≤ c.ti ∧ c.ti ≤ 65000 := by
  by_cases h0 : c.ti = 0
  · omega
  · obtain ⟨_, h1, h2, _⟩ := h.mo h0
    have := (SM.trav_bd h.rs c.fl c.tg).2
    omega
theorem rc_fault {s : St} {c : Cr} (h : Rc s c) (f : Bool) : Rc s ⟨c.fl, c.tg, c.ti, c.d, f⟩ := ⟨h.rs, h.rd, h.f1, h.f2, h.t1, h.t2, h.st, h.mo⟩
theorem rc_at {s : St} (r : SM.Rt s) {f : Int} (h1 : 0 ≤ f) (h2 : f < s.fl) : Rc s (atF f) := ⟨r, .inl rfl, h1, h2, h1, h2, fun _ => rfl, fun h => absurd rfl h⟩
theorem rc_door {s : St} {c : Cr} (h : Rc s c) (h0 : c.ti = 0) {d : Dr} (hd : DM.Rd s d) : Rc s ⟨c.fl, c.tg, c.ti, d, c.fa⟩ := ⟨h.rs, hd, h.f1, h.f2, h.t1, h.t2, h.st, fun h' => absurd h0 h'⟩
theorem rc_step {s : St} {c : Cr} (h : Rc s c) (o : Bool) (g : Int) (b : Bool) : Rc s (step s c o g b) := by
  unfold step
  split
  · rename_i hm
    obtain ⟨m1, m2, m3, m4⟩ := h.mo hm
    unfold ride
    split
    · exact ⟨h.rs, h.rd, h.t1, h.t2, h.t1, h.t2, fun _ => rfl, fun h' => absurd rfl h'⟩
    · exact ⟨h.rs, h.rd, h.f1, h.f2, h.t1, h.t2, fun h' => absurd h' (by show ¬ (c.ti - 1 = 0); omega), fun _ => ⟨m1, by show 1 ≤ c.ti - 1; omega, by show c.ti - 1 ≤ SM.trav s c.fl c.tg; omega, m4⟩⟩
  · rename_i hm
    have h0 : c.ti = 0 := by omega
    split
    · exact rc_door h h0 (DM.rd_step h.rs h.rd _ _)
    · split
      · exact h
      · split
        · exact rc_door h h0 (DM.rd_step h.rs h.rd _ _)
        · split
          · rename_i h1 _ _ h2
            have hg : 0 ≤ g ∧ g < s.fl := by have := h2.2; simpa [has] using this
            have hge := trav_ge h.rs h.f1 hg.1 h.f2 hg.2 (fun e => h2.1 e.symm)
            have hp : c.d.ph = 0 := by omega
            exact ⟨h.rs, h.rd, h.f1, h.f2, hg.1, hg.2, fun h' => absurd h' (by show ¬ (SM.trav s c.fl g = 0); omega), fun _ => ⟨h2.1, hge, Int.le_refl _, rd0 h.rd hp⟩⟩
          · exact h
/-- each step is safe -/
theorem sf_step {s : St} {c : Cr} (h : Rc s c) (o : Bool) (g : Int) (b : Bool) : Sf c (step s c o g b) := by
  unfold step
  split
  · rename_i hm
    obtain ⟨m1, m2, m3, m4⟩ := h.mo hm
    unfold ride
    split
    · rename_i h1
      unfold Sf
      rw [if_neg (by simp), if_pos hm]
      exact ⟨h1, rfl, by show c.d.ph = 0; rw [m4]; rfl⟩
    · unfold Sf
      rw [if_pos (by show c.ti - 1 ≠ 0; omega), if_pos hm]
      exact ⟨rfl, rfl, by show c.ti = c.ti - 1 + 1; omega⟩
  · rename_i hm
    have key : ∀ x : Cr, x.ti = c.ti → x.fl = c.fl → Sf c x := fun x h1 h2 => by
      unfold Sf
      rw [if_neg (by rw [h1]; exact hm), if_neg hm, h2]
    split
    · exact key _ rfl rfl
    · rename_i hp
      split
      · exact key _ rfl rfl
      · split
        · exact key _ rfl rfl
        · split
          · rename_i h2
            have hg : 0 ≤ g ∧ g < s.fl := by have := h2.2; simpa [has] using this
            have hge := trav_ge h.rs h.f1 hg.1 h.f2 hg.2 (fun e => h2.1 e.symm)
            unfold Sf
            rw [if_pos (by show SM.trav s c.fl g ≠ 0; omega), if_neg hm]
            exact ⟨by omega, rfl⟩
          · exact key _ rfl rfl
/-- a car that isn't idle goes on just so, whatever it is told -/
theorem busy {s : St} {c : Cr} (hi : idle c = false) (o o' : Bool) (g g' : Int) (b : Bool) : step s c o g b = step s c o' g' b := by
  unfold idle at hi
  rw [decide_eq_false_iff_not] at hi
  unfold step
  by_cases hm : c.ti ≠ 0
  · rw [if_pos hm, if_pos hm]
  · have hp : c.d.ph ≠ 0 := by omega
    rw [if_neg hm, if_pos hp, if_neg hm, if_pos hp]
    unfold DM.step
    rw [if_neg hp, if_neg hp]
theorem busy_fault {s : St} {c : Cr} (hi : idle c = false) (f : Bool) (o : Bool) (g : Int) (b : Bool) :
    step s ⟨c.fl, c.tg, c.ti, c.d, f⟩ o g b = ⟨(step s c o g b).fl, (step s c o g b).tg, (step s c o g b).ti, (step s c o g b).d, f⟩ ∧ (step s c o g b).fa = c.fa := by
  unfold idle at hi
  rw [decide_eq_false_iff_not] at hi
  unfold step
  by_cases hm : c.ti ≠ 0
  · rw [if_pos hm, if_pos hm]
    unfold ride
    by_cases h1 : c.ti = 1
    · simp [h1]
    · simp [h1]
  · have hp : c.d.ph ≠ 0 := by omega
    rw [if_neg hm, if_pos hp, if_neg hm, if_pos hp]
    exact ⟨rfl, rfl⟩
theorem fault_idle {s : St} {c : Cr} (hi : idle c = true) (hf : c.fa = true) (o : Bool) (g : Int) (b : Bool) : step s c o g b = c := by
  unfold idle at hi
  rw [decide_eq_true_eq] at hi
  unfold step
  rw [if_neg (by omega), if_neg (by omega), if_pos hf]

end CM
end Go.Proofs.Ytjpkekmccbpclaj

/- A car in memory: a block of eight cells; commands; laws of whole loads and stores. -/
namespace Go.Proofs.Ytjpkekmccbpclaj
open Go.RowKit

theorem Upd.trans {b : Nat} {w W1 W2 : World} (h1 : Upd b w W1) (h2 : Upd b W1 W2) : Upd b w W2 := by
  obtain ⟨c1, rfl⟩ := h1
  obtain ⟨c2, rfl⟩ := h2
  exact ⟨c2, setRow_setRow w b c1 c2⟩
theorem Upd.set {b : Nat} {w : World} {cs : Array Value} {t : TypeId} {fr : Nat × Nat} (h : w.heap[b]? = some (.cells cs t fr)) (i : Nat) (v : Value) : Upd b w (w.setCell ⟨b, i, none⟩ v) := ⟨_, setCell_eq_setRow w b i cs t fr v h⟩

/-- a block that holds a car -/
def CB (W : World) (b : Nat) (c : Cr) : Prop := W.heap[b]? = some (.cells #[.int .i64 c.fl, .int .i64 c.tg, .int .i64 c.ti, .int .i64 c.d.ph, .int .i64 c.d.le, .int .i64 c.d.ru, .bool c.d.he, .bool c.fa] 36 (0, 0))
/-- a block that holds a command -/
def MB (W : World) (b : Nat) (o : Bool) (g : Int) : Prop := W.heap[b]? = some (.cells #[.bool o, .int .i64 g] 40 (0, 0))
section
variable {W W' : World} {b : Nat} {c : Cr} {o : Bool} {g : Int}
theorem CB.lt (H : CB W b c) : b < W.heap.size := (Array.getElem?_eq_some_iff.1 H).1
theorem CB.c0 (H : CB W b c) : W.cell? ⟨b, 0, none⟩ = some (.int .i64 c.fl) := by simp [World.cell?, show W.heap[b]? = _ from H]
theorem CB.c1 (H : CB W b c) : W.cell? ⟨b, 1, none⟩ = some (.int .i64 c.tg) := by simp [World.cell?, show W.heap[b]? = _ from H]
theorem CB.c2 (H : CB W b c) : W.cell? ⟨b, 2, none⟩ = some (.int .i64 c.ti) := by simp [World.cell?, show W.heap[b]? = _ from H]
theorem CB.c3 (H : CB W b c) : W.cell? ⟨b, 3, none⟩ = some (.int .i64 c.d.ph) := by simp [World.cell?, show W.heap[b]? = _ from H]
theorem CB.c4 (H : CB W b c) : W.cell? ⟨b, 4, none⟩ = some (.int .i64 c.d.le) := by simp [World.cell?, show W.heap[b]? = _ from H]
theorem CB.c5 (H : CB W b c) : W.cell? ⟨b, 5, none⟩ = some (.int .i64 c.d.ru) := by simp [World.cell?, show W.heap[b]? = _ from H]
theorem CB.c6 (H : CB W b c) : W.cell? ⟨b, 6, none⟩ = some (.bool c.d.he) := by simp [World.cell?, show W.heap[b]? = _ from H]
theorem CB.c7 (H : CB W b c) : W.cell? ⟨b, 7, none⟩ = some (.bool c.fa) := by simp [World.cell?, show W.heap[b]? = _ from H]
theorem CB.fr (H : CB W b c) (i : Nat) : W.frozen? ⟨b, i, none⟩ = false := by simp [World.frozen?, show W.heap[b]? = _ from H]
theorem CB.below {B : Nat} (H : CB W b c) (hb : Below B W W') (hlt : b < B) : CB W' b c := (hb.block b hlt).trans H
theorem CB.below' (H : CB W b c) (hb : Below W.heap.size W W') : CB W' b c := H.below hb H.lt
theorem CB.alloc (H : CB W b c) (x : Obj) : CB (W.alloc x) b c := (Below.heap_alloc W x b H.lt).trans H
theorem CB.new (W : World) (c : Cr) : CB (W.alloc (.cells #[.int .i64 c.fl, .int .i64 c.tg, .int .i64 c.ti, .int .i64 c.d.ph, .int .i64 c.d.le, .int .i64 c.d.ru, .bool c.d.he, .bool c.fa] 36)) W.heap.size c := World.alloc_heap_new W _
theorem CB.new' (W : World) (c : Cr) {n : Nat} (hn : W.heap.size = n) : CB (W.alloc (.cells #[.int .i64 c.fl, .int .i64 c.tg, .int .i64 c.ti, .int .i64 c.d.ph, .int .i64 c.d.le, .int .i64 c.d.ru, .bool c.d.he, .bool c.fa] 36)) n c := hn ▸ CB.new W c
theorem CB.other {b' : Nat} (H : CB W b c) (hne : b ≠ b') (i : Nat) (v : Value) : CB (W.setCell ⟨b', i, none⟩ v) b c :=
  (Below.heap_setCell W ⟨b', i, none⟩ v b hne).trans H
theorem CB.fault (H : CB W b c) (f : Bool) : CB (W.setCell ⟨b, 7, none⟩ (.bool f)) b ⟨c.fl, c.tg, c.ti, c.d, f⟩ := heap_setCell_same W b 7 _ _ _ H
theorem CB.set0 (H : CB W b c) (f : Int) : CB (W.setCell ⟨b, 0, none⟩ (.int .i64 f)) b ⟨f, c.tg, c.ti, c.d, c.fa⟩ := heap_setCell_same W b 0 _ _ _ H
theorem CB.set1 (H : CB W b c) (f : Int) : CB (W.setCell ⟨b, 1, none⟩ (.int .i64 f)) b ⟨c.fl, f, c.ti, c.d, c.fa⟩ := heap_setCell_same W b 1 _ _ _ H
theorem CB.set2 (H : CB W b c) (f : Int) : CB (W.setCell ⟨b, 2, none⟩ (.int .i64 f)) b ⟨c.fl, c.tg, f, c.d, c.fa⟩ := heap_setCell_same W b 2 _ _ _ H
theorem Upd.cb {k : Nat} (hu : Upd k W W') (hc : CB W b c) (hne : b ≠ k) : CB W' b c := by obtain ⟨cs, rfl⟩ := hu; exact (setRow_other W k b cs hne).trans hc
theorem MB.lt (H : MB W b o g) : b < W.heap.size := (Array.getElem?_eq_some_iff.1 H).1
theorem MB.c0 (H : MB W b o g) : W.cell? ⟨b, 0, none⟩ = some (.bool o) := by simp [World.cell?, show W.heap[b]? = _ from H]
theorem MB.c1 (H : MB W b o g) : W.cell? ⟨b, 1, none⟩ = some (.int .i64 g) := by simp [World.cell?, show W.heap[b]? = _ from H]
theorem MB.below' (H : MB W b o g) (hb : Below W.heap.size W W') : MB W' b o g := (hb.block b H.lt).trans H
theorem MB.alloc (H : MB W b o g) (x : Obj) : MB (W.alloc x) b o g := (Below.heap_alloc W x b H.lt).trans H
theorem MB.new' (W : World) (o : Bool) (g : Int) {n : Nat} (hn : W.heap.size = n) : MB (W.alloc (.cells #[.bool o, .int .i64 g] 40)) n o g := hn ▸ World.alloc_heap_new W _
theorem Upd.mb {k : Nat} (hu : Upd k W W') (hc : MB W b o g) (hne : b ≠ k) : MB W' b o g := by obtain ⟨cs, rfl⟩ := hu; exact (setRow_other W k b cs hne).trans hc
end

theorem infoC : (Try.prog.info? 36).map (·.size) = some 8 := by kernel_rfl
theorem infoM : (Try.prog.info? 40).map (·.size) = some 2 := by kernel_rfl
section
variable {ops : Array Oper} {rest : List Oper} {op : Oper} {a : Act} {w : World} {Q : Exit → Act → World → Prop}
theorem wpList_storeC (hgd : op.guard = none) (x y : Operand) (ho : op.op = .store 36 x y)
    (b : Nat) {c c' : Cr} (hx : a.eval x = .pointer (some ⟨b, 0, none⟩)) (hy : a.eval y = .agg #[.int .i64 c'.fl, .int .i64 c'.tg, .int .i64 c'.ti, .int .i64 c'.d.ph, .int .i64 c'.d.le, .int .i64 c'.d.ru, .bool c'.d.he, .bool c'.fa]) (hC : CB w b c)
    (hn : ∀ W', Upd b w W' → CB W' b c' → wpList Try.prog ops Q rest (a.put op.dst undef) W') : wpList Try.prog ops Q (op :: rest) a w :=
  wpList_store_row hgd 36 x y ho b _ hx hy _ _ hC infoC rfl (by simp [Value.oneCell']) (hn _ ⟨_, rfl⟩ (setRow_heap w b _ _ _ _ hC))
theorem wpList_loadC (hgd : op.guard = none) (x : Operand) (ho : op.op = .load 36 x)
    (b : Nat) {c : Cr} (hx : a.eval x = .pointer (some ⟨b, 0, none⟩)) (hC : CB w b c)
    (hn : wpList Try.prog ops Q rest (a.put op.dst (.agg #[.int .i64 c.fl, .int .i64 c.tg, .int .i64 c.ti, .int .i64 c.d.ph, .int .i64 c.d.le, .int .i64 c.d.ru, .bool c.d.he, .bool c.fa])) w) : wpList Try.prog ops Q (op :: rest) a w :=
  wpList_load_row hgd 36 x ho b hx _ _ _ _ hC Try.underlying36 rfl infoC hn
theorem loadC (w : World) (b : Nat) (c : Cr) (hC : CB w b c) : (Instr.loadAt 36 (.pointer (some ⟨b, 0, none⟩))).run Try.prog w = .ok (.agg #[.int .i64 c.fl, .int .i64 c.tg, .int .i64 c.ti, .int .i64 c.d.ph, .int .i64 c.d.le, .int .i64 c.d.ru, .bool c.d.he, .bool c.fa]) w := by
  simp only [Instr.loadAt, Instr.sureAddr, Sem.run_bind, Sem.run_pure, Result.andThen_ok, run_loadVar_row (P := Try.prog) w b 36 36 _ _ _ hC Try.underlying36 rfl infoC]
theorem wpList_loadCg (hgd : Region.wanted op (yielded ops a.tmps) = true) (x : Operand) (ho : op.op = .load 36 x)
    (b : Nat) {c : Cr} (hx : a.eval x = .pointer (some ⟨b, 0, none⟩)) (hC : CB w b c)
    (hn : wpList Try.prog ops Q rest (a.put op.dst (.agg #[.int .i64 c.fl, .int .i64 c.tg, .int .i64 c.ti, .int .i64 c.d.ph, .int .i64 c.d.le, .int .i64 c.d.ru, .bool c.d.he, .bool c.fa])) w) : wpList Try.prog ops Q (op :: rest) a w :=
  wpList_step fun _ hK => by
    rw [if_pos hgd]
    unfold Oper.wp execOp
    simp only [ho, Sem.run_bind, Sem.run_pure, Result.andThen_ok, hx, loadC w b c hC]
    exact hK _ _ hn
theorem CB.range3 {b : Nat} {c : Cr} (hC : CB w b c) : w.rangeAt b 3 [.int .i64 c.d.ph, .int .i64 c.d.le, .int .i64 c.d.ru, .bool c.d.he] := fun j v hv => by
  have : w.cell? ⟨b, 3 + j, none⟩ = (#[.int .i64 c.fl, .int .i64 c.tg, .int .i64 c.ti, .int .i64 c.d.ph, .int .i64 c.d.le, .int .i64 c.d.ru, .bool c.d.he, .bool c.fa] : Array Value)[3 + j]? := by simp [World.cell?, show w.heap[b]? = _ from hC]
  rw [this]
  rcases j with _ | _ | _ | _ | j <;> first | exact hv | (simp at hv)
theorem wpList_loadM (hgd : op.guard = none) (x : Operand) (ho : op.op = .load 34 x)
    (b : Nat) {c : Cr} (hx : a.eval x = .pointer (some ⟨b, 3, none⟩)) (hC : CB w b c)
    (hn : wpList Try.prog ops Q rest (a.put op.dst (.agg #[.int .i64 c.d.ph, .int .i64 c.d.le, .int .i64 c.d.ru, .bool c.d.he])) w) : wpList Try.prog ops Q (op :: rest) a w :=
  wpList_load_mid hgd 34 x ho b 3 hx _ _ hC.range3 Try.underlying34 rfl infoD hn
/-- four cells in the middle of a car's block are written -/
theorem set4 {b : Nat} {c : Cr} {d : Dr} (hC : CB w b c) : Upd b w (w.setCells b 3 [.int .i64 d.ph, .int .i64 d.le, .int .i64 d.ru, .bool d.he]) ∧ CB (w.setCells b 3 [.int .i64 d.ph, .int .i64 d.le, .int .i64 d.ru, .bool d.he]) b ⟨c.fl, c.tg, c.ti, d, c.fa⟩ := by
  have h1 := heap_setCell_same w b 3 _ _ (.int .i64 d.ph) hC
  have h2 := heap_setCell_same _ b 4 _ _ (.int .i64 d.le) h1
  have h3 := heap_setCell_same _ b 5 _ _ (.int .i64 d.ru) h2
  have h4 := heap_setCell_same _ b 6 _ _ (.bool d.he) h3
  exact ⟨((((Upd.set hC 3 _).trans (Upd.set h1 4 _)).trans (Upd.set h2 5 _)).trans (Upd.set h3 6 _)), h4⟩
theorem there4 {b : Nat} {c : Cr} (hC : CB w b c) : w.there b 3 4 := fun j hj => by
  refine ⟨?_, hC.fr _⟩
  have : j = 0 ∨ j = 1 ∨ j = 2 ∨ j = 3 := by omega
  rcases this with rfl | rfl | rfl | rfl
  · rw [show 3 + 0 = 3 from rfl, hC.c3]; rfl
  · rw [show 3 + 1 = 4 from rfl, hC.c4]; rfl
  · rw [show 3 + 2 = 5 from rfl, hC.c5]; rfl
  · rw [show 3 + 3 = 6 from rfl, hC.c6]; rfl
theorem wpList_storeM (hgd : op.guard = none) (x y : Operand) (ho : op.op = .store 34 x y)
    (b : Nat) {c : Cr} {d : Dr} (hx : a.eval x = .pointer (some ⟨b, 3, none⟩)) (hy : a.eval y = .agg #[.int .i64 d.ph, .int .i64 d.le, .int .i64 d.ru, .bool d.he]) (hC : CB w b c)
    (hn : ∀ W', Upd b w W' → CB W' b ⟨c.fl, c.tg, c.ti, d, c.fa⟩ → wpList Try.prog ops Q rest (a.put op.dst undef) W') : wpList Try.prog ops Q (op :: rest) a w :=
  wpList_store_mid hgd 34 x y ho b 3 _ hx hy (there4 hC) infoD (by simp [Value.oneCell']) (hn _ (set4 hC).1 (set4 hC).2)
end
theorem retC {fn : Func} {t : Tmp} (hf : fn.results = #[.cell t 36]) {tmps : Array Value} {w : World} {b : Nat} {c : Cr} (hp : tmps.getD t undef = .pointer (some ⟨b, 0, none⟩)) (hC : CB w b c) :
    (results fn tmps).run Try.prog w = .ok (.agg #[.int .i64 c.fl, .int .i64 c.tg, .int .i64 c.ti, .int .i64 c.d.ph, .int .i64 c.d.le, .int .i64 c.d.ru, .bool c.d.he, .bool c.fa]) w :=
  results_cell_row hf tmps w b _ _ _ _ hp hC Try.underlying36 rfl infoC
theorem quiet_loadC {C : World → Prop} {K : Act → Prop} {o : Oper} {a : Act} (x : Operand) (b : Nat) {c : Cr} (ho : o.op = .load 36 x) (hx : a.eval x = .pointer (some ⟨b, 0, none⟩)) (hr : ∀ w, C w → CB w b c)
    (hn : K (a.put o.dst (.agg #[.int .i64 c.fl, .int .i64 c.tg, .int .i64 c.ti, .int .i64 c.d.ph, .int .i64 c.d.le, .int .i64 c.d.ru, .bool c.d.he, .bool c.fa]))) : o.quiet Try.prog a C K :=
  quiet_val _ (fun w hw => by unfold execOp; simp only [ho, hx, Sem.run_bind, Sem.run_pure, Result.andThen_ok, loadC w b c (hr w hw)]) hn

/-- the value of a car -/
def cv (c : Cr) : Value := .agg #[.int .i64 c.fl, .int .i64 c.tg, .int .i64 c.ti, .int .i64 c.d.ph, .int .i64 c.d.le, .int .i64 c.d.ru, .bool c.d.he, .bool c.fa]
theorem ret_car {c c' : Cr} (h : c = c') : Ending.returned (.agg #[.int .i64 c.fl, .int .i64 c.tg, .int .i64 c.ti, .int .i64 c.d.ph, .int .i64 c.d.le, .int .i64 c.d.ru, .bool c.d.he, .bool c.fa]) = .returned (cv c') := by rw [h]; rfl

/-- a car held against itself -/
theorem eqC (c : Cr) (w : World) : (Op.equalIn 10000 36 (.agg #[.int .i64 c.fl, .int .i64 c.tg, .int .i64 c.ti, .int .i64 c.d.ph, .int .i64 c.d.le, .int .i64 c.d.ru, .bool c.d.he, .bool c.fa]) (.agg #[.int .i64 c.fl, .int .i64 c.tg, .int .i64 c.ti, .int .i64 c.d.ph, .int .i64 c.d.le, .int .i64 c.d.ru, .bool c.d.he, .bool c.fa])).run Try.prog w = .ok true w := by
  have u3 := Try.underlying3
  have u4 := Try.underlying4
  have uD := Try.underlying34
  have uC := Try.underlying36
  go_simp

end Go.Proofs.Ytjpkekmccbpclaj

/- The contracts of package car's small functions. -/
namespace Go.Proofs.Ytjpkekmccbpclaj
open Go.RowKit

/-- what a call keeps: a site's block and a car's -/
theorem calls_keepC {f : FuncId} {args : Array Value} {w0 W : World} {bs bc : Nat} {s : St} {c : Cr} {R : Ending → Prop}
    (hc : Calls Try.prog f args W fun e w' => R e ∧ Below W.heap.size W w') (hB : Below w0.heap.size w0 W) (hS : SB W bs s) (hC : CB W bc c) :
    Calls Try.prog f args W fun e w' => R e ∧ Below w0.heap.size w0 w' ∧ SB w' bs s ∧ CB w' bc c :=
  hc.mono fun _ _ hh => ⟨hh.1, below_class hB hh.2, hS.below' hh.2, hC.below' hh.2⟩

theorem moves_any (c : Cr) (w : World) :
    Calls Try.prog 33 #[.agg #[.int .i64 c.fl, .int .i64 c.tg, .int .i64 c.ti, .int .i64 c.d.ph, .int .i64 c.d.le, .int .i64 c.d.ru, .bool c.d.he, .bool c.fa]] w fun e w' => e = .returned (.bool (c.ti != 0)) ∧ Below w.heap.size w w' := by
  go_enter Try.func33, Try.ntmps33
  go_wp2
  go_ret
  exact ⟨rfl, (Below.refl _ w).alloc (Nat.le_refl _) _⟩
theorem isShutC_any (c : Cr) (w : World) :
    Calls Try.prog 43 #[.agg #[.int .i64 c.fl, .int .i64 c.tg, .int .i64 c.ti, .int .i64 c.d.ph, .int .i64 c.d.le, .int .i64 c.d.ru, .bool c.d.he, .bool c.fa]] w fun e w' => e = .returned (.bool (c.d.ph == 0)) ∧ Below w.heap.size w w' := by
  go_enter Try.func43, Try.ntmps43
  go_wp2
  go_ret
  exact ⟨rfl, (Below.refl _ w).alloc (Nat.le_refl _) _⟩
theorem moves_t (c : Cr) (h : c.ti ≠ 0) (w : World) : Calls Try.prog 33 #[.agg #[.int .i64 c.fl, .int .i64 c.tg, .int .i64 c.ti, .int .i64 c.d.ph, .int .i64 c.d.le, .int .i64 c.d.ru, .bool c.d.he, .bool c.fa]] w fun e w' => e = .returned (.bool true) ∧ Below w.heap.size w w' := by
  have := moves_any c w
  rwa [show (c.ti != 0) = true by simpa using h] at this
theorem moves_f (c : Cr) (h : c.ti = 0) (w : World) : Calls Try.prog 33 #[.agg #[.int .i64 c.fl, .int .i64 c.tg, .int .i64 c.ti, .int .i64 c.d.ph, .int .i64 c.d.le, .int .i64 c.d.ru, .bool c.d.he, .bool c.fa]] w fun e w' => e = .returned (.bool false) ∧ Below w.heap.size w w' := by
  have := moves_any c w
  rwa [show (c.ti != 0) = false by simpa using h] at this
theorem shutC_t (c : Cr) (h : c.d.ph = 0) (w : World) : Calls Try.prog 43 #[.agg #[.int .i64 c.fl, .int .i64 c.tg, .int .i64 c.ti, .int .i64 c.d.ph, .int .i64 c.d.le, .int .i64 c.d.ru, .bool c.d.he, .bool c.fa]] w fun e w' => e = .returned (.bool true) ∧ Below w.heap.size w w' := by
  have := isShutC_any c w
  rwa [show (c.d.ph == 0) = true by simpa using h] at this
theorem shutC_f (c : Cr) (h : c.d.ph ≠ 0) (w : World) : Calls Try.prog 43 #[.agg #[.int .i64 c.fl, .int .i64 c.tg, .int .i64 c.ti, .int .i64 c.d.ph, .int .i64 c.d.le, .int .i64 c.d.ru, .bool c.d.he, .bool c.fa]] w fun e w' => e = .returned (.bool false) ∧ Below w.heap.size w w' := by
  have := isShutC_any c w
  rwa [show (c.d.ph == 0) = false by simpa using h] at this

theorem has_any (s : St) (f : Int) (w : World) :
    Calls Try.prog 41 #[.agg (sv s).toArray, .int .i64 f] w fun e w' => e = .returned (.bool (CM.has s f)) ∧ Below w.heap.size w w' := by
  have n0 := SB.new w s
  have hc0 : (w.alloc (.cells (sv s).toArray 23)).cell? ⟨w.heap.size, 0, none⟩ = some (.int .i64 s.fl) := n0.cell 0
  have HB : Hid (Below w.heap.size w (w.alloc (.cells (sv s).toArray 23))) := Hid.intro' ((Below.refl _ w).alloc (Nat.le_refl _) _)
  clear n0
  go_enter Try.func41, Try.ntmps41
  go_wp2
  all_goals
    clear hc0
    go_ret
    refine ⟨ret_boo ?_, HB.out⟩
    unfold CM.has
    first | (simp_all; done) | (simp_all; omega)
theorem has_t (s : St) (f : Int) (h : CM.has s f = true) (w : World) : Calls Try.prog 41 #[.agg (sv s).toArray, .int .i64 f] w fun e w' => e = .returned (.bool true) ∧ Below w.heap.size w w' := by
  have := has_any s f w
  rwa [h] at this
theorem has_f (s : St) (f : Int) (h : CM.has s f = false) (w : World) : Calls Try.prog 41 #[.agg (sv s).toArray, .int .i64 f] w fun e w' => e = .returned (.bool false) ∧ Below w.heap.size w w' := by
  have := has_any s f w
  rwa [h] at this

theorem wayOf_any (c : Cr) (w : World) :
    Calls Try.prog 34 #[.agg #[.int .i64 c.fl, .int .i64 c.tg, .int .i64 c.ti, .int .i64 c.d.ph, .int .i64 c.d.le, .int .i64 c.d.ru, .bool c.d.he, .bool c.fa]] w fun e w' => e = .returned (.agg #[.int .i64 c.fl, .int .i64 c.tg]) ∧ Below w.heap.size w w' := by
  go_enter Try.func34, Try.ntmps34
  go_wp2
  refine bodyPost_ret (by simp [results, Try.results34, go_sem]; rfl) rfl ?_
  exact ⟨rfl, ((Below.refl _ w).alloc (Nat.le_refl _) _).alloc (by simp) _⟩

theorem idle_any (c : Cr) (w : World) :
    Calls Try.prog 35 #[.agg #[.int .i64 c.fl, .int .i64 c.tg, .int .i64 c.ti, .int .i64 c.d.ph, .int .i64 c.d.le, .int .i64 c.d.ru, .bool c.d.he, .bool c.fa]] w fun e w' => e = .returned (.bool (CM.idle c)) ∧ Below w.heap.size w w' := by
  have HB : Hid (Below w.heap.size w (w.alloc (.cells #[.int .i64 c.fl, .int .i64 c.tg, .int .i64 c.ti, .int .i64 c.d.ph, .int .i64 c.d.le, .int .i64 c.d.ru, .bool c.d.he, .bool c.fa] 36))) := Hid.intro' ((Below.refl _ w).alloc (Nat.le_refl _) _)
  have HN := Hid.intro' (CB.new w c)
  go_enter Try.func35, Try.ntmps35
  go_wp2_with (refine wpList_loadC rfl _ rfl w.heap.size rfl HN.out ?_)
  by_cases hm : c.ti = 0
  · refine (moves_f c hm _).mono ?_
    rintro e W1 ⟨rfl, hb⟩
    have HB1 := Hid.intro' (below_class HB.out hb)
    have HN1 := Hid.intro' (HN.out.below' hb)
    have HM := Hid.intro' hm
    clear hb HB HN hm
    go_wp2_with (refine wpList_loadCg rfl _ rfl w.heap.size rfl HN1.out ?_)
    refine (isShutC_any c _).mono ?_
    rintro e W2 ⟨rfl, hb⟩
    have HB2 := Hid.intro' (below_class HB1.out hb)
    clear hb HB1 HN1
    go_wp2
    go_ret
    refine ⟨ret_boo ?_, HB2.out⟩
    unfold CM.idle
    simp [HM.out]
    rfl
  · refine (moves_t c hm _).mono ?_
    rintro e W1 ⟨rfl, hb⟩
    have HB1 := Hid.intro' (below_class HB.out hb)
    have HM := Hid.intro' hm
    clear hb HB HN hm
    go_wp2
    go_ret
    refine ⟨ret_boo ?_, HB1.out⟩
    unfold CM.idle
    simp [HM.out]

end Go.Proofs.Ytjpkekmccbpclaj
