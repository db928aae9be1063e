/- Whether a site may be, as the document's answer tells it. -/
import Derived.Test.YtjpkekmccbpclajPk0
namespace Go.Proofs.Ytjpkekmccbpclaj
open Go.RowKit

/-- one number of a site, with its bounds -/
def bdl (s : St) : List (Int × Int × Int) := [(s.fl, 2, 64), (s.ca, 1, 8), (s.sta, 0, 1000), (s.ste, 1, 1000), (s.sto, 0, 1000), (s.opn, 1, 1000), (s.wai, 1, 1000), (s.clo, 1, 1000), (s.nud, 0, 10), (s.age, 1, 1000000), (s.sil, 1, 1000000), (s.bud, 1, 1000000), (s.per, 1, 1000)]
def okB (x : Int × Int × Int) : Bool := decide (x.2.1 ≤ x.1) && decide (x.1 ≤ x.2.2)
def rightB (s : St) : Bool := (bdl s).all okB
theorem rightB_iff (s : St) : rightB s = true ↔ SM.Rt s := by
  simp only [rightB, bdl, List.all_cons, List.all_nil, okB, Bool.and_eq_true, decide_eq_true_eq, Bool.and_true]
  constructor
  · rintro ⟨⟨_, _⟩, ⟨_, _⟩, ⟨_, _⟩, ⟨_, _⟩, ⟨_, _⟩, ⟨_, _⟩, ⟨_, _⟩, ⟨_, _⟩, ⟨_, _⟩, ⟨_, _⟩, ⟨_, _⟩, ⟨_, _⟩, ⟨_, _⟩⟩
    constructor <;> assumption
  · intro r
    exact ⟨⟨r.fl1, r.fl2⟩, ⟨r.ca1, r.ca2⟩, ⟨r.sta1, r.sta2⟩, ⟨r.ste1, r.ste2⟩, ⟨r.sto1, r.sto2⟩, ⟨r.opn1, r.opn2⟩, ⟨r.wai1, r.wai2⟩, ⟨r.clo1, r.clo2⟩, ⟨r.nud1, r.nud2⟩, ⟨r.age1, r.age2⟩, ⟨r.sil1, r.sil2⟩, ⟨r.bud1, r.bud2⟩, ⟨r.per1, r.per2⟩⟩
theorem rightB_true {s : St} (r : SM.Rt s) : rightB s = true := (rightB_iff s).2 r
theorem rightB_false {s : St} (r : ¬ SM.Rt s) : rightB s = false := by
  cases h : rightB s
  · rfl
  · exact absurd ((rightB_iff s).1 h) r

theorem ret_bool {a b : Bool} (h : a = b) : Ending.returned (.bool a) = .returned (.bool b) := by rw [h]

set_option maxHeartbeats 4000000 in
theorem rright_any (s : St) (w : World) :
    Calls Try.prog 10 #[.agg (sv s).toArray] w fun e w' => e = .returned (.bool (rightB s)) ∧ Below w.heap.size w w' := by
  have n0 := SB.new w s
  have hc0 : (w.alloc (.cells (sv s).toArray 23)).cell? ⟨w.heap.size, 0, none⟩ = some (.int .i64 s.fl) := n0.cell 0
  have hc1 : (w.alloc (.cells (sv s).toArray 23)).cell? ⟨w.heap.size, 1, none⟩ = some (.int .i64 s.ca) := n0.cell 1
  have hc2 : (w.alloc (.cells (sv s).toArray 23)).cell? ⟨w.heap.size, 2, none⟩ = some (.int .i64 s.sta) := n0.cell 2
  have hc3 : (w.alloc (.cells (sv s).toArray 23)).cell? ⟨w.heap.size, 3, none⟩ = some (.int .i64 s.ste) := n0.cell 3
  have hc4 : (w.alloc (.cells (sv s).toArray 23)).cell? ⟨w.heap.size, 4, none⟩ = some (.int .i64 s.sto) := n0.cell 4
  have hc5 : (w.alloc (.cells (sv s).toArray 23)).cell? ⟨w.heap.size, 5, none⟩ = some (.int .i64 s.opn) := n0.cell 5
  have hc6 : (w.alloc (.cells (sv s).toArray 23)).cell? ⟨w.heap.size, 6, none⟩ = some (.int .i64 s.wai) := n0.cell 6
  have hc7 : (w.alloc (.cells (sv s).toArray 23)).cell? ⟨w.heap.size, 7, none⟩ = some (.int .i64 s.clo) := n0.cell 7
  have hc8 : (w.alloc (.cells (sv s).toArray 23)).cell? ⟨w.heap.size, 8, none⟩ = some (.int .i64 s.nud) := n0.cell 8
  have hc9 : (w.alloc (.cells (sv s).toArray 23)).cell? ⟨w.heap.size, 9, none⟩ = some (.int .i64 s.age) := n0.cell 9
  have hc10 : (w.alloc (.cells (sv s).toArray 23)).cell? ⟨w.heap.size, 10, none⟩ = some (.int .i64 s.sil) := n0.cell 10
  have hc11 : (w.alloc (.cells (sv s).toArray 23)).cell? ⟨w.heap.size, 11, none⟩ = some (.int .i64 s.bud) := n0.cell 11
  have hc12 : (w.alloc (.cells (sv s).toArray 23)).cell? ⟨w.heap.size, 12, none⟩ = some (.int .i64 s.per) := n0.cell 12
  have HB : Hid (Below w.heap.size w (w.alloc (.cells (sv s).toArray 23))) := Hid.intro' ((Below.refl _ w).alloc (Nat.le_refl _) _)
  clear n0
  go_enter Try.func10, Try.ntmps10
  go_wp2
  all_goals
    clear hc0 hc1 hc2 hc3 hc4 hc5 hc6 hc7 hc8 hc9 hc10 hc11 hc12
    go_ret
    refine ⟨ret_bool ?_, HB.out⟩
  all_goals first
    | (refine (rightB_false ?_).symm; rintro ⟨q0, q1, q2, q3, q4, q5, q6, q7, q8, q9, q10, q11, q12, q13, q14, q15, q16, q17, q18, q19, q20, q21, q22, q23, q24, q25⟩; omega)
    | (refine (rightB_true ?_).symm; constructor <;> omega)
    | (rw [Bool.eq_iff_iff, rightB_iff]; simp only [decide_eq_true_eq]; constructor; (intro h; constructor <;> omega); (rintro ⟨q0, q1, q2, q3, q4, q5, q6, q7, q8, q9, q10, q11, q12, q13, q14, q15, q16, q17, q18, q19, q20, q21, q22, q23, q24, q25⟩; omega))

end Go.Proofs.Ytjpkekmccbpclaj
