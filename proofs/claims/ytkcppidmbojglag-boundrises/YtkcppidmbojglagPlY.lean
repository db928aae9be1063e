/- What the laws ask first: whether a snapshot, or a plan, is more than is looked at; the site of the example. -/
import Derived.Test.YtkcppidmbojglagDrf
import Derived.TacticsInMore
namespace Go.Proofs.Ytkcppidmbojglag
open Go.RowKit

theorem wpListIn_load27g {F : Fence} {n : Nat} {ops : Array Oper} {rest : List Oper} {op : Oper} {a : Act} {w : World} {Q : Exit → Act → World → Prop} (hgd : Region.wanted op (yielded ops a.tmps) = true) (x : Operand) (ho : op.op = .load 27 x)
    (b : Nat) (s : St) (vc vw : Value) (hx : a.eval x = .pointer (some ⟨b, 0, none⟩)) (hr : NB w b s vc vw)
    (h : wpListIn F n Try.prog ops Q rest (a.put op.dst (.agg (nv s vc vw).toArray)) w) : wpListIn F n Try.prog ops Q (op :: rest) a w := by
  refine wpListIn_step fun K hK => ?_
  rw [if_pos hgd]
  unfold Oper.wpIn
  refine ⟨by simp [Oper.about, ho], ?_⟩
  rw [Oper.semAt_plain F _ _ (by rw [ho]; intro c hc'; cases hc')]
  simp only [execOp, ho, Sem.run_bind, Sem.run_pure, Result.andThen_ok, hx, load27 w b s vc vw hr.range, Oper.uponIn]
  exact hK _ _ h

/-- what is looked at -/
structure Sml (s : Sn) (p : List (List Int)) : Prop where
  cs : s.cs.length ≤ 20
  ws : s.ws.length ≤ 200
  pl : p.length ≤ 20
  ll : ∀ l ∈ p, l.length ≤ 200

/-- the answer of it -/
structure GrP (s : Sn) (p : List (List Int)) (w : World) (e : Ending) (w' : World) : Prop where
  out : ∃ g : Bool, e = .returned (.bool g) ∧ Below w.heap.size w w' ∧ (g = false → Sml s p)
set_option maxHeartbeats 4000000 in
theorem great_any (s : Sn) (D : Nat → Prop) (vc vw vp : Value) (p : List (List Int)) (w : World) (hc : R2 D w vc s.cs) (hw : R2 D w vw s.ws) (hp : RL D w vp p) :
    Calls Try.prog 7 #[.agg (nv s.st vc vw).toArray, vp] w fun e w' => GrP s p w e w' := by
  have HP := Hid.intro' hp
  have hbx := (Below.refl w.heap.size w).alloc (Nat.le_refl _) (.cells (nv s.st vc vw).toArray 27)
  have HN := Hid.intro' (NB.new w s.st vc vw)
  have HB := Hid.intro' hbx
  obtain ⟨ac, kc, rfl, _, _⟩ := hc.form
  obtain ⟨aw, kw, rfl, _, _⟩ := hw.form
  obtain ⟨ap, kp, rfl, _, _⟩ := hp.form
  have c13 : (w.alloc (.cells (nv s.st (.slice ac s.cs.length kc) (.slice aw s.ws.length kw)).toArray 27)).cell? ⟨w.heap.size, 13, none⟩ = some (.slice ac s.cs.length kc) := HN.out.cell 13
  have c14 : (w.alloc (.cells (nv s.st (.slice ac s.cs.length kc) (.slice aw s.ws.length kw)).toArray 27)).cell? ⟨w.heap.size, 14, none⟩ = some (.slice aw s.ws.length kw) := HN.out.cell 14
  clear hc hw hp hbx
  by_cases h1 : 20 < s.cs.length
  · have q1 : decide ((20 : Int) < (s.cs.length : Int)) = true := decide_eq_true (by omega)
    clear h1
    go_enter Try.func7, Try.ntmps7
    go_wp2
    go_ret
    exact ⟨⟨true, rfl, HB.out, fun h => by cases h⟩⟩
  · by_cases h2 : 200 < s.ws.length
    · have q1 : decide ((20 : Int) < (s.cs.length : Int)) = false := decide_eq_false (by omega)
      have q2 : decide ((200 : Int) < (s.ws.length : Int)) = true := decide_eq_true (by omega)
      clear h1 h2
      go_enter Try.func7, Try.ntmps7
      go_wp2
      go_ret
      exact ⟨⟨true, rfl, HB.out, fun h => by cases h⟩⟩
    · by_cases h3 : 20 < p.length
      · have q1 : decide ((20 : Int) < (s.cs.length : Int)) = false := decide_eq_false (by omega)
        have q2 : decide ((200 : Int) < (s.ws.length : Int)) = false := decide_eq_false (by omega)
        have q3 : decide ((20 : Int) < (p.length : Int)) = true := decide_eq_true (by omega)
        clear h1 h2 h3
        go_enter Try.func7, Try.ntmps7
        go_wp2
        go_ret
        exact ⟨⟨true, rfl, HB.out, fun h => by cases h⟩⟩
      · have q1 : decide ((20 : Int) < (s.cs.length : Int)) = false := decide_eq_false (by omega)
        have q2 : decide ((200 : Int) < (s.ws.length : Int)) = false := decide_eq_false (by omega)
        have q3 : decide ((20 : Int) < (p.length : Int)) = false := decide_eq_false (by omega)
        have hpz : (p.length : Int) ≤ 20 := by omega
        have HS := Hid.intro' (And.intro h1 (And.intro h2 h3))
        clear h1 h2 h3
        go_enter Try.func7, Try.ntmps7
        go_wp2_with fail
        clear c13 c14 q1 q2 q3
        generalize (w.alloc (.cells (nv s.st (.slice ac s.cs.length kc) (.slice aw s.ws.length kw)).toArray 27)) = W1 at HB HN ⊢
        go_loop [24] (fun i => ∃ k : Nat, k ≤ p.length ∧ i = .int .i64 (k : Int) ∧ Hid (∀ (j : Nat) l, j < k → p[j]? = some l → l.length ≤ 200)) (fun i => p.length - (intOf i).toNat)
        case atStart => exact ⟨0, Nat.zero_le _, rfl, fun j l h => absurd h (by omega)⟩
        case round =>
          obtain ⟨k, hk, rfl, HA⟩ := hrel
          by_cases hlt : k < p.length
          · have hkz : (k : Int) < (p.length : Int) := by omega
            obtain ⟨l, hl⟩ : ∃ l, p[k]? = some l := ⟨_, List.getElem?_eq_getElem hlt⟩
            obtain ⟨g, o, rfl, u, hcu, hru⟩ := (HP.out.below' HB.out).at hl
            obtain ⟨au, ku, rfl, _, _⟩ := hru.form
            have HL := Hid.intro' hl
            clear hl hru
            by_cases hll : 200 < l.length
            · have hz : decide ((200 : Int) < (l.length : Int)) = true := decide_eq_true (by omega)
              clear hll
              go_wp2
              go_ret
              exact ⟨⟨true, rfl, HB.out, fun h => by cases h⟩⟩
            · have hz : decide ((200 : Int) < (l.length : Int)) = false := decide_eq_false (by omega)
              have HLL := Hid.intro' hll
              clear hll
              go_wp2
              go_round
              case rel =>
                refine ⟨k + 1, by omega, by go_num, fun j l' hj hl' => ?_⟩
                by_cases e : j = k
                · subst e
                  rw [HL.out] at hl'
                  cases hl'
                  have := HLL.out
                  omega
                · exact HA.out j l' (by omega) hl'
              case measure => simp [intOf]; omega
          · have hkz : ¬ (k : Int) < (p.length : Int) := by omega
            have HF : Hid (Sml s p) := by
              have h := HS.out
              refine ⟨by omega, by omega, by omega, fun l hl => ?_⟩
              obtain ⟨i, hi⟩ := List.getElem?_of_mem hl
              exact HA.out i l (by have := (List.getElem?_eq_some_iff.1 hi).1; omega) hi
            go_wp2
            go_ret
            exact ⟨⟨false, rfl, HB.out, fun _ => HF.out⟩⟩

/-- the example's site -/
def oneSt : St := ⟨5, 1, 0, 2, 0, 3, 1, 1, 0, 1, 1, 1, 1⟩
/-- the example -/
def oneSn : Sn := ⟨oneSt, [(0, 0)], [(1, 1), (2, 1)]⟩
theorem one_rgt : rgt oneSn = true := by decide
theorem one_msk : msk oneSn = [1, 1] := rfl
theorem one_fsb : fsb oneSn [[1, 0]] = true := by decide

end Go.Proofs.Ytkcppidmbojglag
