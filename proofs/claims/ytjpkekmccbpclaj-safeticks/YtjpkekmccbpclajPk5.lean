/- Several texts in one, each with its own head. -/
import Derived.Test.YtjpkekmccbpclajPlS
import Derived.Test.YtjpkekmccbpclajPk1
import Derived.Test.YtjpkekmccbpclajPk4
import Derived.Test.YtjpkekmccbpclajSiteQ
import Derived.Test.YtjpkekmccbpclajPk3
import Derived.Maps.Keyed
import Derived.Maps.RangeRun
import Derived.BigQuiet
/- Steps of regions that only read. -/
namespace Go.Proofs.Ytjpkekmccbpclaj
open Go.RowKit

end Go.Proofs.Ytjpkekmccbpclaj

/- Calls that are read, and which of them has waited longest. -/
namespace Go.Proofs.Ytjpkekmccbpclaj
open Go.RowKit Go.Shelf

/-- a call -/
structure Ca where
  fl : Int
  ca : Int
  ag : Int
  up : Bool
def cav (y : Ca) : List Value := [.int .i64 y.fl, .int .i64 y.ca, .int .i64 y.ag, .bool y.up]
def ca0 : Ca := ⟨0, 0, 0, false⟩
/-- a slice that reads as calls, in blocks of D -/
def RC (D : Nat → Prop) (W : World) (v : Value) (L : List Ca) : Prop :=
  ∃ a cap, v = .slice a L.length cap ∧ L.length ≤ cap ∧ (L = [] ∨ ∃ g o, a = some ⟨g, o, none⟩ ∧ D g ∧ g < W.heap.size ∧ ∀ (i : Nat) y, L[i]? = some y → W.rangeAt g (o + i * 4) (cav y))
section
variable {D D' : Nat → Prop} {W W' : World} {v : Value} {L : List Ca}
theorem RC.keep (h : RC D W v L) (hs : W.heap.size ≤ W'.heap.size) (hk : ∀ g, D g → g < W.heap.size → W'.heap[g]? = W.heap[g]?) : RC D W' v L := by
  obtain ⟨a, cap, rfl, hc, h⟩ := h
  refine ⟨a, cap, rfl, hc, ?_⟩
  rcases h with h | ⟨g, o, rfl, hd, hlt, h⟩
  · exact .inl h
  · exact .inr ⟨g, o, rfl, hd, Nat.lt_of_lt_of_le hlt hs, fun i y hy j u hu => (World.cell?_of_block (a := ⟨g, o + i * 4 + j, none⟩) (hk g hd hlt)).trans (h i y hy j u hu)⟩
theorem RC.below' (h : RC D W v L) (hb : Below W.heap.size W W') : RC D W' v L := h.keep hb.size fun g _ hlt => hb.block g hlt
theorem RC.form (h : RC D W v L) : ∃ a cap, v = .slice a L.length cap ∧ L.length ≤ cap := by
  obtain ⟨a, cap, h1, h2, _⟩ := h
  exact ⟨a, cap, h1, h2⟩
theorem RC.at {a : Option Addr} {n cap : Nat} (h : RC D W (.slice a n cap) L) {i : Nat} {y : Ca} (hy : L[i]? = some y) : ∃ g o, a = some ⟨g, o, none⟩ ∧ g < W.heap.size ∧ W.cell? ⟨g, o + i * 4, none⟩ = some (.int .i64 y.fl) ∧ W.cell? ⟨g, o + i * 4 + 1, none⟩ = some (.int .i64 y.ca) ∧ W.cell? ⟨g, o + i * 4 + 2, none⟩ = some (.int .i64 y.ag) ∧ W.cell? ⟨g, o + i * 4 + 3, none⟩ = some (.bool y.up) := by
  obtain ⟨a', cap', e, _, h⟩ := h
  cases e
  rcases h with h | ⟨g, o, rfl, _, hlt, h⟩
  · rw [h] at hy; simp at hy
  · have hr := h i y hy
    exact ⟨g, o, rfl, hlt, hr 0 _ rfl, hr 1 _ rfl, hr 2 _ rfl, hr 3 _ rfl⟩
end
theorem ixCa (W : World) {g o n cap j : Nat} (hj : j < n) : (Instr.indexAt 25 (.slice (some ⟨g, o, none⟩) n cap) (.int .i64 (j : Int))).run Try.prog W = .ok (.pointer (some ⟨g, o + j * 4, none⟩)) W := by
  rw [run_indexAt_slice W 25 _ n cap .i64 j (by kernel_rfl), if_pos ⟨by omega, by omega⟩, show Try.prog.elem 25 = 43 by kernel_rfl, Try.sizeOf43]
  simp only [Result.andThen_ok, Int.toNat_natCast, Addr.add_mid]
/-- the oldest of the first k that may be, and where it stands -/
def oldk (p : Ca → Bool) (L : List Ca) : Nat → Option (Nat × Ca)
  | 0 => none
  | k + 1 => match L[k]? with
    | none => oldk p L k
    | some y => if p y = true ∧ (∀ x, oldk p L k = some x → x.2.ag < y.ag) then some (k, y) else oldk p L k
section
variable {p : Ca → Bool} {L : List Ca} {k : Nat} {y : Ca}
theorem oldk_at : ∀ {k i : Nat} {z : Ca}, oldk p L k = some (i, z) → i < k ∧ L[i]? = some z ∧ p z = true
  | 0, _, _, h => by cases h
  | k + 1, i, z, h => by
    unfold oldk at h
    cases hy : L[k]? with
    | none =>
      rw [hy] at h
      have := oldk_at (k := k) h
      exact ⟨by omega, this.2⟩
    | some y =>
      rw [hy] at h
      simp only at h
      split at h
      · rename_i hc
        cases h
        exact ⟨by omega, hy, hc.1⟩
      · have := oldk_at (k := k) h
        exact ⟨by omega, this.2⟩
theorem oldk_not (hy : L[k]? = some y) (h : p y = false) : oldk p L (k + 1) = oldk p L k := by
  rw [oldk, hy]
  simp only
  rw [if_neg (fun g => by rw [h] at g; cases g.1)]
theorem oldk_first (hy : L[k]? = some y) (h : p y = true) (hn : oldk p L k = none) : oldk p L (k + 1) = some (k, y) := by
  rw [oldk, hy]
  simp only
  rw [if_pos ⟨h, fun x hx => by rw [hn] at hx; cases hx⟩]
theorem oldk_more {x : Nat × Ca} (hy : L[k]? = some y) (h : p y = true) (hx : oldk p L k = some x) (hl : x.2.ag < y.ag) : oldk p L (k + 1) = some (k, y) := by
  rw [oldk, hy]
  simp only
  rw [if_pos ⟨h, fun z hz => by rw [hx] at hz; cases hz; exact hl⟩]
theorem oldk_less {x : Nat × Ca} (hy : L[k]? = some y) (hx : oldk p L k = some x) (hl : ¬ x.2.ag < y.ag) : oldk p L (k + 1) = oldk p L k := by
  rw [oldk, hy]
  simp only
  rw [if_neg (fun g => hl (g.2 x hx))]
end
/-- where it stands, or -1 -/
def oix (o : Option (Nat × Ca)) : Int := match o with
  | none => -1
  | some x => (x.1 : Int)
/-- may a car serve a call of so many ticks? -/
def oky (car age : Int) (y : Ca) : Bool := decide (age ≤ y.ag) && (decide (y.ca < 0) || decide (y.ca = car))

end Go.Proofs.Ytjpkekmccbpclaj

/- Whether two lists are one, as the document tells it. -/
namespace Go.Proofs.Ytjpkekmccbpclaj
open Go.RowKit

theorem take_snoc {α : Type} {l : List α} {j : Nat} {y : α} (h : l[j]? = some y) : l.take (j + 1) = l.take j ++ [y] := by rw [List.take_add_one, h]; rfl
set_option maxHeartbeats 4000000 in
theorem rsame_any (D D' : Nat → Prop) (va vb : Value) (l m : List Int) (w : World) (ha : RI D w va l) (hb : RI D' w vb m) (hl : l.length ≤ 100000) :
    Calls Try.prog 7 #[va, vb] w fun e w' => e = .returned (.bool (decide (l = m))) ∧ Below w.heap.size w w' := by
  have HA := Hid.intro' ha
  have HB := Hid.intro' hb
  obtain ⟨aa, ka, rfl, _, _⟩ := ha.form
  obtain ⟨ab, kb, rfl, _, _⟩ := hb.form
  clear ha hb
  by_cases hlen : l.length = m.length
  · have hlz : (l.length : Int) = (m.length : Int) := by omega
    have HLN := Hid.intro' hlen
    have q0 : ((l.length : Int) != (m.length : Int)) = false := by simp; omega
    clear hlen hlz
    go_enter Try.func7, Try.ntmps7
    go_wp2_with fail
    clear q0
    go_loopw [5] (fun i wr => ∃ j : Nat, j ≤ l.length ∧ i = .int .i64 (j : Int) ∧ Hid (Below w.heap.size w wr) ∧ Hid (l.take j = m.take j)) (fun i _ => l.length - (intOf i).toNat)
    case atStart => exact ⟨0, Nat.zero_le _, rfl, Below.refl _ _, rfl⟩
    case round =>
      obtain ⟨j, hj, rfl, HW, HT⟩ := hrel
      by_cases hlt : j < l.length
      · have hjz : (j : Int) < (l.length : Int) := by omega
        have hjm : (j : Int) < (m.length : Int) := by have := HLN.out; omega
        obtain ⟨x, hx⟩ : ∃ x, l[j]? = some x := ⟨_, List.getElem?_eq_getElem hlt⟩
        obtain ⟨y, hy⟩ : ∃ y, m[j]? = some y := ⟨_, List.getElem?_eq_getElem (by have := HLN.out; omega)⟩
        obtain ⟨ga, oa, rfl, hcx⟩ := (HA.out.below' HW.out).at hx
        obtain ⟨gb, ob, rfl, hcy⟩ := (HB.out.below' HW.out).at hy
        have HX := Hid.intro' hx
        have HY := Hid.intro' hy
        clear hx hy
        by_cases he : x = y
        · have HT2 : Hid (l.take (j + 1) = m.take (j + 1)) := by
            show _ = _
            rw [take_snoc HX.out, take_snoc HY.out, HT.out, he]
          have q1 : (x != y) = false := by simp [he]
          clear he
          go_wp2_with fail
          go_region
          go_wp2
          go_roundw
          case rel => exact ⟨j + 1, by omega, by go_num, HW.out.drew, HT2⟩
          case measure => simp [intOf]; omega
        · have q1 : (x != y) = true := by simp [he]
          have HNE : Hid (decide (l = m) = false) := by
            show _ = _
            rw [decide_eq_false_iff_not]
            intro e
            have h1 := HX.out
            rw [e, HY.out] at h1
            cases h1
            exact he rfl
          clear he
          go_wp2_with fail
          go_region
          go_wp2
          go_ret
          exact ⟨ret_bool HNE.out.symm, HW.out.drew⟩
      · have hjz : ¬ (j : Int) < (l.length : Int) := by omega
        have HE : Hid (decide (l = m) = true) := by
          show _ = _
          have h1 := HT.out
          rw [List.take_of_length_le (by omega), List.take_of_length_le (by have := HLN.out; omega)] at h1
          rw [decide_eq_true_eq]; exact h1
        go_wp2
        go_ret
        exact ⟨ret_bool HE.out.symm, HW.out⟩
  · have q0 : ((l.length : Int) != (m.length : Int)) = true := by simp; omega
    have HNE : Hid (decide (l = m) = false) := by
      show _ = _
      rw [decide_eq_false_iff_not]
      exact fun e => hlen (by rw [e])
    clear hlen
    go_enter Try.func7, Try.ntmps7
    go_wp2
    go_ret
    exact ⟨ret_bool HNE.out.symm, Below.refl _ _⟩
end Go.Proofs.Ytjpkekmccbpclaj

/- Rows of cars that are read; calls and cars that are read whole out of a row. -/
namespace Go.Proofs.Ytjpkekmccbpclaj
open Go.RowKit Go.Shelf

def ckv (c : Cr) : List Value := [.int .i64 c.fl, .int .i64 c.tg, .int .i64 c.ti, .int .i64 c.d.ph, .int .i64 c.d.le, .int .i64 c.d.ru, .bool c.d.he, .bool c.fa]
/-- a slice that reads as cars, in blocks of D -/
def RK (D : Nat → Prop) (W : World) (v : Value) (L : List Cr) : Prop :=
  ∃ a cap, v = .slice a L.length cap ∧ L.length ≤ cap ∧ (L = [] ∨ ∃ g o, a = some ⟨g, o, none⟩ ∧ D g ∧ g < W.heap.size ∧ ∀ (i : Nat) y, L[i]? = some y → W.rangeAt g (o + i * 8) (ckv y))
section
variable {D D' : Nat → Prop} {W W' : World} {v : Value} {L : List Cr} {M : List Ca}
theorem RK.keep (h : RK D W v L) (hs : W.heap.size ≤ W'.heap.size) (hk : ∀ g, D g → g < W.heap.size → W'.heap[g]? = W.heap[g]?) : RK D W' v L := by
  obtain ⟨a, cap, rfl, hc, h⟩ := h
  refine ⟨a, cap, rfl, hc, ?_⟩
  rcases h with h | ⟨g, o, rfl, hd, hlt, h⟩
  · exact .inl h
  · exact .inr ⟨g, o, rfl, hd, Nat.lt_of_lt_of_le hlt hs, fun i y hy j u hu => (World.cell?_of_block (a := ⟨g, o + i * 8 + j, none⟩) (hk g hd hlt)).trans (h i y hy j u hu)⟩
theorem RK.mono (h : RK D W v L) (hD : ∀ g, D g → g < W.heap.size → D' g) : RK D' W v L := by
  obtain ⟨a, cap, rfl, hc, h⟩ := h
  refine ⟨a, cap, rfl, hc, ?_⟩
  rcases h with h | ⟨g, o, rfl, hd, hlt, h⟩
  · exact .inl h
  · exact .inr ⟨g, o, rfl, hD g hd hlt, hlt, h⟩
theorem RK.below' (h : RK D W v L) (hb : Below W.heap.size W W') : RK D W' v L := h.keep hb.size fun g _ hlt => hb.block g hlt
theorem RK.form (h : RK D W v L) : ∃ a cap, v = .slice a L.length cap ∧ L.length ≤ cap := by
  obtain ⟨a, cap, h1, h2, _⟩ := h
  exact ⟨a, cap, h1, h2⟩
theorem RK.at {a : Option Addr} {n cap : Nat} (h : RK D W (.slice a n cap) L) {i : Nat} {y : Cr} (hy : L[i]? = some y) : ∃ g o, a = some ⟨g, o, none⟩ ∧ g < W.heap.size ∧ W.rangeAt g (o + i * 8) (ckv y) := by
  obtain ⟨a', cap', e, _, h⟩ := h
  cases e
  rcases h with h | ⟨g, o, rfl, _, hlt, h⟩
  · rw [h] at hy; simp at hy
  · exact ⟨g, o, rfl, hlt, h i y hy⟩
theorem RC.rng {a : Option Addr} {n cap : Nat} (h : RC D W (.slice a n cap) M) {i : Nat} {y : Ca} (hy : M[i]? = some y) : ∃ g o, a = some ⟨g, o, none⟩ ∧ g < W.heap.size ∧ W.rangeAt g (o + i * 4) (cav y) := by
  obtain ⟨a', cap', e, _, h⟩ := h
  cases e
  rcases h with h | ⟨g, o, rfl, _, hlt, h⟩
  · rw [h] at hy; simp at hy
  · exact ⟨g, o, rfl, hlt, h i y hy⟩
theorem RC.mono' (h : RC D W v M) (hD : ∀ g, D g → g < W.heap.size → D' g) : RC D' W v M := by
  obtain ⟨a, cap, rfl, hc, h⟩ := h
  refine ⟨a, cap, rfl, hc, ?_⟩
  rcases h with h | ⟨g, o, rfl, hd, hlt, h⟩
  · exact .inl h
  · exact .inr ⟨g, o, rfl, hD g hd hlt, hlt, h⟩
theorem rng_below {g o : Nat} {l : List Value} (h : W.rangeAt g o l) (hlt : g < W.heap.size) (hb : Below W.heap.size W W') : W'.rangeAt g o l := fun j u hu => (World.cell?_of_block (a := ⟨g, o + j, none⟩) (hb.block g hlt)).trans (h j u hu)
end
theorem ixK (W : World) {g o n cap j : Nat} (hj : j < n) : (Instr.indexAt 24 (.slice (some ⟨g, o, none⟩) n cap) (.int .i64 (j : Int))).run Try.prog W = .ok (.pointer (some ⟨g, o + j * 8, none⟩)) W := by
  rw [run_indexAt_slice W 24 _ n cap .i64 j (by kernel_rfl), if_pos ⟨by omega, by omega⟩, show Try.prog.elem 24 = 36 by kernel_rfl, Try.sizeOf36]
  simp only [Result.andThen_ok, Int.toNat_natCast, Addr.add_mid]
theorem infoCl : (Try.prog.info? 43).map (·.size) = some 4 := by kernel_rfl
theorem loadK (w : World) (g o : Nat) (c : Cr) (h : w.rangeAt g o (ckv c)) : (Instr.loadAt 36 (.pointer (some ⟨g, o, none⟩))).run Try.prog w = .ok (.agg #[.int .i64 c.fl, .int .i64 c.tg, .int .i64 c.ti, .int .i64 c.d.ph, .int .i64 c.d.le, .int .i64 c.d.ru, .bool c.d.he, .bool c.fa]) w := by
  simp only [Instr.loadAt, Instr.sureAddr, Sem.run_bind, Sem.run_pure, Result.andThen_ok, run_loadVar_mid (P := Try.prog) w g o 36 _ _ h Try.underlying36 rfl infoC]
  rfl
theorem loadCl (w : World) (g o : Nat) (c : Ca) (h : w.rangeAt g o (cav c)) : (Instr.loadAt 43 (.pointer (some ⟨g, o, none⟩))).run Try.prog w = .ok (.agg (cav c).toArray) w := by
  simp only [Instr.loadAt, Instr.sureAddr, Sem.run_bind, Sem.run_pure, Result.andThen_ok, run_loadVar_mid (P := Try.prog) w g o 43 _ _ h Try.underlying43 rfl infoCl]
section
variable {ops : Array Oper} {rest : List Oper} {op : Oper} {a : Act} {w : World} {Q : Exit → Act → World → Prop}
theorem wpList_loadK (hgd : op.guard = none) (x : Operand) (ho : op.op = .load 36 x) (g o : Nat) {c : Cr} (hx : a.eval x = .pointer (some ⟨g, o, none⟩)) (hC : w.rangeAt g o (ckv c))
    (hn : wpList Try.prog ops Q rest (a.put op.dst (.agg #[.int .i64 c.fl, .int .i64 c.tg, .int .i64 c.ti, .int .i64 c.d.ph, .int .i64 c.d.le, .int .i64 c.d.ru, .bool c.d.he, .bool c.fa])) w) : wpList Try.prog ops Q (op :: rest) a w :=
  wpList_load_mid hgd 36 x ho g o hx _ _ hC Try.underlying36 rfl infoC hn
theorem wpList_loadCl (hgd : op.guard = none) (x : Operand) (ho : op.op = .load 43 x) (g o : Nat) {c : Ca} (hx : a.eval x = .pointer (some ⟨g, o, none⟩)) (hC : w.rangeAt g o (cav c))
    (hn : wpList Try.prog ops Q rest (a.put op.dst (.agg #[.int .i64 c.fl, .int .i64 c.ca, .int .i64 c.ag, .bool c.up])) w) : wpList Try.prog ops Q (op :: rest) a w :=
  wpList_load_mid hgd 43 x ho g o hx _ _ hC Try.underlying43 rfl infoCl hn
end
theorem quiet_loadK {C : World → Prop} {K : Act → Prop} {o : Oper} {a : Act} (x : Operand) (g q : Nat) {c : Cr} (ho : o.op = .load 36 x) (hx : a.eval x = .pointer (some ⟨g, q, none⟩)) (hr : ∀ w, C w → w.rangeAt g q (ckv c))
    (hn : K (a.put o.dst (.agg #[.int .i64 c.fl, .int .i64 c.tg, .int .i64 c.ti, .int .i64 c.d.ph, .int .i64 c.d.le, .int .i64 c.d.ru, .bool c.d.he, .bool c.fa]))) : o.quiet Try.prog a C K :=
  quiet_val _ (fun w hw => by unfold execOp; simp only [ho, hx, Sem.run_bind, Sem.run_pure, Result.andThen_ok, loadK w g q c (hr w hw)]) hn

theorem rwithin_any (a : Int) (w : World) :
    Calls Try.prog 30 #[.int .i64 a] w fun e w' => e = .returned (.int .i64 (NumM.cl a)) ∧ w' = w := by
  go_enter Try.func30, Try.ntmps30
  go_wp2
  all_goals
    go_ret
    exact ⟨ret_int (by unfold NumM.cl; (repeat' split); all_goals omega), rfl⟩
set_option maxHeartbeats 400000 in
theorem radd_any (a b : Int) (w : World) :
    Calls Try.prog 20 #[.int .i64 a, .int .i64 b] w fun e w' => e = .returned (.int .i64 (NumM.cl (NumM.cl a + NumM.cl b))) ∧ w' = w := by
  obtain ⟨a1, a2⟩ := NumM.cl_bd a
  obtain ⟨b1, b2⟩ := NumM.cl_bd b
  go_enter Try.func20, Try.ntmps20
  go_wp2_with (go_at_call 30; refine (rwithin_any _ _).mono ?_; rintro e w' ⟨rfl, rfl⟩)
  go_ret
  exact ⟨rfl, rfl⟩

end Go.Proofs.Ytjpkekmccbpclaj

/- What is wrong with a tick: plain mathematics. -/
namespace Go.Proofs.Ytjpkekmccbpclaj
namespace SF

/-- are two calls alike? -/
def alk (x y : Ca) : Bool := decide (x.fl = y.fl) && (decide (x.ca = y.ca) && (x.up == y.up))
theorem alk_iff {x y : Ca} : alk x y = true ↔ x.fl = y.fl ∧ x.ca = y.ca ∧ x.up = y.up := by simp [alk]
theorem alk_refl (x : Ca) : alk x x = true := alk_iff.2 ⟨rfl, rfl, rfl⟩
def alo (o : Option Ca) (c : Ca) : Bool := match o with | some y => alk y c | none => false
/-- the last place below k of a call that is alike; -1: there is none -/
def la (L : List Ca) (c : Ca) : Nat → Int
  | 0 => -1
  | k + 1 => if alo L[k]? c = true then (k : Int) else la L c k
theorem la_bd (L : List Ca) (c : Ca) : ∀ k, -1 ≤ la L c k ∧ la L c k < k
  | 0 => by simp [la]
  | k + 1 => by
    have := la_bd L c k
    unfold la
    split <;> omega
theorem la_at {L : List Ca} {c : Ca} : ∀ {k : Nat}, 0 ≤ la L c k → ∃ (j : Nat) (y : Ca), la L c k = j ∧ L[j]? = some y ∧ alk y c = true
  | 0, h => by simp [la] at h
  | k + 1, h => by
    unfold la at h ⊢
    split
    · rename_i hh
      cases hk : L[k]? with
      | none => rw [hk] at hh; cases hh
      | some y => rw [hk] at hh; exact ⟨k, y, rfl, hk, hh⟩
    · rename_i hh
      rw [if_neg hh] at h
      exact la_at h
theorem la_ge {L : List Ca} {c y : Ca} {j : Nat} (hj : L[j]? = some y) (ha : alk y c = true) : ∀ {k : Nat}, j < k → (j : Int) ≤ la L c k
  | 0, h => by omega
  | k + 1, h => by
    unfold la
    by_cases e : j = k
    · subst e; rw [if_pos (by rw [hj]; exact ha)]; omega
    · split
      · omega
      · exact la_ge hj ha (by omega)
/-- the only one that is alike -/
theorem la_one {L : List Ca} {c y : Ca} {j : Nat} (hj : L[j]? = some y) (ha : alk y c = true) {k : Nat} (hk : j < k) (h1 : ∀ (i : Nat) z, L[i]? = some z → alk z c = true → i = j) : la L c k = j := by
  have h := la_ge hj ha hk
  obtain ⟨i, z, e, h2, h3⟩ := la_at (L := L) (c := c) (k := k) (by omega)
  rw [e, h1 i z h2 h3]

/-- is one of the first n cars not safe? -/
def lp (s : St) (a b : List Cr) : Nat → Bool
  | 0 => false
  | n + 1 => lp s a b n || (match a[n]?, b[n]? with | some x, some y => !sfB s x y | _, _ => false)
def aw1 (r : Bool) (x y : Cr) : Bool := r && (decide (y.ti ≠ 0) && (decide (x.ti = 0) && decide (y.tg ≠ 0)))
/-- does one of the first n cars go away? -/
def aw (r : Bool) (a b : List Cr) : Nat → Bool
  | 0 => false
  | n + 1 => aw r a b n || (match a[n]?, b[n]? with | some x, some y => aw1 r x y | _, _ => false)
def op1 (c : Ca) (n : Nat) (x : Cr) : Bool := (decide (c.ca = -1) || decide (c.ca = n)) && (decide (x.ti = 0) && (decide (x.fl = c.fl) && decide (x.d.ph = 2)))
/-- did one of the first n cars stand there, open? -/
def op (c : Ca) (a : List Cr) : Nat → Bool
  | 0 => false
  | n + 1 => op c a n || (match a[n]? with | some x => op1 c n x | none => false)
def sd (a : List Cr) (wt : List Ca) (c : Ca) : Bool := decide (0 ≤ la wt c wt.length) || op c a a.length
/-- did one of the first n calls vanish? -/
def vn (a : List Cr) (wd wt : List Ca) : Nat → Bool
  | 0 => false
  | n + 1 => vn a wd wt n || (match wd[n]? with | some c => !sd a wt c | none => false)
/-- the age that a call should have -/
def ag1 (wd : List Ca) (k : Int) : Int := if 0 ≤ k then NumM.cl (NumM.cl (match wd[k.toNat]? with | some y => y.ag | none => 0) + NumM.cl 1) else 1
def yg1 (wd wt : List Ca) (i : Nat) (c : Ca) : Bool := decide (la wt c wt.length ≠ i) || decide (c.ag ≠ ag1 wd (la wd c wd.length))
/-- is one of the first n calls of a wrong age? -/
def yg (wd wt : List Ca) : Nat → Bool
  | 0 => false
  | n + 1 => yg wd wt n || (match wt[n]? with | some c => yg1 wd wt n c | none => false)
def h1 (s : St) (a b : List Cr) : Bool := (decide (a.length ≠ b.length) || (decide ((b.length : Int) ≠ s.ca) || decide (s.ca < 1))) || lp s a b (min a.length b.length)
def ft (f1 f2 f3 f4 : Bool) : List Int := (if f1 then [1] else []) ++ ((if f2 then [2] else []) ++ ((if f3 then [3] else []) ++ (if f4 then [4] else [])))
/-- what is wrong with a tick -/
def tk (s : St) (a b : List Cr) (wd wt : List Ca) (r : Bool) : List Int := ft (h1 s a b) (vn a wd wt wd.length) (aw r a b (min a.length b.length)) (yg wd wt wt.length)
def fb (f1 f2 f3 f4 : Bool) : Nat → Bool
  | 0 => f1
  | 1 => f2
  | 2 => f3
  | _ => f4
/-- the faults up to k -/
def fk (f1 f2 f3 f4 : Bool) : Nat → List Int
  | 0 => []
  | k + 1 => fk f1 f2 f3 f4 k ++ (if fb f1 f2 f3 f4 k then [((k + 1 : Nat) : Int)] else [])
theorem fk_four (f1 f2 f3 f4 : Bool) : fk f1 f2 f3 f4 4 = ft f1 f2 f3 f4 := by cases f1 <;> cases f2 <;> cases f3 <;> cases f4 <;> rfl
theorem fk_len (f1 f2 f3 f4 : Bool) : ∀ k, (fk f1 f2 f3 f4 k).length ≤ k
  | 0 => Nat.le_refl _
  | k + 1 => by
    have := fk_len f1 f2 f3 f4 k
    unfold fk
    rw [List.length_append]
    split <;> simp <;> omega
theorem ft_len (f1 f2 f3 f4 : Bool) : (ft f1 f2 f3 f4).length ≤ 4 := by cases f1 <;> cases f2 <;> cases f3 <;> cases f4 <;> decide

end SF
end Go.Proofs.Ytjpkekmccbpclaj

/- The ages of calls, kept by key: plain mathematics. -/
namespace Go.Proofs.Ytjpkekmccbpclaj
namespace SF

theorem alk_comm {x y : Ca} : alk x y = alk y x := by
  rw [Bool.eq_iff_iff, alk_iff, alk_iff]
  exact ⟨fun ⟨a, b, c⟩ => ⟨a.symm, b.symm, c.symm⟩, fun ⟨a, b, c⟩ => ⟨a.symm, b.symm, c.symm⟩⟩
theorem alk_congr {x y z : Ca} (h : alk x y = true) : alk x z = alk y z := by
  obtain ⟨a, b, c⟩ := alk_iff.1 h
  unfold alk; rw [a, b, c]
theorem alk_congr' {x y z : Ca} (h : alk x y = true) : alk z x = alk z y := by rw [alk_comm, alk_congr h, alk_comm]
/-- a call's age is laid into the ages -/
def pt (c : Ca) : List Ca → List Ca
  | [] => [c]
  | y :: E => if alk c y = true then c :: E else y :: pt c E
/-- the age that is kept of calls that are alike -/
def lk (c : Ca) : List Ca → Option Int
  | [] => none
  | y :: E => if alk c y = true then some y.ag else lk c E
/-- the ages of the first k calls -/
def agk (L : List Ca) : Nat → List Ca
  | 0 => []
  | k + 1 => match L[k]? with | some c => pt c (agk L k) | none => agk L k
theorem lk_pt (c d : Ca) : ∀ E, lk c (pt d E) = if alk c d = true then some d.ag else lk c E
  | [] => rfl
  | y :: E => by
    unfold pt
    by_cases h : alk d y = true
    · rw [if_pos h]
      unfold lk
      by_cases h2 : alk c d = true
      · rw [if_pos h2, if_pos h2]
      · rw [if_neg h2, if_neg h2, if_neg (by rw [← alk_congr' h]; exact h2)]
    · rw [if_neg h]
      unfold lk
      rw [lk_pt c d E]
      by_cases h2 : alk c d = true
      · rw [if_pos h2, if_pos h2, if_neg (by rw [alk_congr h2]; exact h)]
      · rw [if_neg h2, if_neg h2]
theorem lk_congr {c d : Ca} (h : alk c d = true) : ∀ E, lk c E = lk d E
  | [] => rfl
  | y :: E => by unfold lk; rw [alk_congr h, lk_congr h E]
theorem agk_succ {L : List Ca} {k : Nat} {c : Ca} (h : L[k]? = some c) : agk L (k + 1) = pt c (agk L k) := by
  show (match L[k]? with | some c => pt c (agk L k) | none => agk L k) = _
  rw [h]
theorem la_succ {L : List Ca} {c y : Ca} {k : Nat} (h : L[k]? = some y) : la L c (k + 1) = if alk y c = true then (k : Int) else la L c k := by
  show (if alo L[k]? c = true then _ else _) = _
  rw [h]; rfl
/-- what is kept is the last one's age -/
theorem lk_agk (L : List Ca) (c : Ca) : ∀ k, k ≤ L.length → lk c (agk L k) = if 0 ≤ la L c k then some (match L[(la L c k).toNat]? with | some y => y.ag | none => 0) else none
  | 0, _ => by simp [agk, lk, la]
  | k + 1, h => by
    obtain ⟨y, hy⟩ : ∃ y, L[k]? = some y := ⟨_, List.getElem?_eq_getElem (by omega)⟩
    rw [agk_succ hy, lk_pt, la_succ hy, alk_comm, lk_agk L c k (by omega)]
    by_cases h2 : alk y c = true
    · rw [if_pos h2, if_pos h2, if_pos (by omega), Int.toNat_natCast, hy]
    · rw [if_neg h2, if_neg h2]
theorem mem_pt {c e : Ca} : ∀ {E : List Ca}, e ∈ pt c E → e = c ∨ e ∈ E
  | [], h => by simpa [pt] using h
  | y :: E, h => by
    unfold pt at h
    split at h
    · rcases List.mem_cons.1 h with h | h
      · exact .inl h
      · exact .inr (List.mem_cons.2 (.inr h))
    · rcases List.mem_cons.1 h with h | h
      · exact .inr (List.mem_cons.2 (.inl h))
      · rcases mem_pt h with h | h
        · exact .inl h
        · exact .inr (List.mem_cons.2 (.inr h))
theorem mem_agk {L : List Ca} {e : Ca} : ∀ {k}, e ∈ agk L k → e ∈ L
  | 0, h => by simp [agk] at h
  | k + 1, h => by
    unfold agk at h
    split at h
    · rename_i c hc
      rcases mem_pt h with rfl | h
      · exact List.mem_of_getElem? hc
      · exact mem_agk h
    · exact mem_agk h
theorem lk_some {c : Ca} : ∀ {E : List Ca}, (lk c E).isSome = true → ∃ e ∈ E, alk c e = true
  | [], h => by simp [lk] at h
  | y :: E, h => by
    unfold lk at h
    by_cases h2 : alk c y = true
    · exact ⟨y, List.mem_cons.2 (.inl rfl), h2⟩
    · rw [if_neg h2] at h
      obtain ⟨e, he, h3⟩ := lk_some h
      exact ⟨e, List.mem_cons.2 (.inr he), h3⟩
/-- each call has one that is alike among the ages -/
theorem agk_has {L : List Ca} {c : Ca} (h : c ∈ L) : ∃ e ∈ agk L L.length, alk c e = true := by
  obtain ⟨j, hj⟩ := List.getElem?_of_mem h
  have hl := (List.getElem?_eq_some_iff.1 hj).1
  refine lk_some ?_
  rw [lk_agk L c _ (Nat.le_refl _), if_pos]
  · rfl
  · have := la_ge hj (alk_refl c) hl
    omega
theorem pt_new {c : Ca} : ∀ {E : List Ca}, lk c E = none → pt c E = E ++ [c]
  | [], _ => rfl
  | y :: E, h => by
    unfold lk at h
    unfold pt
    by_cases h2 : alk c y = true
    · rw [if_pos h2] at h; cases h
    · rw [if_neg h2] at h ⊢
      rw [pt_new h]; rfl
theorem pt_old {c : Ca} : ∀ {E : List Ca}, (lk c E).isSome = true → (pt c E).length = E.length
  | [], h => by simp [lk] at h
  | y :: E, h => by
    unfold lk at h
    unfold pt
    by_cases h2 : alk c y = true
    · rw [if_pos h2]; rfl
    · rw [if_neg h2] at h ⊢
      rw [List.length_cons, pt_old h, List.length_cons]
theorem agk_len (L : List Ca) : ∀ k, (agk L k).length ≤ k
  | 0 => Nat.le_refl _
  | k + 1 => by
    have := agk_len L k
    unfold agk
    split
    · rename_i c hc
      cases h : lk c (agk L k) with
      | none => rw [pt_new h, List.length_append]; simp; omega
      | some x => rw [pt_old (by rw [h]; rfl)]; omega
    · omega
/-- as many ages as calls: no two are alike -/
theorem agk_full {L : List Ca} : ∀ {k}, k ≤ L.length → (agk L k).length = k → agk L k = L.take k ∧ ∀ j y, j < k → L[j]? = some y → la L y k = j
  | 0, _, _ => ⟨rfl, fun j _ h => absurd h (by omega)⟩
  | k + 1, hk, h => by
    obtain ⟨c, hc⟩ : ∃ y, L[k]? = some y := ⟨_, List.getElem?_eq_getElem (by omega)⟩
    have hl := agk_len L k
    rw [agk_succ hc] at h ⊢
    cases h2 : lk c (agk L k) with
    | some x => rw [pt_old (by rw [h2]; rfl)] at h; omega
    | none =>
      rw [pt_new h2, List.length_append] at h
      have h3 : (agk L k).length = k := by simpa using h
      obtain ⟨e1, e2⟩ := agk_full (by omega) h3
      refine ⟨by rw [pt_new h2, e1, List.take_add_one, hc]; rfl, fun j y hj hy => ?_⟩
      rw [la_succ hc]
      by_cases ej : j = k
      · subst ej
        rw [hc] at hy
        cases hy
        rw [if_pos (alk_refl c)]
      · have hjk : j < k := by omega
        by_cases h4 : alk c y = true
        · have h5 := lk_agk L c k (by omega)
          rw [h2] at h5
          have h6 := la_ge hy (by rw [alk_comm]; exact h4) hjk
          rw [if_pos (by omega)] at h5
          cases h5
        · rw [if_neg h4]; exact e2 j y hjk hy
theorem agk_one {L : List Ca} : ∀ {k}, k ≤ L.length → (∀ j y, j < k → L[j]? = some y → la L y k = j) → (agk L k).length = k
  | 0, _, _ => rfl
  | k + 1, hk, h => by
    obtain ⟨c, hc⟩ : ∃ y, L[k]? = some y := ⟨_, List.getElem?_eq_getElem (by omega)⟩
    have h1 : ∀ j y, j < k → L[j]? = some y → alk c y = false := fun j y hj hy => by
      have := h j y (by omega) hy
      rw [la_succ hc] at this
      by_cases h4 : alk c y = true
      · rw [if_pos h4] at this; omega
      · simpa using h4
    have ih := agk_one (L := L) (k := k) (by omega) (fun j y hj hy => by
      have := h j y (by omega) hy
      rw [la_succ hc, h1 j y hj hy] at this
      simpa using this)
    have h2 : lk c (agk L k) = none := by
      cases h3 : lk c (agk L k) with
      | none => rfl
      | some x =>
        have h5 := lk_agk L c k (by omega)
        rw [h3] at h5
        by_cases h6 : 0 ≤ la L c k
        · obtain ⟨j, y, e, h7, h8⟩ := la_at h6
          have hb := la_bd L c k
          have := h1 j y (by omega) h7
          rw [alk_comm, h8] at this
          cases this
        · rw [if_neg h6] at h5; cases h5
    rw [agk_succ hc, pt_new h2, List.length_append, ih]; rfl

/-- did a car stand open at its floor? -/
def ot (c : Ca) (x : Cr) : Bool := decide (x.ti = 0) && (decide (x.fl = c.fl) && decide (x.d.ph = 2))
theorem op_hall {c : Ca} {a : List Cr} (h : c.ca = -1) : ∀ {n}, n ≤ a.length → op c a n = (a.take n).any (ot c)
  | 0, _ => rfl
  | n + 1, hn => by
    obtain ⟨x, hx⟩ : ∃ y, a[n]? = some y := ⟨_, List.getElem?_eq_getElem (by omega)⟩
    have ih := op_hall (a := a) h (n := n) (by omega)
    rw [List.take_add_one, hx, List.any_append, ← ih]
    show (op c a n || (match a[n]? with | some x => op1 c n x | none => false)) = _
    rw [hx]
    simp [op1, h, ot]
theorem op_none {c : Ca} {a : List Cr} (h : c.ca ≠ -1) : ∀ {n}, n ≤ a.length → (c.ca < 0 ∨ (n : Int) ≤ c.ca) → op c a n = false
  | 0, _, _ => rfl
  | n + 1, hn, h2 => by
    obtain ⟨x, hx⟩ : ∃ y, a[n]? = some y := ⟨_, List.getElem?_eq_getElem (by omega)⟩
    have h3 : ¬ (c.ca = (n : Int)) := by omega
    unfold op
    rw [hx, op_none h (by omega) (by omega)]
    simp [op1, h, h3]
theorem op_car {c : Ca} {a : List Cr} {j : Nat} {x : Cr} (h : c.ca = j) (hx : a[j]? = some x) : ∀ {n}, n ≤ a.length → j < n → op c a n = ot c x
  | 0, _, h2 => by omega
  | n + 1, hn, h2 => by
    by_cases e : j = n
    · subst e
      unfold op
      rw [hx, op_none (by omega) (by omega) (by omega)]
      simp [op1, h, ot]
    · obtain ⟨z, hz⟩ : ∃ y, a[n]? = some y := ⟨_, List.getElem?_eq_getElem (by omega)⟩
      have h3 : ¬ ((j : Int) = n) := by omega
      have h4 : ¬ ((j : Int) = -1) := by omega
      unfold op
      rw [hz, op_car h hx (by omega) (by omega)]
      simp [op1, h, h3, h4]
theorem op_congr {c d : Ca} (h : alk c d = true) (a : List Cr) : ∀ n, op c a n = op d a n
  | 0 => rfl
  | n + 1 => by
    obtain ⟨h1, h2, h3⟩ := alk_iff.1 h
    unfold op
    rw [op_congr h a n]
    cases a[n]? with
    | none => rfl
    | some x => simp [op1, h1, h2]
theorem la_congr {c d : Ca} (h : alk c d = true) (L : List Ca) : ∀ n, la L c n = la L d n
  | 0 => rfl
  | n + 1 => by
    unfold la
    rw [la_congr h L n]
    cases L[n]? with
    | none => rfl
    | some x => simp only [alo, alk_congr' h]; rfl
theorem sd_congr {c d : Ca} (h : alk c d = true) (a : List Cr) (wt : List Ca) : sd a wt c = sd a wt d := by unfold sd; rw [la_congr h, op_congr h]
theorem vn_iff (a : List Cr) (wd wt : List Ca) : ∀ n, n ≤ wd.length → (vn a wd wt n = true ↔ ∃ c ∈ wd.take n, sd a wt c = false)
  | 0, _ => by simp [vn]
  | n + 1, hn => by
    obtain ⟨x, hx⟩ : ∃ y, wd[n]? = some y := ⟨_, List.getElem?_eq_getElem (by omega)⟩
    have ih := vn_iff a wd wt n (by omega)
    unfold vn
    rw [hx, Bool.or_eq_true, ih, List.take_add_one, hx]
    simp only [List.mem_append, Option.mem_toList, Option.some.injEq, Bool.not_eq_true']
    constructor
    · rintro (⟨c, h1, h2⟩ | h)
      · exact ⟨c, .inl h1, h2⟩
      · exact ⟨x, .inr rfl, h⟩
    · rintro ⟨c, h1 | rfl, h2⟩
      · exact .inl ⟨c, h1, h2⟩
      · exact .inr h2
/-- does a call of the ages vanish? -/
def vne (a : List Cr) (E2 : List Ca) (e : Ca) : Bool := (lk e E2).isNone && !op e a a.length
theorem vne_sd (a : List Cr) (wt : List Ca) (e : Ca) : vne a (agk wt wt.length) e = !sd a wt e := by
  unfold vne sd
  rw [lk_agk wt e _ (Nat.le_refl _)]
  by_cases h : 0 ≤ la wt e wt.length
  · rw [if_pos h]; simp [h]
  · rw [if_neg h]; simp [h]
theorem vn_any (a : List Cr) (wd wt : List Ca) : vn a wd wt wd.length = (agk wd wd.length).any (vne a (agk wt wt.length)) := by
  rw [Bool.eq_iff_iff, vn_iff _ _ _ _ (Nat.le_refl _), List.take_length, List.any_eq_true]
  constructor
  · rintro ⟨c, h1, h2⟩
    obtain ⟨e, he, h3⟩ := agk_has h1
    exact ⟨e, he, by rw [vne_sd, ← sd_congr h3, h2]; rfl⟩
  · rintro ⟨e, he, h⟩
    rw [vne_sd] at h
    exact ⟨e, mem_agk he, by simpa using h⟩
/-- the age that a call of the ages should have -/
def wnt (E1 : List Ca) (e : Ca) : Int := match lk e E1 with | some o => NumM.cl (NumM.cl o + NumM.cl 1) | none => 1
def yge (E1 : List Ca) (e : Ca) : Bool := decide (e.ag ≠ wnt E1 e)
theorem wnt_ag1 (wd : List Ca) (e : Ca) : wnt (agk wd wd.length) e = ag1 wd (la wd e wd.length) := by
  unfold wnt ag1
  rw [lk_agk wd e _ (Nat.le_refl _)]
  by_cases h : 0 ≤ la wd e wd.length
  · rw [if_pos h, if_pos h] <;> rfl
  · rw [if_neg h, if_neg h]
theorem yg_iff (wd wt : List Ca) : ∀ n, n ≤ wt.length → (yg wd wt n = true ↔ ∃ (i : Nat) (c : Ca), i < n ∧ wt[i]? = some c ∧ yg1 wd wt i c = true)
  | 0, _ => by simp [yg]
  | n + 1, hn => by
    obtain ⟨x, hx⟩ : ∃ y, wt[n]? = some y := ⟨_, List.getElem?_eq_getElem (by omega)⟩
    have ih := yg_iff wd wt n (by omega)
    unfold yg
    rw [hx, Bool.or_eq_true, ih]
    constructor
    · rintro (⟨i, c, h1, h2, h3⟩ | h)
      · exact ⟨i, c, by omega, h2, h3⟩
      · exact ⟨n, x, by omega, hx, h⟩
    · rintro ⟨i, c, h1, h2, h3⟩
      by_cases e : i = n
      · subst e; rw [hx] at h2; cases h2; exact .inr h3
      · exact .inl ⟨i, c, by omega, h2, h3⟩
theorem yg_any (wd wt : List Ca) : yg wd wt wt.length = (decide ((agk wt wt.length).length < wt.length) || (agk wt wt.length).any (yge (agk wd wd.length))) := by
  rw [Bool.eq_iff_iff, yg_iff _ _ _ (Nat.le_refl _), Bool.or_eq_true, decide_eq_true_iff, List.any_eq_true]
  by_cases hf : (agk wt wt.length).length = wt.length
  · obtain ⟨e1, e2⟩ := agk_full (Nat.le_refl _) hf
    rw [hf, e1, List.take_length]
    constructor
    · rintro ⟨i, c, h1, h2, h3⟩
      refine .inr ⟨c, List.mem_of_getElem? h2, ?_⟩
      unfold yg1 at h3
      rw [e2 i c h1 h2] at h3
      unfold yge
      rw [wnt_ag1]
      simpa using h3
    · rintro (h | ⟨c, h1, h2⟩)
      · omega
      · obtain ⟨i, hi⟩ := List.getElem?_of_mem h1
        refine ⟨i, c, (List.getElem?_eq_some_iff.1 hi).1, hi, ?_⟩
        unfold yge at h2
        rw [wnt_ag1] at h2
        unfold yg1
        rw [h2, Bool.or_true]
  · have hl := agk_len wt wt.length
    refine ⟨fun _ => .inl (by omega), fun _ => Classical.byContradiction fun hn => hf (agk_one (Nat.le_refl _) fun j y hj hy => Classical.byContradiction fun hne => hn ⟨j, y, hj, hy, ?_⟩)⟩
    unfold yg1
    simp [hne]
/-- cars that leap, as the program asks -/
theorem h1_right {s : St} {a b : List Cr} (hr : ∀ x y, sfB s x y = true → rightB s = true) (hc : rightB s = true → 1 ≤ s.ca) :
    h1 s a b = (!rightB s || (decide ((a.length : Int) ≠ s.ca) || (decide ((b.length : Int) ≠ s.ca) || lp s a b b.length))) := by
  unfold h1
  by_cases q1 : (a.length : Int) = s.ca
  · by_cases q2 : (b.length : Int) = s.ca
    · have e : a.length = b.length := by omega
      rw [e, Nat.min_self]
      cases q3 : rightB s
      · have hp : s.ca < 1 ∨ lp s a b b.length = true := by
          by_cases q4 : s.ca < 1
          · exact .inl q4
          · right
            obtain ⟨n, hn⟩ : ∃ n, b.length = n + 1 := ⟨b.length - 1, by omega⟩
            rw [hn]
            obtain ⟨x, hx⟩ : ∃ y, a[n]? = some y := ⟨_, List.getElem?_eq_getElem (by omega)⟩
            obtain ⟨y, hy⟩ : ∃ y, b[n]? = some y := ⟨_, List.getElem?_eq_getElem (by omega)⟩
            unfold lp
            rw [hx, hy]
            have : sfB s x y = false := by
              cases hq : sfB s x y with
              | false => rfl
              | true => rw [hr x y hq] at q3; cases q3
            simp [this]
        rcases hp with hp | hp
        · simp [hp]
        · rw [hp]; simp
      · have q4 : ¬ (s.ca < 1) := by have := hc q3; omega
        simp [q2, q4]
    · simp [q2]
  · by_cases q2 : (b.length : Int) = s.ca
    · have : ¬ (a.length = b.length) := by omega
      simp [q1, this]
    · simp [q1, q2]

end SF
end Go.Proofs.Ytjpkekmccbpclaj

/- The ages of calls, kept in a map. -/
namespace Go.Proofs.Ytjpkekmccbpclaj
open Go.RowKit Go.Shelf Go.ChangeMaps Go.MapKept

/-- the key of a call -/
def kyv (c : Ca) : Value := .agg #[.int .i64 c.fl, .int .i64 c.ca, .bool c.up]
theorem kyv_inj {x y : Ca} (h : kyv x = kyv y) : SF.alk x y = true := by
  unfold kyv at h
  simp only [Value.agg.injEq, Array.mk.injEq, List.cons.injEq, Value.int.injEq, Value.bool.injEq, and_true, true_and] at h
  exact SF.alk_iff.2 h
theorem eqKy (x y : Ca) (w : World) : (Op.equal 60 (kyv x) (kyv y)).run Try.prog w = .ok (SF.alk x y) w := by
  have u3 := Try.underlying3
  have u4 := Try.underlying4
  have uC := Try.underlying60
  unfold kyv
  change (Op.equalIn 10000 60 _ _).run Try.prog w = .ok (SF.alk x y) w
  by_cases q1 : x.fl = y.fl
  · have d1 : (x.fl == y.fl) = true := by simp [q1]
    by_cases q2 : x.ca = y.ca
    · have d2 : (x.ca == y.ca) = true := by simp [q2]
      have he : SF.alk x y = (x.up == y.up) := by simp [SF.alk, q1, q2]
      rw [he]
      clear he q1 q2
      cases hu : (x.up == y.up) <;> go_simp
    · have d2 : (x.ca == y.ca) = false := by simp [q2]
      have he : SF.alk x y = false := by simp [SF.alk, q2]
      rw [he]
      clear he q1 q2
      go_simp
  · have d1 : (x.fl == y.fl) = false := by simp [q1]
    have he : SF.alk x y = false := by simp [SF.alk, q1]
    rw [he]
    clear he q1
    go_simp
theorem keyKy1 (e : Bool) (n : Nat) (c : Ca) (w : World) : (Instr.checkKey e (n + 2) 60 (kyv c)).run Try.prog w = .ok () w := by
  have h3 : ∀ (a : Int) w, (Instr.checkKey e (n + 1) 3 (.int .i64 a)).run Try.prog w = .ok () w := fun a w => MapKept.run_checkKey Try.underlying3 (by simp [IsKey]) e n
  have h4 : ∀ (a : Bool) w, (Instr.checkKey e (n + 1) 4 (.bool a)).run Try.prog w = .ok () w := fun a w => MapKept.run_checkKey Try.underlying4 (by simp [IsKey]) e n
  unfold Instr.checkKey kyv
  simp [run_underlying Try.underlying60, h3, h4, go_sem]
theorem keyKy (e : Bool) (c : Ca) (w : World) : (Instr.checkKey e 10000 60 (kyv c)).run Try.prog w = .ok () w := keyKy1 e 9998 c w
/-- an entry as key and age -/
def kya (c : Ca) : Value × Value := (kyv c, .int .i64 c.ag)
theorem find_ages (c : Ca) (w : World) : ∀ (L : List Ca) (es : List MapEntry) (i : Nat), es.map (fun e => (e.key, e.val)) = L.map kya →
    (∃ j, i ≤ j ∧ (Instr.findAsking 60 (kyv c) es i).run Try.prog w = .ok ((SF.lk c L).map fun a => (j, .int .i64 a)) w ∧
      ((SF.lk c L).isSome = true → ∀ f, (∀ y, SF.alk c y = true → f (kya y) = kya c) → (es.map (fun e => (e.key, e.val))).modify (j - i) f = (SF.pt c L).map kya ∧ ∃ y ∈ L, SF.alk c y = true ∧ (es.map (·.key))[j - i]? = some (kyv y)))
  | [], es, i, h => by
    have : es = [] := by simpa using h
    subst this
    exact ⟨i, Nat.le_refl _, by simp [Instr.findAsking, SF.lk], fun h => by simp [SF.lk] at h⟩
  | y :: L, [], i, h => by simp at h
  | y :: L, e :: es, i, h => by
    rw [List.map_cons, List.map_cons, List.cons.injEq] at h
    obtain ⟨h12, h3⟩ := h
    have h1 : e.key = kyv y := congrArg Prod.fst h12
    have h2 : e.val = .int .i64 y.ag := congrArg Prod.snd h12
    obtain ⟨j, hij, hj, hj2⟩ := find_ages c w L es (i + 1) h3
    unfold Instr.findAsking SF.lk SF.pt
    cases hc : SF.alk c y
    · refine ⟨j, by omega, ?_, ?_⟩
      · simp only [Sem.run_bind, h1, eqKy, Result.andThen_ok, hc]; simpa using hj
      · intro hs f hf
        obtain ⟨e1, z, hz, hz1, hz2⟩ := hj2 (by simpa using hs) f hf
        obtain ⟨n, hn⟩ : ∃ n, j - i = n + 1 := ⟨j - i - 1, by omega⟩
        have hn2 : j - (i + 1) = n := by omega
        rw [hn2] at e1 hz2
        refine ⟨?_, z, List.mem_cons.2 (.inr hz), hz1, ?_⟩
        · rw [hn, List.map_cons, List.modify_succ_cons, e1, h12]; rfl
        · rw [hn, List.map_cons, List.getElem?_cons_succ, hz2]
    · refine ⟨i, Nat.le_refl _, ?_, ?_⟩
      · simp only [Sem.run_bind, h1, eqKy, Result.andThen_ok, hc, if_true, h2]; simp
      · intro _ f hf
        refine ⟨?_, y, List.mem_cons.2 (.inl rfl), hc, ?_⟩
        · rw [Nat.sub_self, List.map_cons, List.modify_zero_cons, h12, hf y hc, h3]; rfl
        · rw [Nat.sub_self, List.map_cons, List.getElem?_cons_zero, h1]
theorem findKy (c : Ca) (w : World) {L : List Ca} {es : List MapEntry} (h : es.map (fun e => (e.key, e.val)) = L.map kya) :
    ∃ j, (Instr.findKey 60 (kyv c) es).run Try.prog w = .ok ((SF.lk c L).map fun a => (j, .int .i64 a)) w ∧
      ((SF.lk c L).isSome = true → ∀ f, (∀ y, SF.alk c y = true → f (kya y) = kya c) → (es.map (fun e => (e.key, e.val))).modify j f = (SF.pt c L).map kya ∧ ∃ y ∈ L, SF.alk c y = true ∧ (es.map (·.key))[j]? = some (kyv y)) := by
  obtain ⟨j, _, hj, hj2⟩ := find_ages c w L es 0 h
  refine ⟨j, ?_, hj2⟩
  cases es with
  | nil =>
    have e : L = [] := by simpa using h.symm
    subst e
    simp [Instr.findKey, run_underlying Try.underlying60, Instr.findNow, Result.andThen, SF.lk]
  | cons x es =>
    have hx : ∀ k v, Instr.sameNow (.struct k) (kyv c) v = none := fun k v => by cases v <;> rfl
    simpa [Instr.findKey, run_underlying Try.underlying60, Instr.findNow, hx, Result.andThen] using hj
/-- block mb is a map of these ages -/
def MA (W : World) (mb : Nat) (E : List Ca) : Prop := ∃ es clock, W.heap[mb]? = some (.map es clock) ∧ es.toList.map (fun e => (e.key, e.val)) = E.map kya ∧ (es.toList.map (·.born)).Nodup ∧ ∀ x ∈ es.toList, x.born < clock
section
variable {W W' : World} {mb r : Nat} {E : List Ca}
theorem MA.lt (h : MA W mb E) : mb < W.heap.size := by
  obtain ⟨es, clock, hb, _⟩ := h
  exact (Array.getElem?_eq_some_iff.1 hb).1
theorem MA.keep (h : MA W mb E) (hk : W'.heap[mb]? = W.heap[mb]?) : MA W' mb E := by
  obtain ⟨es, clock, hb, h2⟩ := h
  exact ⟨es, clock, hk.trans hb, h2⟩
theorem MA.below' (h : MA W mb E) (hb : Below W.heap.size W W') : MA W' mb E := h.keep (hb.block mb h.lt)
theorem MA.new (W : World) : MA (W.alloc (.map #[] 0)) W.heap.size [] := ⟨#[], 0, World.alloc_heap_new W _, rfl, by simp, by simp⟩
/-- looking an age up -/
theorem MA.look (h : MA W mb E) (c : Ca) : (Instr.lookup 46 (.map (some mb)) (kyv c) true).run Try.prog W = .ok (.tuple #[.int .i64 ((SF.lk c E).getD 0), .bool (SF.lk c E).isSome]) W := by
  obtain ⟨es, clock, hb, h1, _⟩ := h
  obtain ⟨j, hj, _⟩ := findKy c W h1
  have hz : (zeroValue 3).run Try.prog W = .ok (.int .i64 0) W := by go_simp
  cases hc : SF.lk c E with
  | none =>
    rw [hc] at hj
    simp [Instr.lookup, run_underlying Try.underlying46, MapKept.run_getObj_map hb, keyKy, hj, Result.andThen, hz]
  | some x =>
    rw [hc] at hj
    simp [Instr.lookup, run_underlying Try.underlying46, MapKept.run_getObj_map hb, keyKy, hj, Result.andThen]
theorem MA.len (h : MA W mb E) : ∃ es clock, W.heap[mb]? = some (.map es clock) ∧ es.size = E.length := by
  obtain ⟨es, clock, hb, h1, _⟩ := h
  refine ⟨es, clock, hb, ?_⟩
  have := congrArg List.length h1
  simpa using this
theorem MA.lens (h : MA W mb E) (ty : TypeId) : (Builtin.len_ #[46] ty #[.map (some mb)]).run Try.prog W = .ok (.int .i64 (E.length : Int)) W := by
  obtain ⟨es, clock, hb, hl⟩ := h.len
  rw [← hl]
  simp [Builtin.len_, run_underlying Try.underlying46, MapKept.run_getObj_map hb, goInt, Result.andThen]
theorem sameKy (x y : Ca) (h : SF.alk x y = true) : Instr.sameBits 10000 (kyv y) (kyv x) = true := by
  obtain ⟨h1, h2, h3⟩ := SF.alk_iff.1 h
  unfold kyv
  rw [h1, h2, h3]
  simp [Instr.sameBits]
/-- an age is laid -/
theorem MA.lay (h : MA W mb E) (c : Ca) : ∃ o, (Instr.mapUpdate 46 (.map (some mb)) (kyv c) (.int .i64 c.ag)).run Try.prog W = .ok () (setBlock W mb o) ∧ MA (setBlock W mb o) mb (SF.pt c E) ∧ ∀ k, k ≠ mb → (setBlock W mb o).heap[k]? = W.heap[k]? := by
  obtain ⟨es, clock, hb, h1, hn, hlt⟩ := h
  obtain ⟨j, hj, hj2⟩ := findKy c W h1
  cases hc : SF.lk c E with
  | none =>
    rw [hc] at hj
    refine ⟨.map (es.push ⟨kyv c, .int .i64 c.ag, clock⟩) (clock + 1), ?_, ⟨_, _, heap_setBlock_same hb _, ?_, ?_, ?_⟩, fun _ hk => heap_setBlock_other hb _ hk⟩
    · simp [Instr.mapUpdate, run_underlying Try.underlying46, MapKept.run_getObj_map hb, keyKy, hj, MapKept.run_setObj_map _ hb, Result.andThen, setBlock]
    · rw [Array.toList_push, List.map_append, h1, SF.pt_new hc, List.map_append]
      rfl
    · rw [Array.toList_push, List.map_append, List.nodup_append]
      refine ⟨hn, by simp, ?_⟩
      intro a ha b hb2 e
      obtain ⟨x, hx, rfl⟩ := List.mem_map.1 ha
      have := hlt x hx
      simp at hb2
      omega
    · intro x hx
      rw [Array.toList_push, List.mem_append] at hx
      rcases hx with hx | hx
      · have := hlt x hx; omega
      · simp at hx; subst hx; simp
  | some a =>
    rw [hc] at hj
    obtain ⟨e1, y, _, hy, hk⟩ := hj2 (by rw [hc]; rfl) (fun p => (kyv c, .int .i64 c.ag)) (fun y _ => rfl)
    have hk2 : (es[j]?).map (·.key) = some (kyv y) := by
      rw [← Array.getElem?_toList, ← List.getElem?_map]; exact hk
    have hm : ∀ (l : List MapEntry) (j : Nat), (l.modify j fun e => { e with key := kyv c, val := .int .i64 c.ag }).map (fun e => (e.key, e.val)) = (l.map (fun e => (e.key, e.val))).modify j (fun _ => (kyv c, .int .i64 c.ag)) := fun l j => by
      induction l generalizing j with
      | nil => simp
      | cons z l ih => cases j with
        | zero => simp
        | succ j => simp [ih]
    have hm2 : ∀ (l : List MapEntry) (j : Nat), (l.modify j fun e => { e with key := kyv c, val := .int .i64 c.ag }).map (·.born) = l.map (·.born) := fun l j => by
      induction l generalizing j with
      | nil => simp
      | cons z l ih => cases j with
        | zero => simp
        | succ j => simp [ih]
    refine ⟨.map (es.modify j fun e => { e with key := kyv c, val := .int .i64 c.ag }) clock, ?_, ⟨_, _, heap_setBlock_same hb _, ?_, ?_, ?_⟩, fun _ hk => heap_setBlock_other hb _ hk⟩
    · simp [Instr.mapUpdate, run_underlying Try.underlying46, MapKept.run_getObj_map hb, keyKy, hj, hk2, Instr.keyThatStays, sameKy c y hy, MapKept.run_setObj_map _ hb, Result.andThen, setBlock]
    · rw [Array.toList_modify, hm, e1]
    · rw [Array.toList_modify, hm2]; exact hn
    · intro x hx
      rw [Array.toList_modify] at hx
      have : x.born ∈ es.toList.map (·.born) := by rw [← hm2 es.toList j]; exact List.mem_map.2 ⟨x, hx, rfl⟩
      obtain ⟨z, hz, e⟩ := List.mem_map.1 this
      have := hlt z hz
      omega
theorem sb_same {o : Obj} (h : W.heap[r]? = some o) (o' : Obj) : (setBlock W r o').heap[r]? = some o' := by
  have := (Array.getElem?_eq_some_iff.1 h).1
  simp [setBlock, this]
theorem sb_other (o' : Obj) {k : Nat} (hk : k ≠ r) : (setBlock W r o').heap[k]? = W.heap[k]? := by
  simp [setBlock, Ne.symm hk]
/-- a range over the ages, on its way: those that were seen have p false -/
def IT (W : World) (mb r : Nat) (E : List Ca) (p : Ca → Bool) : Prop := ∃ es clock since seen c0, W.heap[mb]? = some (.map es clock) ∧ es.toList.map (fun e => (e.key, e.val)) = E.map kya ∧ (es.toList.map (·.born)).Nodup ∧ (∀ x ∈ es.toList, x.born < since) ∧ since ≤ c0 ∧ since ≤ clock ∧
  W.heap[r]? = some (.mapIter (some mb) since seen c0) ∧ ∀ (i : Nat) x c, es.toList[i]? = some x → E[i]? = some c → seen.contains x.born = true → p c = false
/-- how many are left -/
def lft (w : World) (b r : Nat) : Nat :=
  match w.heap[b]?, w.heap[r]? with
  | some (.map es _), some (.mapIter _ _ seen _) => (leftOf es seen).size
  | _, _ => 0
theorem IT.lt {p : Ca → Bool} (h : IT W mb r E p) : mb < W.heap.size ∧ r < W.heap.size := by
  obtain ⟨es, clock, since, seen, c0, hb, _, _, _, _, _, hr, _⟩ := h
  exact ⟨(Array.getElem?_eq_some_iff.1 hb).1, (Array.getElem?_eq_some_iff.1 hr).1⟩
theorem IT.below' {p : Ca → Bool} (h : IT W mb r E p) (hb : Below W.heap.size W W') : IT W' mb r E p := by
  obtain ⟨l1, l2⟩ := h.lt
  obtain ⟨es, clock, since, seen, c0, h1, h2, h3, h4, h5, h5', h6, h7⟩ := h
  exact ⟨es, clock, since, seen, c0, (hb.block mb l1).trans h1, h2, h3, h4, h5, h5', (hb.block r l2).trans h6, h7⟩
theorem lft_below {p : Ca → Bool} (h : IT W mb r E p) (hb : Below W.heap.size W W') : lft W' mb r = lft W mb r := by
  obtain ⟨l1, l2⟩ := h.lt
  unfold lft
  rw [hb.block mb l1, hb.block r l2]
theorem MA.range (h : MA W mb E) (p : Ca → Bool) : (Instr.range 46 (.map (some mb))).run Try.prog W = .ok (.pointer (some ⟨W.heap.size, 0, none⟩)) (W.alloc (.mapIter (some mb) (h.choose_spec.choose) #[] (h.choose_spec.choose))) ∧ IT (W.alloc (.mapIter (some mb) (h.choose_spec.choose) #[] (h.choose_spec.choose))) mb W.heap.size E p := by
  obtain ⟨hb, h1, hn, hlt⟩ := h.choose_spec.choose_spec
  refine ⟨run_range_map W _ _ _ mb _ _ Try.underlying46 hb, _, _, _, _, _, (heap_alloc_old W _ h.lt).trans hb, h1, hn, hlt, Nat.le_refl _, Nat.le_refl _, heap_alloc_new W _, ?_⟩
  intro i x c _ _ h
  simp at h
/-- a step: nothing is left, or one comes out that wasn't seen -/
theorem IT.next {p : Ca → Bool} (h : IT W mb r E p) (ty : TypeId) (B : Nat) (hB : B ≤ r) :
    ((∀ c ∈ E, p c = false) ∧ (Instr.next (.pointer (some ⟨r, 0, none⟩)) false ty).run Try.prog W = .ok (.tuple #[.bool false]) W) ∨
    ∃ c ∈ E, ∃ V, (Instr.next (.pointer (some ⟨r, 0, none⟩)) false ty).run Try.prog W = .ok (.tuple #[.bool true, kyv c, .int .i64 c.ag]) V ∧ V.heap.size = W.heap.size ∧ Below B W V ∧ lft V mb r < lft W mb r ∧
      (Instr.entry (.pointer (some ⟨r, 0, none⟩))).run Try.prog V = .ok (.tuple #[kyv c, .int .i64 c.ag]) V ∧ (p c = false → IT V mb r E p) ∧ ∀ k, k ≠ r → V.heap[k]? = W.heap[k]? := by
  obtain ⟨es, clock, since, seen, c0, h1, h2, h3, h4, h5, h5', h6, h7⟩ := h
  have hne : mb ≠ r := fun e => by rw [e, h6] at h1; cases h1
  rcases run_next_at (P := Try.prog) W ty r mb since c0 seen es clock h6 h1 h4 h5 with ⟨hz, hr⟩ | ⟨e, he, w1, hw1, hr⟩
  · left
    refine ⟨fun c hc => ?_, hr⟩
    obtain ⟨i, hi⟩ := List.getElem?_of_mem hc
    have hl : i < es.toList.length := by
      have := congrArg List.length h2
      simp only [List.length_map] at this
      rw [this]; exact (List.getElem?_eq_some_iff.1 hi).1
    exact h7 i _ c (List.getElem?_eq_getElem hl) hi (all_seen es seen hz _ (List.getElem_mem hl))
  · right
    obtain ⟨hm, hs⟩ := mem_left he
    obtain ⟨i, hi⟩ := List.getElem?_of_mem hm
    have hl : i < E.length := by
      have := congrArg List.length h2
      simp only [List.length_map] at this
      rw [← this]; exact (List.getElem?_eq_some_iff.1 hi).1
    obtain ⟨c, hc⟩ : ∃ c, E[i]? = some c := ⟨_, List.getElem?_eq_getElem hl⟩
    have hkv : (e.key, e.val) = kya c := by
      have := congrArg (·[i]?) h2
      simp only [List.getElem?_map, hi, hc, Option.map_some, Option.some.injEq] at this
      exact this
    have hk : e.key = kyv c := congrArg Prod.fst hkv
    have hv : e.val = .int .i64 c.ag := congrArg Prod.snd hkv
    have hw : w1.heap = W.heap ∧ Below B W w1 := by
      rcases hw1 with rfl | rfl
      · exact ⟨rfl, Below.refl _ _⟩
      · exact ⟨rfl, (Below.refl _ _).drew⟩
    have h6' : w1.heap[r]? = some (.mapIter (some mb) since seen c0) := by rw [hw.1]; exact h6
    have hsame : (setBlock w1 r (.mapIter (some mb) since (seen.push e.born) clock)).heap[r]? = some (.mapIter (some mb) since (seen.push e.born) clock) := sb_same h6' _
    have hoth : ∀ k, k ≠ r → (setBlock w1 r (.mapIter (some mb) since (seen.push e.born) clock)).heap[k]? = W.heap[k]? := fun k hk => (sb_other _ hk).trans (by rw [hw.1])
    have hsz : (setBlock w1 r (.mapIter (some mb) since (seen.push e.born) clock)).heap.size = W.heap.size := by simp [setBlock, hw.1]
    have hm' : (setBlock w1 r (.mapIter (some mb) since (seen.push e.born) clock)).heap[mb]? = some (.map es clock) := (hoth mb hne).trans h1
    refine ⟨c, List.mem_of_getElem? hc, _, by rw [hr, hk, hv], hsz, ?_, ?_, ?_, ?_, hoth⟩
    · exact ⟨hw.2.os, hw.2.tape, hw.2.output, by rw [hsz]; exact Nat.le_refl _, fun k hk => hoth k (by omega)⟩
    · unfold lft
      rw [hm', hsame, h1, h6]
      exact left_shrinks es seen e he
    · rw [← hk, ← hv]
      exact run_entry_at _ r mb since seen es clock e hsame hm' hm h3
    · intro hp
      refine ⟨es, clock, since, seen.push e.born, clock, hm', h2, h3, h4, h5', h5', hsame, ?_⟩
      intro i' x' c' hx' hc' hsn
      rw [contains_push, Bool.or_eq_true] at hsn
      rcases hsn with hsn | hsn
      · exact h7 i' x' c' hx' hc' hsn
      · have hxe : x' = e := born_inj h3 (List.mem_of_getElem? hx') hm (by simpa using hsn)
        subst hxe
        have : i' = i := by
          obtain ⟨b1, b2⟩ := List.getElem?_eq_some_iff.1 hx'
          obtain ⟨b3, b4⟩ := List.getElem?_eq_some_iff.1 hi
          have l1 : i' < (es.toList.map (·.born)).length := by rw [List.length_map]; exact b1
          have l2 : i < (es.toList.map (·.born)).length := by rw [List.length_map]; exact b3
          have l3 : (es.toList.map (·.born))[i'] = (es.toList.map (·.born))[i] := by rw [List.getElem_map, List.getElem_map, b2, b4]
          rcases Nat.lt_trichotomy i' i with h | h | h
          · exact absurd l3 (List.pairwise_iff_getElem.1 h3 i' i l1 l2 h)
          · exact h
          · exact absurd l3.symm (List.pairwise_iff_getElem.1 h3 i i' l2 l1 h)
        subst this
        rw [hc] at hc'
        cases hc'
        exact hp
end

end Go.Proofs.Ytjpkekmccbpclaj

/- What is wrong with a tick, as the document tells it: calls that are alike. -/
namespace Go.Proofs.Ytjpkekmccbpclaj
open Go.RowKit Go.Shelf

/-- a block that holds a call -/
def KB (W : World) (b : Nat) (y : Ca) : Prop := W.heap[b]? = some (.cells #[.int .i64 y.fl, .int .i64 y.ca, .int .i64 y.ag, .bool y.up] 43 (0, 0))
section
variable {W W' : World} {b : Nat} {y : Ca}
theorem KB.lt (H : KB W b y) : b < W.heap.size := (Array.getElem?_eq_some_iff.1 H).1
theorem KB.below' (H : KB W b y) (hb : Below W.heap.size W W') : KB W' b y := (hb.block b H.lt).trans H
theorem KB.new (W : World) (y : Ca) : KB (W.alloc (.cells #[.int .i64 y.fl, .int .i64 y.ca, .int .i64 y.ag, .bool y.up] 43)) W.heap.size y := World.alloc_heap_new W _
theorem KB.rng (H : KB W b y) : W.rangeAt b 0 (cav y) := fun j v hv => by
  have : W.cell? ⟨b, 0 + j, none⟩ = (#[.int .i64 y.fl, .int .i64 y.ca, .int .i64 y.ag, .bool y.up] : Array Value)[0 + j]? := by simp [World.cell?, show W.heap[b]? = _ from H]
  rw [this]
  rcases j with _ | _ | _ | _ | j <;> first | exact hv | (simp [cav] at hv)
theorem KB.c0 (H : KB W b y) : W.cell? ⟨b, 0, none⟩ = some (.int .i64 y.fl) := by simp [World.cell?, show W.heap[b]? = _ from H]
theorem KB.c1 (H : KB W b y) : W.cell? ⟨b, 1, none⟩ = some (.int .i64 y.ca) := by simp [World.cell?, show W.heap[b]? = _ from H]
theorem KB.c2 (H : KB W b y) : W.cell? ⟨b, 2, none⟩ = some (.int .i64 y.ag) := by simp [World.cell?, show W.heap[b]? = _ from H]
theorem KB.c3 (H : KB W b y) : W.cell? ⟨b, 3, none⟩ = some (.bool y.up) := by simp [World.cell?, show W.heap[b]? = _ from H]
theorem KB.fr (H : KB W b y) (i : Nat) : W.frozen? ⟨b, i, none⟩ = false := by simp [World.frozen?, show W.heap[b]? = _ from H]
theorem KB.load (H : KB W b y) : (Instr.loadAt 43 (.pointer (some ⟨b, 0, none⟩))).run Try.prog W = .ok (.agg #[.int .i64 y.fl, .int .i64 y.ca, .int .i64 y.ag, .bool y.up]) W := loadCl W b 0 y H.rng
end
theorem quiet_loadKB {C : World → Prop} {K : Act → Prop} {o : Oper} {a : Act} (x : Operand) (b : Nat) {y : Ca} (ho : o.op = .load 43 x) (hx : a.eval x = .pointer (some ⟨b, 0, none⟩)) (hr : ∀ w, C w → KB w b y)
    (hn : K (a.put o.dst (.agg #[.int .i64 y.fl, .int .i64 y.ca, .int .i64 y.ag, .bool y.up]))) : o.quiet Try.prog a C K :=
  quiet_val _ (fun w hw => by unfold execOp; simp only [ho, hx, Sem.run_bind, Sem.run_pure, Result.andThen_ok, (hr w hw).load]) hn
theorem quiet_loadCl {C : World → Prop} {K : Act → Prop} {o : Oper} {a : Act} (x : Operand) (g q : Nat) {y : Ca} (ho : o.op = .load 43 x) (hx : a.eval x = .pointer (some ⟨g, q, none⟩)) (hr : ∀ w, C w → w.rangeAt g q (cav y))
    (hn : K (a.put o.dst (.agg #[.int .i64 y.fl, .int .i64 y.ca, .int .i64 y.ag, .bool y.up]))) : o.quiet Try.prog a C K :=
  quiet_val _ (fun w hw => by unfold execOp; simp only [ho, hx, Sem.run_bind, Sem.run_pure, Result.andThen_ok, loadCl w g q y (hr w hw)]; rfl) hn

theorem ralike_any (x y : Ca) (w : World) :
    Calls Try.prog 29 #[.agg #[.int .i64 x.fl, .int .i64 x.ca, .int .i64 x.ag, .bool x.up], .agg #[.int .i64 y.fl, .int .i64 y.ca, .int .i64 y.ag, .bool y.up]] w fun e w' => e = .returned (.bool (SF.alk x y)) ∧ Below w.heap.size w w' := by
  obtain ⟨r, HR⟩ : ∃ r, Hid (SF.alk x y = r) := ⟨_, Hid.intro' rfl⟩
  rw [HR.out]
  have HB : Hid (Below w.heap.size w ((w.alloc (.cells #[.int .i64 x.fl, .int .i64 x.ca, .int .i64 x.ag, .bool x.up] 43)).alloc (.cells #[.int .i64 y.fl, .int .i64 y.ca, .int .i64 y.ag, .bool y.up] 43))) := ((Below.refl _ w).alloc (Nat.le_refl _) _).alloc (by simp) _
  go_enter Try.func29, Try.ntmps29
  by_cases q1 : x.fl = y.fl
  · have d1 : (x.fl == y.fl) = true := by simpa using q1
    by_cases q2 : x.ca = y.ca
    · have d2 : (x.ca == y.ca) = true := by simpa using q2
      have HE : Hid ((x.up == y.up) = r) := by rw [← HR.out]; show _ = SF.alk x y; unfold SF.alk; simp [q1, q2]
      clear q1 q2 HR
      go_wp2
      go_ret
      exact ⟨ret_boo HE.out, HB.out⟩
    · have d2 : (x.ca == y.ca) = false := by simpa using q2
      have HE : Hid (false = r) := by rw [← HR.out]; show _ = SF.alk x y; unfold SF.alk; simp [q2]
      clear q1 q2 HR
      go_wp2
      go_ret
      exact ⟨ret_boo HE.out, HB.out⟩
  · have d1 : (x.fl == y.fl) = false := by simpa using q1
    have HE : Hid (false = r) := by rw [← HR.out]; show _ = SF.alk x y; unfold SF.alk; simp [q1]
    clear q1 HR
    go_wp2
    go_ret
    exact ⟨ret_boo HE.out, HB.out⟩

set_option maxHeartbeats 2000000 in
theorem rlast_any (D : Nat → Prop) (v : Value) (L : List Ca) (c : Ca) (W : World) (h : RC D W v L) (hl : L.length ≤ 200) :
    Calls Try.prog 19 #[v, .agg #[.int .i64 c.fl, .int .i64 c.ca, .int .i64 c.ag, .bool c.up]] W fun e w' => e = .returned (.int .i64 (SF.la L c L.length)) ∧ Below W.heap.size W w' := by
  obtain ⟨av, kv, rfl, _⟩ := h.form
  obtain ⟨r, HR⟩ : ∃ r, Hid (SF.la L c L.length = r) := ⟨_, Hid.intro' rfl⟩
  rw [HR.out]
  have HB0 : Hid (Below W.heap.size W (W.alloc (.cells #[.int .i64 c.fl, .int .i64 c.ca, .int .i64 c.ag, .bool c.up] 43))) := (Below.refl _ W).alloc (Nat.le_refl _) _
  have HK0 := Hid.intro' (KB.new W c)
  have HC := Hid.intro' h
  obtain ⟨n, hn⟩ : ∃ n, L.length = n := ⟨_, rfl⟩
  rw [hn] at HC HR hl ⊢
  have HN := Hid.intro' hn
  clear h hn
  go_enter Try.func19, Try.ntmps19
  go_wp2_with fail
  generalize W.alloc (.cells #[.int .i64 c.fl, .int .i64 c.ca, .int .i64 c.ag, .bool c.up] 43) = V at HB0 HK0 ⊢
  go_loopw [5] (fun iv wr => ∃ i : Nat, i ≤ n ∧ iv = .int .i64 ((i : Int) - 1) ∧ Hid (SF.la L c i = r) ∧ Hid (Below W.heap.size W wr) ∧ Hid (KB wr W.heap.size c)) (fun iv _ => (intOf iv + 1).toNat)
  case atStart => exact ⟨n, Nat.le_refl _, by first | rfl | go_num, HR, HB0, HK0⟩
  case round =>
    clear HB0 HK0 HR
    obtain ⟨i, hi, rfl, HR, HB, HK⟩ := hrel
    cases i with
    | zero =>
      have HE : Hid (-1 = r) := HR.out
      go_wp2
      go_ret
      exact ⟨ret_int HE.out, HB.out⟩
    | succ k =>
      have hkz : ((k + 1 : Nat) : Int) - 1 = (k : Int) := by omega
      rw [hkz]
      have hkn : k < n := by omega
      have h0 : (0 : Int) ≤ (k : Int) := by omega
      have hL : k < L.length := by rw [HN.out]; exact hkn
      obtain ⟨y, hy⟩ : ∃ y, L[k]? = some y := ⟨_, List.getElem?_eq_getElem hL⟩
      obtain ⟨g, o, ha, hg, hr⟩ := (HC.out.below' HB.out).rng hy
      subst ha
      have HG : Hid (∀ w', Below wr.heap.size wr w' → w'.rangeAt g (o + k * 4) (cav y)) := fun w' hw => rng_below hr hg hw
      have HKK : Hid (∀ w', Below wr.heap.size wr w' → KB w' W.heap.size c) := fun w' hw => HK.out.below' hw
      have HY := Hid.intro' hy
      have hix : ∀ W : World, (Instr.indexAt 25 (.slice (some ⟨g, o, none⟩) n kv) (.int .i64 (k : Int))).run Try.prog W = .ok (.pointer (some ⟨g, o + k * 4, none⟩)) W := fun W => ixCa W hkn
      clear hy hr hg hL hkz
      have hla : SF.la L c (k + 1) = if SF.alk y c = true then (k : Int) else SF.la L c k := by
        show (if SF.alo L[k]? c = true then _ else _) = _
        rw [HY.out]; rfl
      cases hb : SF.alk y c
      · have HAL : Hid (∀ w', Calls Try.prog 29 #[.agg #[.int .i64 y.fl, .int .i64 y.ca, .int .i64 y.ag, .bool y.up], .agg #[.int .i64 c.fl, .int .i64 c.ca, .int .i64 c.ag, .bool c.up]] w' fun e w'' => e = .returned (.bool false) ∧ Below w'.heap.size w' w'') := fun w' => by
          have h := ralike_any y c w'
          rwa [hb] at h
        have HR2 : Hid (SF.la L c k = r) := by show _ = _; rw [← HR.out, hla, hb]; rfl
        clear hb hla HY HR
        go_wp2_with fail
        refine wp_region_quiet (C := fun w' => Below wr.heap.size wr w') (by kernel_rfl) (by kernel_rfl) ((Below.refl _ _).drew) ?_
        simp only []
        unfold wpQuiet
        generalize hK : wpQuiet Try.prog _ _ _ _ = K
        go_simp
        refine ⟨_, fun _ _ => rfl, ?_⟩
        subst hK
        unfold wpQuiet
        generalize hK : wpQuiet Try.prog _ _ _ _ = K
        go_simp
        refine ⟨_, fun _ _ => rfl, ?_⟩
        subst hK
        unfold wpQuiet
        generalize hK : wpQuiet Try.prog _ _ _ _ = K
        go_simp
        refine ⟨_, fun _ _ => rfl, ?_⟩
        subst hK
        unfold wpQuiet
        generalize hK : wpQuiet Try.prog _ _ _ _ = K
        rw [if_pos (by go_simp)]
        refine quiet_loadCl _ _ _ rfl rfl HG.out ?_
        go_simp
        subst hK
        unfold wpQuiet
        generalize hK : wpQuiet Try.prog _ _ _ _ = K
        rw [if_pos (by go_simp)]
        refine quiet_loadKB _ _ rfl rfl HKK.out ?_
        go_simp
        subst hK
        unfold wpQuiet
        generalize hK : wpQuiet Try.prog _ _ _ _ = K
        go_simp
        refine ⟨_, fun w' hw => (HAL.out w').mono fun e w'' hh => ⟨hh.1, below_class hw hh.2⟩, ?_⟩
        subst hK
        refine wpQuiet_nil ?_
        intro W7 hb7
        have HB7 := Hid.intro' (below_class HB.out hb7)
        have HK7 := Hid.intro' (HK.out.below' hb7)
        clear hb7 HG HKK HAL HB HK
        go_wp2
        go_roundw
        case rel => exact ⟨k, by omega, by first | rfl | go_num, HR2, HB7, HK7⟩
        case measure => simp [intOf]
      · have HAL : Hid (∀ w', Calls Try.prog 29 #[.agg #[.int .i64 y.fl, .int .i64 y.ca, .int .i64 y.ag, .bool y.up], .agg #[.int .i64 c.fl, .int .i64 c.ca, .int .i64 c.ag, .bool c.up]] w' fun e w'' => e = .returned (.bool true) ∧ Below w'.heap.size w' w'') := fun w' => by
          have h := ralike_any y c w'
          rwa [hb] at h
        have HR2 : Hid ((k : Int) = r) := by show _ = _; rw [← HR.out, hla, hb]; rfl
        clear hb hla HY HR
        go_wp2_with fail
        refine wp_region_quiet (C := fun w' => Below wr.heap.size wr w') (by kernel_rfl) (by kernel_rfl) ((Below.refl _ _).drew) ?_
        simp only []
        unfold wpQuiet
        generalize hK : wpQuiet Try.prog _ _ _ _ = K
        go_simp
        refine ⟨_, fun _ _ => rfl, ?_⟩
        subst hK
        unfold wpQuiet
        generalize hK : wpQuiet Try.prog _ _ _ _ = K
        go_simp
        refine ⟨_, fun _ _ => rfl, ?_⟩
        subst hK
        unfold wpQuiet
        generalize hK : wpQuiet Try.prog _ _ _ _ = K
        go_simp
        refine ⟨_, fun _ _ => rfl, ?_⟩
        subst hK
        unfold wpQuiet
        generalize hK : wpQuiet Try.prog _ _ _ _ = K
        rw [if_pos (by go_simp)]
        refine quiet_loadCl _ _ _ rfl rfl HG.out ?_
        go_simp
        subst hK
        unfold wpQuiet
        generalize hK : wpQuiet Try.prog _ _ _ _ = K
        rw [if_pos (by go_simp)]
        refine quiet_loadKB _ _ rfl rfl HKK.out ?_
        go_simp
        subst hK
        unfold wpQuiet
        generalize hK : wpQuiet Try.prog _ _ _ _ = K
        go_simp
        refine ⟨_, fun w' hw => (HAL.out w').mono fun e w'' hh => ⟨hh.1, below_class hw hh.2⟩, ?_⟩
        subst hK
        refine wpQuiet_nil ?_
        intro W7 hb7
        have HB7 := Hid.intro' (below_class HB.out hb7)
        clear hb7 HG HKK HAL HB HK
        go_wp2
        go_ret
        exact ⟨ret_int HR2.out, HB7.out⟩

end Go.Proofs.Ytjpkekmccbpclaj
