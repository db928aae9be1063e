/- The cost, as the document tells it; whether two lists are one. -/
import Derived.Test.YtkcppidmbojglafRtB
namespace Go.Proofs.Ytkcppidmbojglaf
open Go.RowKit

namespace RM
theorem put_mem {t : Int} : ∀ {q : List (Int × Int)} {o : List Int}, t ∈ put o q → t ∈ o ∨ ∃ x ∈ q, x.2 = t
  | [], _, h => .inl h
  | x :: q, o, h => by
    rcases put_mem (q := q) (o := o.set x.1.toNat x.2) h with h | ⟨y, hy, e⟩
    · rcases List.mem_or_eq_of_mem_set h with h | h
      · exact .inl h
      · exact .inr ⟨x, by simp, h.symm⟩
    · exact .inr ⟨y, by simp [hy], e⟩
theorem prs_bd {s : St} {ws cs : List (Int × Int)} {p : List (List Int)} (z : Rz s ws cs) (hp : ∀ x ∈ p.flatten, 0 ≤ x ∧ x < ws.length) (hc : ∀ r ∈ cs, r.2 ≤ 1000000) (hl : ∀ l ∈ p, l.length ≤ 1000) : ∀ x ∈ prs s ws cs p, 0 ≤ x.2 ∧ x.2 ≤ 80000000 := fun x hx => by
  obtain ⟨w, t⟩ := x
  obtain ⟨c, i, r, l, h1, h2, h3, h4⟩ := prs_where hx
  have hall : ∀ x ∈ l, 0 ≤ x ∧ x < ws.length := fun x hx => hp x (List.mem_flatten.2 ⟨l, List.mem_of_getElem? h2, hx⟩)
  have hin := z.inn (l := l.take i) fun x hx => hall x (List.mem_of_mem_take hx)
  have ok0 := z.cr r (List.mem_of_getElem? h1)
  have ok := go_ok z.rt ok0 hin
  have g1 := ar_nn z.rt ok (wf ws w)
  have g2 := ar_le z.rt ok (wf ws w)
  have g3 := go_le z.rt ok0 hin
  have g4 := hc r (List.mem_of_getElem? h1)
  have g5 := hl l (List.mem_of_getElem? h2)
  have g6 := (List.getElem?_eq_some_iff.1 h3).1
  rw [List.length_map, List.length_take] at g3
  have g7 : (bg r).le = r.2 := rfl
  show 0 ≤ t ∧ t ≤ _
  omega
theorem wts_bd {s : St} {ws cs : List (Int × Int)} {p : List (List Int)} (z : Rz s ws cs) (hp : ∀ x ∈ p.flatten, 0 ≤ x ∧ x < ws.length) (hc : ∀ r ∈ cs, r.2 ≤ 1000000) (hl : ∀ l ∈ p, l.length ≤ 1000) : ∀ t ∈ wts s ws cs p, 0 ≤ t ∧ t ≤ 80000000 := fun t ht => by
  rcases put_mem ht with h | ⟨x, hx, e⟩
  · rw [List.mem_replicate] at h; omega
  · rw [← e]; exact prs_bd z hp hc hl x hx
theorem sum_bd {B : Int} : ∀ {l : List Int}, (∀ t ∈ l, 0 ≤ t ∧ t ≤ B) → 0 ≤ l.sum ∧ l.sum ≤ B * (l.length : Int)
  | [], _ => by simp
  | a :: l, h => by
    have h1 := h a (by simp)
    have h2 := sum_bd (l := l) fun t ht => h t (by simp [ht])
    rw [List.sum_cons, List.length_cons, Int.natCast_add, Int.mul_add]
    omega
end RM
/-- what is known of a plan that may be -/
structure Fs (s : Sn) (p : List (List Int)) : Prop where
  rg : rgt s = true
  rz : RM.Rz s.st s.ws s.cs
  fz : PM.Fz (msk s) p
  pc : s.cs.length = p.length
  ml : (msk s).length = s.ws.length
  wl : s.ws.length ≤ 128
  p1 : 1 ≤ p.length
  p8 : p.length ≤ 8
  fr : ∀ x ∈ p.flatten, 0 ≤ x ∧ x < s.ws.length
  af : ∀ r ∈ s.cs, r.2 ≤ 1000000
theorem fsb_fs {s : Sn} {p : List (List Int)} (hf : fsb s p = true) : Fs s p := by
  have hf3 : rgt s = true ∧ p.length = s.cs.length ∧ PM.feas (msk s) p = true := by unfold fsb at hf; simp [Bool.and_eq_true] at hf; exact ⟨hf.1.1, hf.1.2, hf.2⟩
  obtain ⟨n, hrs⟩ := rgt_rs hf3.1
  have h1 := hrs.cl
  have h2 := hrs.n8
  have h3 := hrs.n1
  have h4 := hf3.2.1
  refine ⟨hf3.1, rgt_rz hf3.1, PM.feas_iff.1 hf3.2.2, hf3.2.1.symm, hrs.mm.len, hrs.wl, by omega, by omega, fun x hx => ?_, rgt_after hf3.1⟩
  have := RM.fz_range (PM.feas_iff.1 hf3.2.2) x hx
  rw [show (msk s).length = s.ws.length from hrs.mm.len] at this
  exact this
/-- what a plan costs -/
theorem Fs.sum {s : Sn} {p : List (List Int)} (h : Fs s p) : (RM.wts s.st s.ws s.cs p).sum = RM.cst s.st s.ws s.cs p := RM.wts_sum h.fz h.ml h.pc
theorem Fs.bd {s : Sn} {p : List (List Int)} (h : Fs s p) (hl : ∀ l ∈ p, l.length ≤ 1000) : ∀ t ∈ RM.wts s.st s.ws s.cs p, 0 ≤ t ∧ t ≤ 80000000 := RM.wts_bd h.rz h.fr h.af hl
theorem Fs.cost {s : Sn} {p : List (List Int)} (h : Fs s p) (hl : ∀ l ∈ p, l.length ≤ 1000) : 0 ≤ RM.cst s.st s.ws s.cs p ∧ RM.cst s.st s.ws s.cs p ≤ 10240000000 := by
  have h1 := RM.sum_bd (h.bd hl)
  rw [h.sum, RM.wts_length] at h1
  have := h.wl
  omega

set_option maxHeartbeats 4000000 in
theorem rcost_any (s : Sn) (D : Nat → Prop) (vc vw vp : Value) (p : List (List Int)) (w : World) (hc : R2 D w vc s.cs) (hw : R2 D w vw s.ws) (hp : RL D w vp p) (hf : fsb s p = true) (hll : ∀ l ∈ p, l.length ≤ 1000) :
    Calls Try.prog 22 #[.agg (nv s.st vc vw).toArray, vp] w fun e w' => e = .returned (.int .i64 (RM.cst s.st s.ws s.cs p)) ∧ Below w.heap.size w w' := by
  have HFS := Hid.intro' (fsb_fs hf)
  have hbx := (Below.refl w.heap.size w).alloc (Nat.le_refl _) (.cells (nv s.st vc vw).toArray 27)
  have HN := Hid.intro' (NB.new w s.st vc vw)
  have HB := Hid.intro' hbx
  have HRW := Hid.intro' (rwaits_any s D vc vw vp p _ (hc.below' hbx) (hw.below' hbx) (hp.below' hbx) hf hll)
  have HS := Hid.intro' (fsb_fs hf).sum
  have HL : Hid ((RM.wts s.st s.ws s.cs p).length = s.ws.length) := RM.wts_length
  have hwl : s.ws.length ≤ 128 := (fsb_fs hf).wl
  have HBD := Hid.intro' ((fsb_fs hf).bd hll)
  clear hc hw hp hf hll hbx
  generalize hwt : RM.wts s.st s.ws s.cs p = ts at HRW HS HL HBD
  clear hwt
  generalize RM.cst s.st s.ws s.cs p = cst at HS
  go_enter Try.func22, Try.ntmps22
  go_wp2_with (refine wpList_load27g rfl _ rfl w.heap.size s.st _ _ rfl HN.out ?_)
  refine HRW.out.mono ?_
  rintro e W1 ⟨v, rfl, ho, hb1⟩
  obtain ⟨av, kv, rfl⟩ := ho.slice
  rw [HL.out] at ho ⊢
  have HO := Hid.intro' ho
  have HB1 := Hid.intro' (below_class HB.out hb1)
  clear ho hb1 HN HRW HB
  go_wp2_with fail
  go_loopw [6, 7] (fun n i wr => ∃ (j : Nat) (t : Int), j ≤ s.ws.length ∧ i = .int .i64 (j : Int) ∧ n = .int .i64 t ∧ Hid (wr = W1) ∧ Hid (t = (ts.take j).sum)) (fun _ i _ => s.ws.length - (intOf i).toNat)
  case atStart => exact ⟨0, 0, Nat.zero_le _, rfl, rfl, rfl, by show _ = _; simp⟩
  case round =>
    obtain ⟨j, t, hj, rfl, rfl, HW1, HT⟩ := hrel
    obtain rfl : wr = W1 := HW1.out
    by_cases hlt : j < s.ws.length
    · have hjz : (j : Int) < (s.ws.length : Int) := by omega
      obtain ⟨y, hy⟩ : ∃ y, ts[j]? = some y := ⟨_, List.getElem?_eq_getElem (by have := HL.out; omega)⟩
      obtain ⟨gv, ov, rfl, hcy⟩ := (HO.out.ri (D := fun _ => True) fun _ _ => trivial).at hy
      have hyb := HBD.out y (List.mem_of_getElem? hy)
      have hsb := RM.sum_bd (B := 80000000) (l := ts.take j) fun t ht => HBD.out t (List.mem_of_mem_take ht)
      rw [← HT.out, List.length_take] at hsb
      have HT2 : Hid (t + y = (ts.take (j + 1)).sum) := by
        show _ = _
        rw [take_snoc hy, List.sum_append, ← HT.out]; simp
      have hw1 : IntKind.i64.wrap (t + y) = t + y := IntWalk.i64_in _ (by omega)
      clear hy hyb hsb
      go_wp2
      go_roundw
      case rel => exact ⟨j + 1, t + y, by omega, by go_num, by go_num, trivial, HT2⟩
      case measure => simp [intOf]; omega
    · have hjz : ¬ (j : Int) < (s.ws.length : Int) := by omega
      have HE : Hid (t = cst) := by
        show t = _
        rw [HT.out, List.take_of_length_le (by have := HL.out; omega)]; exact HS.out
      go_wp2
      go_ret
      exact ⟨ret_int HE.out, HB1.out⟩

set_option maxHeartbeats 4000000 in
theorem rsame_any (D D' : Nat → Prop) (va vb : Value) (l m : List Int) (w : World) (ha : RI D w va l) (hb : RI D' w vb m) (hl : l.length ≤ 100000) :
    Calls Try.prog 20 #[va, vb] w fun e w' => e = .returned (.bool (decide (l = m))) ∧ Below w.heap.size w w' := by
  have HA := Hid.intro' ha
  have HB := Hid.intro' hb
  obtain ⟨aa, ka, rfl, _, _⟩ := ha.form
  obtain ⟨ab, kb, rfl, _, _⟩ := hb.form
  clear ha hb
  by_cases hlen : l.length = m.length
  · have hlz : (l.length : Int) = (m.length : Int) := by omega
    have HLN := Hid.intro' hlen
    have q0 : ((l.length : Int) != (m.length : Int)) = false := by simp; omega
    clear hlen hlz
    go_enter Try.func20, Try.ntmps20
    go_wp2_with fail
    clear q0
    go_loopw [5] (fun i wr => ∃ j : Nat, j ≤ l.length ∧ i = .int .i64 (j : Int) ∧ Hid (Below w.heap.size w wr) ∧ Hid (l.take j = m.take j)) (fun i _ => l.length - (intOf i).toNat)
    case atStart => exact ⟨0, Nat.zero_le _, rfl, Below.refl _ _, rfl⟩
    case round =>
      obtain ⟨j, hj, rfl, HW, HT⟩ := hrel
      by_cases hlt : j < l.length
      · have hjz : (j : Int) < (l.length : Int) := by omega
        have hjm : (j : Int) < (m.length : Int) := by have := HLN.out; omega
        obtain ⟨x, hx⟩ : ∃ x, l[j]? = some x := ⟨_, List.getElem?_eq_getElem hlt⟩
        obtain ⟨y, hy⟩ : ∃ y, m[j]? = some y := ⟨_, List.getElem?_eq_getElem (by have := HLN.out; omega)⟩
        obtain ⟨ga, oa, rfl, hcx⟩ := (HA.out.below' HW.out).at hx
        obtain ⟨gb, ob, rfl, hcy⟩ := (HB.out.below' HW.out).at hy
        have HX := Hid.intro' hx
        have HY := Hid.intro' hy
        clear hx hy
        by_cases he : x = y
        · have HT2 : Hid (l.take (j + 1) = m.take (j + 1)) := by
            show _ = _
            rw [take_snoc HX.out, take_snoc HY.out, HT.out, he]
          have q1 : (x != y) = false := by simp [he]
          clear he
          go_wp2_with fail
          go_region
          go_wp2
          go_roundw
          case rel => exact ⟨j + 1, by omega, by go_num, HW.out.drew, HT2⟩
          case measure => simp [intOf]; omega
        · have q1 : (x != y) = true := by simp [he]
          have HNE : Hid (decide (l = m) = false) := by
            show _ = _
            rw [decide_eq_false_iff_not]
            intro e
            have h1 := HX.out
            rw [e, HY.out] at h1
            cases h1
            exact he rfl
          clear he
          go_wp2_with fail
          go_region
          go_wp2
          go_ret
          exact ⟨ret_bool HNE.out.symm, HW.out.drew⟩
      · have hjz : ¬ (j : Int) < (l.length : Int) := by omega
        have HE : Hid (decide (l = m) = true) := by
          show _ = _
          have h1 := HT.out
          rw [List.take_of_length_le (by omega), List.take_of_length_le (by have := HLN.out; omega)] at h1
          rw [decide_eq_true_eq]; exact h1
        go_wp2
        go_ret
        exact ⟨ret_bool HE.out.symm, HW.out⟩
  · have q0 : ((l.length : Int) != (m.length : Int)) = true := by simp; omega
    have HNE : Hid (decide (l = m) = false) := by
      show _ = _
      rw [decide_eq_false_iff_not]
      exact fun e => hlen (by rw [e])
    clear hlen
    go_enter Try.func20, Try.ntmps20
    go_wp2
    go_ret
    exact ⟨ret_bool HNE.out.symm, Below.refl _ _⟩
end Go.Proofs.Ytkcppidmbojglaf
