/- Which beginnings there are, and what is left of the wants, as the document tells it. -/
import Derived.Test.YtkcppidmbojglagMth
import Derived.Test.YtkcppidmbojglagRtC
import Derived.Test.YtkcppidmbojglagPlJ
import Derived.Test.YtkcppidmbojglagPlOa
namespace Go.Proofs.Ytkcppidmbojglag
open Go.RowKit

/-- which wants stand in a beginning; none: it is no beginning -/
def bgn (s : Sn) (car : Int) (p : List (List Int)) : Option (List Bool) :=
  if (rgt s && decide (p.length = s.cs.length) && decide (0 ≤ car) && decide (car < (p.length : Int)) && (p.drop (car.toNat + 1)).all List.isEmpty) = true then PM.runs (msk s) 0 (List.replicate (msk s).length false) p else none
theorem bgn_not {s : Sn} {car : Int} {p : List (List Int)} (h : ¬ (rgt s = true ∧ p.length = s.cs.length ∧ 0 ≤ car ∧ car < (p.length : Int))) : bgn s car p = none := by
  unfold bgn
  rw [if_neg]
  simp only [Bool.and_eq_true, decide_eq_true_eq]
  exact fun g => h ⟨g.1.1.1.1, g.1.1.1.2, g.1.1.2, g.1.2⟩
/-- a list behind the car that isn't empty -/
theorem bgn_behind {s : Sn} {k c : Nat} {p : List (List Int)} {l : List Int} (hl : p[c]? = some l) (hc : k < c) (hn : l ≠ []) : bgn s (k : Int) p = none := by
  unfold bgn
  rw [if_neg]
  simp only [Bool.and_eq_true, List.all_eq_true]
  intro g
  have := g.2 l (List.mem_of_getElem? (i := c - (k + 1)) (by rw [Int.toNat_natCast, List.getElem?_drop, show k + 1 + (c - (k + 1)) = c by omega]; exact hl))
  exact hn (by simpa using this)
theorem bgn_runs {s : Sn} {k : Nat} {p : List (List Int)} (h1 : rgt s = true) (h2 : p.length = s.cs.length) (h3 : k < p.length) (h4 : ∀ (c : Nat) l, p[c]? = some l → k < c → l = []) : bgn s (k : Int) p = PM.runs (msk s) 0 (List.replicate (msk s).length false) p := by
  unfold bgn
  rw [if_pos]
  simp only [Bool.and_eq_true, decide_eq_true_eq, List.all_eq_true]
  refine ⟨⟨⟨⟨h1, h2⟩, by omega⟩, by omega⟩, fun l hl => ?_⟩
  obtain ⟨i, hi⟩ := List.getElem?_of_mem hl
  rw [Int.toNat_natCast, List.getElem?_drop] at hi
  rw [h4 _ l hi (by omega)]; rfl
theorem bgn_none {s : Sn} {k : Nat} {p : List (List Int)} (h : PM.runs (msk s) 0 (List.replicate (msk s).length false) p = none) : bgn s (k : Int) p = none := by
  unfold bgn
  rw [h]
  split <;> rfl
/-- the wants that are left, of the first k -/
def lfk (st : List Bool) (k : Nat) : List Int := ((List.range k).filter fun w => st[w]? == some false).map fun (w : Nat) => (w : Int)
theorem lfk_succ (st : List Bool) (k : Nat) : lfk st (k + 1) = lfk st k ++ if st[k]? = some false then [(k : Int)] else [] := by
  unfold lfk
  rw [List.range_succ, List.filter_append, List.map_append]
  congr 1
  by_cases h : st[k]? = some false
  · simp [h]
  · simp [h]
theorem lfk_length (st : List Bool) : ∀ (k : Nat), (lfk st k).length ≤ k
  | 0 => Nat.le_refl _
  | k + 1 => by
    rw [lfk_succ, List.length_append]
    have := lfk_length st k
    split <;> simp <;> omega
/-- how often each stands -/
def ctb (st : List Bool) : List Nat := st.map fun b => if b then 1 else 0
theorem ctb_length (st : List Bool) : (ctb st).length = st.length := by unfold ctb; rw [List.length_map]
theorem ctb_get {st : List Bool} {i : Nat} {b : Bool} (h : st[i]? = some b) : (ctb st)[i]? = some (if b then 1 else 0) := by unfold ctb; rw [List.getElem?_map, h]; rfl
theorem ctb_set {st : List Bool} (i : Nat) : (ctb st).set i 1 = ctb (st.set i true) := by unfold ctb; rw [List.map_set]; rfl
theorem ctb_rep (n : Nat) : ctb (List.replicate n false) = List.replicate n 0 := by unfold ctb; rw [List.map_replicate]; rfl

/-- the document's answer -/
structure LP (s : Sn) (car : Int) (p : List (List Int)) (w : World) (e : Ending) (w' : World) : Prop where
  bel : Below w.heap.size w w'
  out : (∃ st v, bgn s car p = some st ∧ e = .returned (.tuple #[v, .bool true]) ∧ OI w' w.heap.size v (lfk st s.ws.length)) ∨ (bgn s car p = none ∧ e = .returned (.tuple #[.slice none 0 0, .bool false]))

set_option maxRecDepth 100000 in
set_option maxHeartbeats 8000000 in
theorem rleft_any (s : Sn) (D : Nat → Prop) (vc vw vp : Value) (car : Int) (p : List (List Int)) (w : World) (hc : R2 D w vc s.cs) (hw : R2 D w vw s.ws) (hp : RL D w vp p) (hpl : p.length ≤ 1000) (hll : ∀ l ∈ p, l.length ≤ 1000) :
    Calls Try.prog 11 #[.agg (nv s.st vc vw).toArray, .int .i64 car, vp] w fun e w' => LP s car p w e w' := by
  have HP : Hid (RL (fun g => g < w.heap.size) w vp p) := hp.mono fun g _ h _ => h
  have HW : Hid (R2 (fun g => g < w.heap.size) w vw s.ws) := hw.mono fun g _ h _ => h
  have hbx := (Below.refl w.heap.size w).alloc (Nat.le_refl _) (.cells (nv s.st vc vw).toArray 27)
  have HR := Hid.intro' (rsnapRight_any s D vc vw _ (hc.below' hbx) (hw.below' hbx))
  have HN := Hid.intro' (NB.new w s.st vc vw)
  have HB := Hid.intro' hbx
  obtain ⟨ac, kc, rfl, _, _⟩ := hc.form
  obtain ⟨aw, kw, rfl, _, _⟩ := hw.form
  obtain ⟨ap, kp, rfl, _, _⟩ := hp.form
  have HLL := Hid.intro' hll
  clear hc hw hp hbx hll
  go_enter Try.func11, Try.ntmps11
  go_wp2_with (refine wpList_load27g rfl _ rfl w.heap.size s.st _ _ rfl HN.out ?_)
  refine HR.out.mono ?_
  rintro e W1 ⟨rfl, hb1⟩
  have HN1 := Hid.intro' (HN.out.below' hb1)
  have HB1 := Hid.intro' (below_class HB.out hb1)
  have HZ1 := Hid.intro' (show w.heap.size < W1.heap.size by have := hb1.size; simp at this; omega)
  clear hb1 HR HN HB
  have HNO : Hid (¬ (rgt s = true ∧ p.length = s.cs.length ∧ 0 ≤ car ∧ car < (p.length : Int)) → ∀ w', Below w.heap.size w w' → LP s car p w (.returned (.tuple #[.slice none 0 0, .bool false])) w') := fun h w' hb => ⟨hb, .inr ⟨bgn_not h, rfl⟩⟩
  have c13 : W1.cell? ⟨w.heap.size, 13, none⟩ = some (.slice ac s.cs.length kc) := HN1.out.cell 13
  have c14 : W1.cell? ⟨w.heap.size, 14, none⟩ = some (.slice aw s.ws.length kw) := HN1.out.cell 14
  cases hr : rgt s with
  | false =>
    have HNO2 := Hid.intro' (HNO.out (fun h => by rw [hr] at h; cases h.1) W1 HB1.out)
    clear hr HNO
    go_wp2
    go_ret2
    exact HNO2.out
  | true =>
    obtain ⟨n, hrs⟩ := rgt_rs hr
    have HRS := Hid.intro' hrs
    have HRR := Hid.intro' hr
    have hcl : s.cs.length = n := hrs.cl
    have hn8 : n ≤ 8 := hrs.n8
    have hwl : s.ws.length ≤ 128 := hrs.wl
    clear hrs hr
    rw [hcl] at c13
    have HCL := Hid.intro' hcl
    clear hcl
    by_cases hpn : p.length = n
    · have q1 : ((p.length : Int) != (n : Int)) = false := by simp; omega
      have HPN := Hid.intro' hpn
      by_cases hc0 : car < 0
      · have HNO2 := Hid.intro' (HNO.out (fun h => by omega) W1 HB1.out)
        clear HNO hpn
        go_wp2
        go_ret2
        exact HNO2.out
      · by_cases hc1 : (p.length : Int) ≤ car
        · have HNO2 := Hid.intro' (HNO.out (fun h => by omega) W1 HB1.out)
          have q2 : decide (car < 0) = false := decide_eq_false hc0
          clear HNO hpn hc0
          go_wp2
          go_ret2
          exact HNO2.out
        · obtain ⟨kar, rfl⟩ : ∃ k : Nat, car = (k : Int) := ⟨car.toNat, by omega⟩
          have q2 : decide ((kar : Int) < 0) = false := decide_eq_false hc0
          have q3 : decide (p.length ≤ kar) = false := decide_eq_false (by omega)
          have HKL := Hid.intro' (show kar < p.length by omega)
          have hmk := mkI s.ws.length (by omega)
          clear hpn hc0 hc1 HNO
          go_wp2_with fail
          have HF2 : Hid (Gq w (W1.alloc (.cells (List.replicate s.ws.length (Value.int .i64 0)).toArray 3)) W1.heap.size s (fun g => g < w.heap.size) (.slice ac s.cs.length kc) (.slice aw s.ws.length kw) (.slice ap p.length kp) p (ctb (List.replicate s.ws.length false))) := by
            have hb2 := (Below.refl W1.heap.size W1).alloc (Nat.le_refl _) (.cells (List.replicate s.ws.length (Value.int .i64 0)).toArray 3)
            refine ⟨HN1.out.below' hb2, HZ1.out, by rw [ctb_rep, nc_rep]; exact World.alloc_heap_new W1 _, HP.out.below' (below_class HB1.out hb2), HW.out.below' (below_class HB1.out hb2), fun _ h => h, below_class HB1.out hb2, by rw [ctb_length]; simp⟩
          rw [List.toArray_replicate] at HF2
          clear c13 c14 q1 q2 q3 hmk HN1 HZ1
          generalize (W1.alloc (.cells (Array.replicate s.ws.length (Value.int .i64 0)) 3)) = W2 at HF2 ⊢
          generalize W1.heap.size = cb at HF2 ⊢
          obtain ⟨R, HR⟩ : ∃ R, Hid (PM.runs (msk s) 0 (List.replicate (msk s).length false) p = R) := ⟨_, Hid.intro' rfl⟩
          have HFN : Hid (R = none → bgn s (kar : Int) p = none) := fun e => by
            show _ = none
            exact bgn_none (by rw [HR.out]; exact e)
          have HML : Hid ((msk s).length = s.ws.length) := HRS.out.mm.len
          go_loopw [9] (fun i wr => ∃ (k : Nat) (st : List Bool), k ≤ p.length ∧ i = .int .i64 (k : Int) ∧ Hid (Gq w wr cb s (fun g => g < w.heap.size) (.slice ac s.cs.length kc) (.slice aw s.ws.length kw) (.slice ap p.length kp) p (ctb st)) ∧
            Hid (R = PM.runs (msk s) k st (p.drop k)) ∧ Hid (∀ (c : Nat) l, p[c]? = some l → kar < c → c < k → l = [])) (fun i _ => p.length - (intOf i).toNat)
          case atStart =>
            refine ⟨0, _, Nat.zero_le _, rfl, HF2, ?_, fun c l _ _ h => by omega⟩
            show R = _
            rw [← HR.out, HML.out, List.drop_zero]
          case round =>
            obtain ⟨k, st, hk, rfl, HF, HI, HE⟩ := hrel
            clear HF2
            by_cases hlt : k < p.length
            · have hkz : (k : Int) < (p.length : Int) := by omega
              obtain ⟨l, hl⟩ : ∃ l, p[k]? = some l := ⟨_, List.getElem?_eq_getElem hlt⟩
              obtain ⟨gp, op, rfl, u, hcu0, hru⟩ := HF.out.rp.at hl
              obtain ⟨au, ku, rfl, _, _⟩ := hru.form
              have HL := Hid.intro' hl
              have hln : l.length ≤ 1000 := HLL.out l (List.mem_of_getElem? hl)
              have HRU3 := Hid.intro' (hru.base HF.out.bel)
              have HCU : Hid (∀ W, Below w.heap.size w W → W.cell? ⟨gp, op + k, none⟩ = some (.slice au l.length ku)) := by
                have hgp : gp < w.heap.size := by
                  obtain ⟨_, _, e, _, _, h⟩ := HF.out.rp
                  cases e
                  rcases h with h | ⟨g', o', e, hd, _⟩
                  · rw [h] at hlt; simp at hlt
                  · cases e; exact hd
                intro W hb
                have h1 := (HF.out.bel.cell (p := ⟨gp, op + k, none⟩) hgp).symm.trans hcu0
                exact (hb.cell (p := ⟨gp, op + k, none⟩) hgp).trans h1
              clear hl hru
              by_cases hkk : kar < k
              · have q7 : decide (kar < k) = true := decide_eq_true hkk
                have hkkz : (kar : Int) < (k : Int) := by omega
                by_cases hle : l = []
                · have HE2 : Hid (∀ (c : Nat) l, p[c]? = some l → kar < c → c < k + 1 → l = []) := fun c m hm h1 h2 => by
                    by_cases e : c = k
                    · subst e; rw [HL.out] at hm; cases hm; exact hle
                    · exact HE.out c m hm h1 (by omega)
                  have q8 : l.length = 0 := by rw [hle]; rfl
                  have q9 : ¬ 0 < l.length := by omega
                  clear hle HE
                  go_wp2_with fail
                  clear hcu0
                  have HK2 : Hid (Lf R (msk s) k st l (p.drop (k + 1))) := by
                    show R = _
                    rw [HI.out, drop_cons HL.out, PM.runs]
                  have hkn : k < n := by have := HPN.out; omega
                  clear HI
                  have HF3 := HF
                  clear HF
                  generalize wr = W3 at HF3 ⊢
                  go_loopw [10] (fun i wr => ∃ (j : Nat) (st : List Bool), j ≤ l.length ∧ i = .int .i64 (j : Int) ∧ Hid (Gq w wr cb s (fun g => g < w.heap.size) (.slice ac s.cs.length kc) (.slice aw s.ws.length kw) (.slice (some ⟨gp, op, none⟩) p.length kp) p (ctb st)) ∧
                    Hid (Lf R (msk s) k st (l.drop j) (p.drop (k + 1)))) (fun i _ => l.length - (intOf i).toNat)
                  case atStart => exact ⟨0, st, Nat.zero_le _, rfl, HF3, HK2⟩
                  case round =>
                    clear HF3 HK2
                    obtain ⟨j, st, hj, rfl, HF, HK⟩ := hrel
                    have hcu := HCU.out wr HF.out.bel
                    by_cases hjl : j < l.length
                    · omega
                    · have hjz : ¬ (j : Int) < (l.length : Int) := by omega
                      have HK2 : Hid (R = PM.runs (msk s) (k + 1) st (p.drop (k + 1))) := by
                        show R = _
                        have h := HK.out
                        unfold Lf at h
                        rw [h, List.drop_of_length_le (by omega), PM.run1]; rfl
                      go_wp2
                      go_roundw
                      case rel => exact ⟨k + 1, st, by omega, by go_num, HF, HK2, HE2⟩
                      case measure => simp [intOf]; omega
                · have HNO := Hid.intro' (bgn_behind (s := s) HL.out hkk hle)
                  have q8 : 0 < l.length := List.length_pos_iff.2 hle
                  have q9 : (0 : Int) < (l.length : Int) := by omega
                  clear hle
                  go_wp2
                  go_ret2
                  exact ⟨HF.out.bel, .inr ⟨HNO.out, rfl⟩⟩
              · have q7 : decide (kar < k) = false := decide_eq_false hkk
                have hkkz : ¬ (kar : Int) < (k : Int) := by omega
                have HE2 : Hid (∀ (c : Nat) l, p[c]? = some l → kar < c → c < k + 1 → l = []) := fun c m hm h1 h2 => by
                  by_cases e : c = k
                  · omega
                  · exact HE.out c m hm h1 (by omega)
                clear HE
                go_wp2_with fail
                clear hcu0
                have HK2 : Hid (Lf R (msk s) k st l (p.drop (k + 1))) := by
                  show R = _
                  rw [HI.out, drop_cons HL.out, PM.runs]
                have hkn : k < n := by have := HPN.out; omega
                clear HI
                have HF3 := HF
                clear HF
                generalize wr = W3 at HF3 ⊢
                go_loopw [10] (fun i wr => ∃ (j : Nat) (st : List Bool), j ≤ l.length ∧ i = .int .i64 (j : Int) ∧ Hid (Gq w wr cb s (fun g => g < w.heap.size) (.slice ac s.cs.length kc) (.slice aw s.ws.length kw) (.slice (some ⟨gp, op, none⟩) p.length kp) p (ctb st)) ∧
                  Hid (Lf R (msk s) k st (l.drop j) (p.drop (k + 1)))) (fun i _ => l.length - (intOf i).toNat)
                case atStart => exact ⟨0, st, Nat.zero_le _, rfl, HF3, HK2⟩
                case round =>
                  clear HF3 HK2
                  obtain ⟨j, st, hj, rfl, HF, HK⟩ := hrel
                  have hcu := HCU.out wr HF.out.bel
                  by_cases hjl : j < l.length
                  · have hjz : (j : Int) < (l.length : Int) := by omega
                    obtain ⟨x, hx⟩ : ∃ x, l[j]? = some x := ⟨_, List.getElem?_eq_getElem hjl⟩
                    obtain ⟨gu, ou, rfl, hcx⟩ := (HRU3.out.below' HF.out.bel).at hx
                    have HDC := Hid.intro' (drop_cons hx)
                    have HK1 : Hid (Lf R (msk s) k st (x :: l.drop (j + 1)) (p.drop (k + 1))) := by
                      have h := HK.out
                      rw [HDC.out] at h
                      exact h
                    have HCT := Hid.intro' HF.out.cl
                    clear HK hx
                    by_cases hx0 : x < 0
                    · have HNO := Hid.intro' (HFN.out (HK1.out.no fun h => by have := (PM.okx_iff.1 h.1).1; omega))
                      go_wp2
                      go_ret2
                      exact ⟨HF.out.bel, .inr ⟨HNO.out, rfl⟩⟩
                    · by_cases hx1 : (s.ws.length : Int) ≤ x
                      · have HNO := Hid.intro' (HFN.out (HK1.out.no fun h => by have := (PM.okx_iff.1 h.1).2.1; have := HML.out; omega))
                        have q1 : decide (x < 0) = false := decide_eq_false hx0
                        clear hx0
                        go_wp2
                        go_ret2
                        exact ⟨HF.out.bel, .inr ⟨HNO.out, rfl⟩⟩
                      · obtain ⟨i, rfl⟩ : ∃ i : Nat, x = (i : Int) := ⟨x.toNat, by omega⟩
                        have hiw : i < s.ws.length := by omega
                        have q1 : decide ((i : Int) < 0) = false := decide_eq_false hx0
                        have q2 : decide ((s.ws.length : Int) ≤ (i : Int)) = false := decide_eq_false hx1
                        have q3 : (i : Int) < (s.ws.length : Int) := by omega
                        obtain ⟨y, hy⟩ : ∃ y, s.ws[i]? = some y := ⟨_, List.getElem?_eq_getElem hiw⟩
                        obtain ⟨z, hz⟩ : ∃ z, st[i]? = some z := ⟨_, List.getElem?_eq_getElem (by have := HCT.out; rw [ctb_length] at this; omega)⟩
                        obtain ⟨m, hm, hym⟩ := HRS.out.mm.eq i y hy
                        have d0 : wr.cell? ⟨cb, i, none⟩ = some (.int .i64 (((if z then 1 else 0 : Nat)) : Int)) := (blk_cell HF.out.hc i).trans (nc_some (ctb_get hz))
                        have hm8 : m ≤ 100000 := by
                          have h1 := HRS.out.lt m (List.mem_of_getElem? hm)
                          have h2 : 2 ^ n ≤ 2 ^ 8 := Nat.pow_le_pow_right (by omega) hn8
                          omega
                        have HMT := Hid.intro' (may_any s _ (.slice ac s.cs.length kc) _ wr HF.out.rw i k m y hy hym hm8 (by omega))
                        have HZ := Hid.intro' hz
                        have HMM := Hid.intro' hm
                        have HNBF := Hid.intro' HF.out.nb
                        clear hx0 hx1 hy hz hm hym
                        cases z with
                        | true =>
                          have d1 : wr.cell? ⟨cb, i, none⟩ = some (.int .i64 1) := d0
                          have HNO := Hid.intro' (HFN.out (HK1.out.no fun h => by have h2 := h.2; rw [Int.toNat_natCast, HZ.out] at h2; cases h2))
                          clear d0
                          go_wp2
                          go_ret2
                          exact ⟨HF.out.bel, .inr ⟨HNO.out, rfl⟩⟩
                        | false =>
                          have d1 : wr.cell? ⟨cb, i, none⟩ = some (.int .i64 0) := d0
                          clear d0
                          go_wp2_with (refine wpList_load27g ?hg _ rfl w.heap.size s.st _ _ rfl HNBF.out ?_; (case hg => go_simp))
                          refine HMT.out.mono ?_
                          rintro e W5 ⟨rfl, hb5⟩
                          have HF5 := Hid.intro' (HF.out.next hb5)
                          clear hb5 HF HMT HNBF hcx hcu d1
                          cases hq : PM.bt m k with
                          | false =>
                            have HNO := Hid.intro' (HFN.out (HK1.out.no fun h => by have h2 := (PM.okx_iff.1 h.1).2.2; rw [Int.toNat_natCast, HMM.out, Option.getD_some, hq] at h2; cases h2))
                            clear hq
                            go_wp2
                            go_ret2
                            exact ⟨HF5.out.bel, .inr ⟨HNO.out, rfl⟩⟩
                          | true =>
                            have HK3 := Hid.intro' (HK1.out.yes ⟨PM.okx_iff.2 ⟨by omega, by have := HML.out; omega, by rw [Int.toNat_natCast, HMM.out, Option.getD_some]; exact hq⟩, by rw [Int.toNat_natCast]; exact HZ.out⟩)
                            rw [Int.toNat_natCast] at HK3
                            have d0 : W5.cell? ⟨cb, i, none⟩ = some (.int .i64 0) := (blk_cell HF5.out.hc i).trans (nc_some (ctb_get HZ.out))
                            have d1 : W5.frozen? ⟨cb, i, none⟩ = false := blk_fr HF5.out.hc i
                            have HF6 := Hid.intro' (HF5.out.put i 1)
                            rw [ctb_set] at HF6
                            change Hid (Gq w (W5.setCell ⟨cb, i, none⟩ (.int .i64 1)) cb s _ _ _ _ p _) at HF6
                            clear HF5 HK1 hq
                            go_wp2
                            go_roundw
                            case rel => exact ⟨j + 1, st.set i true, by omega, by go_num, HF6, HK3⟩
                            case measure => simp [intOf]; omega
                  · have hjz : ¬ (j : Int) < (l.length : Int) := by omega
                    have HK2 : Hid (R = PM.runs (msk s) (k + 1) st (p.drop (k + 1))) := by
                      show R = _
                      have h := HK.out
                      unfold Lf at h
                      rw [h, List.drop_of_length_le (by omega), PM.run1]; rfl
                    go_wp2
                    go_roundw
                    case rel => exact ⟨k + 1, st, by omega, by go_num, HF, HK2, HE2⟩
                    case measure => simp [intOf]; omega
            · have hkz : ¬ (k : Int) < (p.length : Int) := by omega
              have HS : Hid (bgn s (kar : Int) p = some st) := by
                show _ = _
                rw [bgn_runs HRR.out (by have := HPN.out; have := HCL.out; omega) HKL.out (fun c l hl h1 => HE.out c l hl h1 (by have := (List.getElem?_eq_some_iff.1 hl).1; omega)), HR.out, HI.out, List.drop_of_length_le (by omega), PM.runs]
              go_wp2_with fail
              have HCT : Hid (st.length = s.ws.length) := by
                have := HF.out.cl
                rwa [ctb_length] at this
              have hbA := (Below.refl wr.heap.size wr).alloc (Nat.le_refl _) (.cells #[] 3)
              have HO0 : Hid (OI (wr.alloc (.cells #[] 3)) wr.heap.size (.slice (some ⟨wr.heap.size, 0, none⟩) 0 0) []) := OI.lit (B := wr.heap.size) wr [] (Nat.le_refl _) (Nat.zero_le _)
              have HF3 := Hid.intro' (HF.out.next hbA)
              have HGW := HF
              have HFC := Hid.intro' HF.out.hc
              have HBX := Hid.intro' hbA
              have HWW := Hid.intro' HF.out.bel
              clear hbA HI HE
              rename World => Wr
              generalize hX : Wr.alloc (.cells #[] 3) = X at HO0 HF3 HBX ⊢
              clear hX
              go_loopw [12, 13] (fun ov iv wr => ∃ (j : Nat) (g c : Nat), j ≤ s.ws.length ∧ iv = .int .i64 (j : Int) ∧ ov = .slice (some ⟨g, 0, none⟩) (lfk st j).length c ∧ Hid (OI wr Wr.heap.size (.slice (some ⟨g, 0, none⟩) (lfk st j).length c) (lfk st j)) ∧ Hid (Gq w wr cb s (fun g => g < w.heap.size) (.slice ac s.cs.length kc) (.slice aw s.ws.length kw) (.slice ap p.length kp) p (ctb st)) ∧ Hid (Below Wr.heap.size Wr wr)) (fun _ iv _ => s.ws.length - (intOf iv).toNat)
              case atStart => exact ⟨0, _, 0, Nat.zero_le _, rfl, rfl, HO0, HF3, HBX⟩
              case round =>
                obtain ⟨j, g, c, hj, rfl, rfl, HO, HG, HBJ⟩ := hrel
                clear HO0 HF3 HBX HF
                by_cases hjl : j < s.ws.length
                · have hjz : (j : Int) < (s.ws.length : Int) := by omega
                  obtain ⟨z, hz⟩ : ∃ z, st[j]? = some z := ⟨_, List.getElem?_eq_getElem (by rw [HCT.out]; exact hjl)⟩
                  have d0 : wr.cell? ⟨cb, j, none⟩ = some (.int .i64 (((if z then 1 else 0 : Nat)) : Int)) := (blk_cell HG.out.hc j).trans (nc_some (ctb_get hz))
                  have HSU := Hid.intro' (lfk_succ st j)
                  rw [hz] at HSU
                  have HLEN := Hid.intro' (lfk_length st j)
                  have HZJ := Hid.intro' HBJ.out.size
                  cases z with
                  | true =>
                    have d1 : wr.cell? ⟨cb, j, none⟩ = some (.int .i64 1) := d0
                    have HSV : Hid (lfk st (j + 1) = lfk st j) := by
                      show _ = _
                      rw [HSU.out, if_neg (by simp), List.append_nil]
                    clear d0 hz
                    go_wp2
                    go_roundw
                    case rel => exact ⟨j + 1, g, c, by omega, by go_num, by rw [HSV.out], by rw [HSV.out]; exact HO, HG, HBJ⟩
                    case measure => simp [intOf]; omega
                  | false =>
                    have d1 : wr.cell? ⟨cb, j, none⟩ = some (.int .i64 0) := d0
                    have HSV : Hid (lfk st (j + 1) = lfk st j ++ [(j : Int)]) := by
                      show _ = _
                      rw [HSU.out, if_pos rfl]
                    have HOA := Hid.intro' (HO.out.alloc (.cells #[.int .i64 (j : Int)] 3))
                    have HCX : Hid ((wr.alloc (.cells #[.int .i64 (j : Int)] 3)).cell? ⟨wr.heap.size, 0, none⟩ = some (.int .i64 (j : Int))) := by
                      show _ = _
                      rw [cell_of_row _ _ 0 _ _ _ (heap_alloc_new wr _)]; rfl
                    have HCB := Hid.intro' (show cb < Wr.heap.size from (Array.getElem?_eq_some_iff.1 HFC.out).1)
                    clear d0 hz
                    go_wp2_with (at_builtin; refine wpList_appI rfl _ _ rfl Wr.heap.size _ (lfk st j) rfl HOA.out wr.heap.size 1 (j : Int) rfl HCX.out ?qa3 ?qa4 ?_)
                    case qa3 => have := HLEN.out; omega
                    case qa4 => have := HZJ.out; simp; omega
                    intro g' c' W7 ho7 hg7 hat7 hlt7
                    have HO7 : Hid (OI W7 Wr.heap.size (.slice (some ⟨g', 0, none⟩) (lfk st (j + 1)).length c') (lfk st (j + 1))) := by
                      show OI _ _ _ _
                      rw [HSV.out, List.length_append]; exact ho7
                    have hLL : (lfk st j).length + 1 = (lfk st (j + 1)).length := by rw [HSV.out, List.length_append]; rfl
                    rw [hLL]
                    have hbA := (Below.refl wr.heap.size wr).alloc (Nat.le_refl _) (.cells #[.int .i64 (j : Int)] 3)
                    have HB7 := Hid.intro' ((HBJ.out.alloc HZJ.out (.cells #[.int .i64 (j : Int)] 3)).grown hg7 (by have := HZJ.out; simp; omega) (fun q hq => (HO.out.lt q hq).1))
                    have HG7 := Hid.intro' (HGW.out.next HB7.out)
                    clear ho7 hg7 hat7 hlt7 hbA HOA HCX d1 hLL
                    go_wp2
                    go_roundw
                    case rel => exact ⟨j + 1, g', c', by omega, by go_num, rfl, HO7, HG7, HB7⟩
                    case measure => simp [intOf]; omega
                · have hjz : ¬ (j : Int) < (s.ws.length : Int) := by omega
                  have HE2 : Hid (OI wr w.heap.size (.slice (some ⟨g, 0, none⟩) (lfk st j).length c) (lfk st s.ws.length)) := by
                    show OI _ _ _ _
                    have h1 := HO.out
                    rw [show j = s.ws.length by omega] at h1 ⊢
                    exact h1.mono HWW.out.size
                  have HBE := Hid.intro' (below_class HWW.out HBJ.out)
                  go_wp2
                  go_ret2
                  exact ⟨HBE.out, .inl ⟨st, _, HS.out, rfl, HE2.out⟩⟩
    · have q1 : ((p.length : Int) != (n : Int)) = true := by simp; omega
      have HNO2 := Hid.intro' (HNO.out (fun h => by have := HCL.out; omega) W1 HB1.out)
      clear hpn HNO
      go_wp2
      go_ret2
      exact HNO2.out

end Go.Proofs.Ytkcppidmbojglag
