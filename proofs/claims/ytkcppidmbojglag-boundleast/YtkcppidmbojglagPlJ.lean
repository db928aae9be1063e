/- Whether a plan may be, as the document tells it. -/
import Derived.Test.YtkcppidmbojglagDrf
import Derived.Test.YtkcppidmbojglagPlR
namespace Go.Proofs.Ytkcppidmbojglag
open Go.RowKit

set_option maxHeartbeats 2000000 in
theorem may_any (s : Sn) (D : Nat → Prop) (vc vw : Value) (w : World) (hw : R2 D w vw s.ws) (i c m : Nat) (y : Int × Int) (hy : s.ws[i]? = some y) (hm : y.2 = (m : Int)) (hm2 : m ≤ 100000) (hc : c ≤ 20) :
    Calls Try.prog 24 #[.agg (nv s.st vc vw).toArray, .int .i64 (i : Int), .int .i64 (c : Int)] w fun e w' => e = .returned (.bool (PM.bt m c)) ∧ Below w.heap.size w w' := by
  have hbx := (Below.refl w.heap.size w).alloc (Nat.le_refl _) (.cells (nv s.st vc vw).toArray 27)
  have HN := Hid.intro' (NB.new w s.st vc vw)
  have HB := Hid.intro' hbx
  obtain ⟨aw, kw, rfl, _, _⟩ := hw.form
  obtain ⟨gw, ow, rfl, _, e1⟩ := (hw.below' hbx).at hy
  rw [hm] at e1
  have c14 : (w.alloc (.cells (nv s.st vc (.slice (some ⟨gw, ow, none⟩) s.ws.length kw)).toArray 27)).cell? ⟨w.heap.size, 14, none⟩ = some (.slice (some ⟨gw, ow, none⟩) s.ws.length kw) := HN.out.cell 14
  have hi : (i : Int) < (s.ws.length : Int) := by have := (List.getElem?_eq_some_iff.1 hy).1; omega
  have hcz : (c : Int) ≤ 20 := by omega
  clear hw hbx hy hm
  go_enter Try.func24, Try.ntmps24
  go_wp2_with fail
  clear c14 e1
  go_loop [7, 8] (fun a i => ∃ k q : Nat, k ≤ c ∧ a = .int .i64 (q : Int) ∧ i = .int .i64 (k : Int) ∧ q ≤ 100000 ∧ Hid (q = m / 2 ^ k)) (fun _ i => c - (intOf i).toNat)
  case atStart => exact ⟨0, m, Nat.zero_le _, rfl, rfl, hm2, by show m = m / 2 ^ 0; simp⟩
  case round =>
    obtain ⟨k, q, hk, rfl, rfl, hq, HQ⟩ := hrel
    by_cases hlt : k < c
    · have hkz : (k : Int) < (c : Int) := by omega
      have hqz : (q : Int) ≤ 100000 := by omega
      go_wp2
      go_round
      case rel =>
        refine ⟨k + 1, q / 2, by omega, by go_num, by go_num, by omega, ?_⟩
        show q / 2 = m / 2 ^ (k + 1)
        rw [HQ.out, Nat.div_div_eq_div_mul, Nat.pow_succ]
      case measure => simp [intOf]; omega
    · have hkz : ¬ (k : Int) < (c : Int) := by omega
      have hqz : (q : Int) ≤ 100000 := by omega
      have HE : Hid (PM.bt m c = (q % 2 == 1)) := by
        show _ = _
        unfold PM.bt; rw [HQ.out, show k = c by omega]
      clear HQ
      go_wp2
      go_ret
      refine ⟨ret_bool ?_, HB.out⟩
      rw [HE.out, Bool.eq_iff_iff]
      simp
      omega

/-- the cells of counts -/
def nc (ct : List Nat) : List Value := ct.map fun (n : Nat) => Value.int .i64 (n : Int)
theorem nc_some {ct : List Nat} {i x : Nat} (h : ct[i]? = some x) : (nc ct)[i]? = some (.int .i64 (x : Int)) := by unfold nc; rw [List.getElem?_map, h]; rfl
theorem nc_set (ct : List Nat) (i x : Nat) : (nc ct).set i (.int .i64 (x : Int)) = nc (ct.set i x) := by unfold nc; rw [List.map_set]
theorem nc_rep (n : Nat) : nc (List.replicate n 0) = List.replicate n (Value.int .i64 0) := by unfold nc; rw [List.map_replicate]; rfl
/-- what holds while the document looks at a plan -/
structure Gq (w W : World) (cb : Nat) (s : Sn) (D : Nat → Prop) (vc vw vp : Value) (p : List (List Int)) (ct : List Nat) : Prop where
  nb : NB W w.heap.size s.st vc vw
  lo : w.heap.size < cb
  hc : W.heap[cb]? = some (.cells (nc ct).toArray 3 (0, 0))
  rp : RL D W vp p
  rw : R2 D W vw s.ws
  dl : ∀ g, D g → g < w.heap.size
  bel : Below w.heap.size w W
  cl : ct.length = s.ws.length
section
variable {w W W' : World} {cb : Nat} {s : Sn} {D : Nat → Prop} {vc vw vp : Value} {p : List (List Int)} {ct : List Nat}
theorem Gq.next (h : Gq w W cb s D vc vw vp p ct) (hb : Below W.heap.size W W') : Gq w W' cb s D vc vw vp p ct :=
  ⟨h.nb.below' hb, h.lo, (hb.block cb (Array.getElem?_eq_some_iff.1 h.hc).1).trans h.hc, h.rp.below' hb, h.rw.below' hb, h.dl, below_class h.bel hb, h.cl⟩
theorem Gq.put (h : Gq w W cb s D vc vw vp p ct) (i x : Nat) : Gq w (W.setCell ⟨cb, i, none⟩ (.int .i64 (x : Int))) cb s D vc vw vp p (ct.set i x) := by
  have keep : ∀ k, k ≠ cb → (W.setCell ⟨cb, i, none⟩ (.int .i64 (x : Int))).heap[k]? = W.heap[k]? := fun k hk => Below.heap_setCell W ⟨cb, i, none⟩ _ k hk
  have hl := h.lo
  refine ⟨(keep _ (by omega)).trans h.nb, h.lo, by rw [← nc_set]; exact blk_set h.hc i _, h.rp.keep (by simp [World.setCell]) fun g hg _ => keep g (by have := h.dl g hg; omega), h.rw.keep (by simp [World.setCell]) fun g hg _ => keep g (by have := h.dl g hg; omega), h.dl, h.bel.setCell (p := ⟨cb, i, none⟩) (Nat.le_of_lt h.lo) _, by rw [List.length_set]; exact h.cl⟩
end
/-- what is left of the look: R is the whole's outcome -/
def Cf (R : Option (List Nat)) (ms : List Nat) (k : Nat) (ct : List Nat) (l : List Int) (p : List (List Int)) : Prop := R = (PM.cnt1 ms k ct l).bind fun ct' => PM.cnts ms (k + 1) ct' p
theorem Cf.no {R : Option (List Nat)} {ms : List Nat} {k : Nat} {ct : List Nat} {x : Int} {l : List Int} {p : List (List Int)} (h : Cf R ms k ct (x :: l) p) (hx : PM.okx ms k x = false) : R = none := by
  unfold Cf at h
  rw [h, PM.cnt1, if_neg (by rw [hx]; simp)]; rfl
theorem Cf.yes {R : Option (List Nat)} {ms : List Nat} {k : Nat} {ct : List Nat} {x : Int} {l : List Int} {p : List (List Int)} (h : Cf R ms k ct (x :: l) p) (hx : PM.okx ms k x = true) : Cf R ms k (ct.set x.toNat (ct[x.toNat]?.getD 0 + 1)) l p := by
  unfold Cf at h ⊢
  rw [h, PM.cnt1, if_pos hx]
theorem rfeas_none {ms : List Nat} {p : List (List Int)} (h : PM.cnts ms 0 (List.replicate ms.length 0) p = none) : PM.feas ms p = false := by rw [PM.feas_rfeas]; unfold PM.rfeas; rw [h]; rfl
theorem rfeas_some {ms : List Nat} {p : List (List Int)} {ct : List Nat} (h : PM.cnts ms 0 (List.replicate ms.length 0) p = some ct) : PM.feas ms p = ct.all (· == 1) := by rw [PM.feas_rfeas]; unfold PM.rfeas; rw [h]; rfl

set_option maxHeartbeats 8000000 in
theorem rfeasible_any (s : Sn) (D : Nat → Prop) (vc vw vp : Value) (p : List (List Int)) (w : World) (hc : R2 D w vc s.cs) (hw : R2 D w vw s.ws) (hp : RL D w vp p) (hpl : p.length ≤ 1000) (hll : ∀ l ∈ p, l.length ≤ 1000) :
    Calls Try.prog 13 #[.agg (nv s.st vc vw).toArray, vp] w fun e w' => e = .returned (.bool (fsb s p)) ∧ Below w.heap.size w w' := by
  have HP : Hid (RL (fun g => g < w.heap.size) w vp p) := hp.mono fun g _ h _ => h
  have HW : Hid (R2 (fun g => g < w.heap.size) w vw s.ws) := hw.mono fun g _ h _ => h
  have hbx := (Below.refl w.heap.size w).alloc (Nat.le_refl _) (.cells (nv s.st vc vw).toArray 27)
  have HR := Hid.intro' (rsnapRight_any s D vc vw _ (hc.below' hbx) (hw.below' hbx))
  have HN := Hid.intro' (NB.new w s.st vc vw)
  have HB := Hid.intro' hbx
  obtain ⟨ac, kc, rfl, _, _⟩ := hc.form
  obtain ⟨aw, kw, rfl, _, _⟩ := hw.form
  obtain ⟨ap, kp, rfl, _, _⟩ := hp.form
  have HLL := Hid.intro' hll
  clear hc hw hp hbx hll
  go_enter Try.func13, Try.ntmps13
  go_wp2_with (refine wpList_load27g rfl _ rfl w.heap.size s.st _ _ rfl HN.out ?_)
  refine HR.out.mono ?_
  rintro e W1 ⟨rfl, hb1⟩
  have HN1 := Hid.intro' (HN.out.below' hb1)
  have HB1 := Hid.intro' (below_class HB.out hb1)
  have HZ1 := Hid.intro' (show w.heap.size < W1.heap.size by have := hb1.size; simp at this; omega)
  clear hb1 HR HN HB
  cases hr : rgt s with
  | false =>
    go_wp2
    go_ret
    exact ⟨ret_bool (by unfold fsb; rw [hr]; rfl), HB1.out⟩
  | true =>
    obtain ⟨n, hrs⟩ := rgt_rs hr
    have HRS := Hid.intro' hrs
    have HRR := Hid.intro' hr
    have hcl : s.cs.length = n := hrs.cl
    have hn8 : n ≤ 8 := hrs.n8
    have hwl : s.ws.length ≤ 128 := hrs.wl
    clear hrs hr
    have c13 : W1.cell? ⟨w.heap.size, 13, none⟩ = some (.slice ac s.cs.length kc) := HN1.out.cell 13
    have c14 : W1.cell? ⟨w.heap.size, 14, none⟩ = some (.slice aw s.ws.length kw) := HN1.out.cell 14
    rw [hcl] at c13
    have HCL := Hid.intro' hcl
    by_cases hpn : p.length = n
    · have q1 : ((p.length : Int) != (n : Int)) = false := by simp; omega
      have HPN := Hid.intro' hpn
      have hmk := mkI s.ws.length (by omega)
      clear hcl hpn
      go_wp2_with fail
      have HF2 : Hid (Gq w (W1.alloc (.cells (List.replicate s.ws.length (Value.int .i64 0)).toArray 3)) W1.heap.size s (fun g => g < w.heap.size) (.slice ac s.cs.length kc) (.slice aw s.ws.length kw) (.slice ap p.length kp) p (List.replicate s.ws.length 0)) := by
        have hb2 := (Below.refl W1.heap.size W1).alloc (Nat.le_refl _) (.cells (List.replicate s.ws.length (Value.int .i64 0)).toArray 3)
        exact ⟨HN1.out.below' hb2, HZ1.out, by rw [nc_rep]; exact World.alloc_heap_new W1 _, HP.out.below' (below_class HB1.out hb2), HW.out.below' (below_class HB1.out hb2), fun _ h => h, below_class HB1.out hb2, by simp⟩
      rw [List.toArray_replicate] at HF2
      clear c13 c14 q1 hmk HN1 HZ1
      generalize (W1.alloc (.cells (Array.replicate s.ws.length (Value.int .i64 0)) 3)) = W2 at HF2 ⊢
      generalize W1.heap.size = cb at HF2 ⊢
      obtain ⟨R, HR⟩ : ∃ R, Hid (PM.cnts (msk s) 0 (List.replicate (msk s).length 0) p = R) := ⟨_, Hid.intro' rfl⟩
      have HFN : Hid (R = none → fsb s p = false) := fun e => by
        show fsb s p = false
        have := HR.out
        rw [e] at this
        unfold fsb; rw [rfeas_none this]; simp
      have HFS : Hid (∀ ct, R = some ct → fsb s p = ct.all (· == 1)) := fun ct e => by
        show fsb s p = _
        have := HR.out
        rw [e] at this
        unfold fsb; rw [rfeas_some this, HRR.out, HPN.out, HCL.out]; simp
      have HML : Hid ((msk s).length = s.ws.length) := HRS.out.mm.len
      go_loopw [6] (fun i wr => ∃ (k : Nat) (ct : List Nat), k ≤ p.length ∧ i = .int .i64 (k : Int) ∧ Hid (Gq w wr cb s (fun g => g < w.heap.size) (.slice ac s.cs.length kc) (.slice aw s.ws.length kw) (.slice ap p.length kp) p ct) ∧
        Hid (R = PM.cnts (msk s) k ct (p.drop k)) ∧ Hid (∀ x ∈ ct, x ≤ 1000 * k)) (fun i _ => p.length - (intOf i).toNat)
      case atStart =>
        refine ⟨0, _, Nat.zero_le _, rfl, HF2, ?_, fun x hx => ?_⟩
        · show R = _
          rw [← HR.out, HML.out, List.drop_zero]
        · rw [List.mem_replicate] at hx; omega
      case round =>
        obtain ⟨k, ct, hk, rfl, HF, HI, HM⟩ := hrel
        clear HF2
        by_cases hlt : k < p.length
        · have hkz : (k : Int) < (p.length : Int) := by omega
          obtain ⟨l, hl⟩ : ∃ l, p[k]? = some l := ⟨_, List.getElem?_eq_getElem hlt⟩
          obtain ⟨gp, op, rfl, u, hcu, hru⟩ := HF.out.rp.at hl
          obtain ⟨au, ku, rfl, _, _⟩ := hru.form
          have HL := Hid.intro' hl
          have hln : l.length ≤ 1000 := HLL.out l (List.mem_of_getElem? hl)
          have HRU3 := Hid.intro' (hru.base HF.out.bel)
          have HCU : Hid (∀ W, Below w.heap.size w W → W.cell? ⟨gp, op + k, none⟩ = some (.slice au l.length ku)) := by
            have hgp : gp < w.heap.size := by
              obtain ⟨_, _, e, _, _, h⟩ := HF.out.rp
              cases e
              rcases h with h | ⟨g', o', e, hd, _⟩
              · rw [h] at hlt; simp at hlt
              · cases e; exact hd
            intro W hb
            have h1 := (HF.out.bel.cell (p := ⟨gp, op + k, none⟩) hgp).symm.trans hcu
            exact (hb.cell (p := ⟨gp, op + k, none⟩) hgp).trans h1
          clear hl hru hcu
          go_wp2_with fail
          have HK2 : Hid (Cf R (msk s) k ct l (p.drop (k + 1))) := by
            show R = _
            rw [HI.out, drop_cons HL.out, PM.cnts]
          have hkn : k < n := by have := HPN.out; omega
          clear HI
          have HF3 := HF
          clear HF
          generalize wr = W3 at HF3 ⊢
          go_loopw [7] (fun i wr => ∃ (j : Nat) (ct : List Nat), j ≤ l.length ∧ i = .int .i64 (j : Int) ∧ Hid (Gq w wr cb s (fun g => g < w.heap.size) (.slice ac s.cs.length kc) (.slice aw s.ws.length kw) (.slice (some ⟨gp, op, none⟩) p.length kp) p ct) ∧
            Hid (Cf R (msk s) k ct (l.drop j) (p.drop (k + 1))) ∧ Hid (∀ x ∈ ct, x ≤ 1000 * k + j)) (fun i _ => l.length - (intOf i).toNat)
          case atStart => exact ⟨0, ct, Nat.zero_le _, rfl, HF3, HK2, fun x hx => by have := HM.out x hx; omega⟩
          case round =>
            clear HF3 HK2 HM
            obtain ⟨j, ct, hj, rfl, HF, HK, HM⟩ := hrel
            have hcu := HCU.out wr HF.out.bel
            by_cases hjl : j < l.length
            · have hjz : (j : Int) < (l.length : Int) := by omega
              obtain ⟨x, hx⟩ : ∃ x, l[j]? = some x := ⟨_, List.getElem?_eq_getElem hjl⟩
              obtain ⟨gu, ou, rfl, hcx⟩ := (HRU3.out.below' HF.out.bel).at hx
              have HDC := Hid.intro' (drop_cons hx)
              have HK1 : Hid (Cf R (msk s) k ct (x :: l.drop (j + 1)) (p.drop (k + 1))) := by
                have h := HK.out
                rw [HDC.out] at h
                exact h
              have HCT := Hid.intro' HF.out.cl
              clear HK hx
              by_cases hx0 : x < 0
              · have HNO := Hid.intro' (HFN.out (HK1.out.no (by rw [Bool.eq_false_iff]; intro h; have := (PM.okx_iff.1 h).1; omega)))
                go_wp2
                go_ret
                exact ⟨ret_bool HNO.out.symm, HF.out.bel⟩
              · by_cases hx1 : (s.ws.length : Int) ≤ x
                · have HNO := Hid.intro' (HFN.out (HK1.out.no (by rw [Bool.eq_false_iff]; intro h; have := (PM.okx_iff.1 h).2.1; have := HML.out; omega)))
                  have q1 : decide (x < 0) = false := decide_eq_false hx0
                  clear hx0
                  go_wp2
                  go_ret
                  exact ⟨ret_bool HNO.out.symm, HF.out.bel⟩
                · obtain ⟨i, rfl⟩ : ∃ i : Nat, x = (i : Int) := ⟨x.toNat, by omega⟩
                  have hiw : i < s.ws.length := by omega
                  have q1 : decide ((i : Int) < 0) = false := decide_eq_false hx0
                  have q2 : decide ((s.ws.length : Int) ≤ (i : Int)) = false := decide_eq_false hx1
                  have q3 : (i : Int) < (s.ws.length : Int) := by omega
                  obtain ⟨y, hy⟩ : ∃ y, s.ws[i]? = some y := ⟨_, List.getElem?_eq_getElem hiw⟩
                  obtain ⟨z, hz⟩ : ∃ z, ct[i]? = some z := ⟨_, List.getElem?_eq_getElem (by rw [HF.out.cl]; exact hiw)⟩
                  obtain ⟨m, hm, hym⟩ := HRS.out.mm.eq i y hy
                  have hm8 : m ≤ 100000 := by
                    have h1 := HRS.out.lt m (List.mem_of_getElem? hm)
                    have h2 : 2 ^ n ≤ 2 ^ 8 := Nat.pow_le_pow_right (by omega) hn8
                    omega
                  have HMT := Hid.intro' (may_any s _ (.slice ac s.cs.length kc) _ wr HF.out.rw i k m y hy hym hm8 (by omega))
                  have HIFF : Hid (PM.okx (msk s) k (i : Int) = PM.bt m k) := by
                    show _ = _
                    rw [Bool.eq_iff_iff, PM.okx_iff, Int.toNat_natCast, hm, Option.getD_some]
                    have := HML.out
                    exact ⟨fun h => h.2.2, fun h => ⟨by omega, by omega, h⟩⟩
                  have hz2 : z ≤ 1000 * k + j := HM.out z (List.mem_of_getElem? hz)
                  have HZ := Hid.intro' hz
                  have HNBF := Hid.intro' HF.out.nb
                  clear hx0 hx1 hy hz hm hym
                  go_wp2_with (refine wpList_load27g ?hg _ rfl w.heap.size s.st _ _ rfl HNBF.out ?_; (case hg => go_simp))
                  refine HMT.out.mono ?_
                  rintro e W5 ⟨rfl, hb5⟩
                  have HF5 := Hid.intro' (HF.out.next hb5)
                  clear hb5 HF HMT HNBF hcx hcu
                  cases hq : PM.bt m k with
                  | false =>
                    rw [hq] at HIFF
                    have HNO := Hid.intro' (HFN.out (HK1.out.no HIFF.out))
                    go_wp2
                    go_ret
                    exact ⟨ret_bool HNO.out.symm, HF5.out.bel⟩
                  | true =>
                    rw [hq] at HIFF
                    have HK3 := Hid.intro' (HK1.out.yes HIFF.out)
                    rw [Int.toNat_natCast, HZ.out, Option.getD_some] at HK3
                    have d0 : W5.cell? ⟨cb, i, none⟩ = some (.int .i64 (z : Int)) := (blk_cell HF5.out.hc i).trans (nc_some HZ.out)
                    have d1 : W5.frozen? ⟨cb, i, none⟩ = false := blk_fr HF5.out.hc i
                    have hzz : (z : Int) ≤ 100000 := by omega
                    have HF6 := Hid.intro' (HF5.out.put i (z + 1))
                    rw [Int.natCast_add] at HF6
                    have HM6 : Hid (∀ x ∈ ct.set i (z + 1), x ≤ 1000 * k + (j + 1)) := fun x hx => by
                      show x ≤ _
                      rcases List.mem_or_eq_of_mem_set hx with h | h
                      · have := HM.out x h; omega
                      · omega
                    clear HF5 HK1 HM
                    go_wp2
                    go_roundw
                    case rel => exact ⟨j + 1, ct.set i (z + 1), by omega, by go_num, HF6, HK3, HM6⟩
                    case measure => simp [intOf]; omega
            · have hjz : ¬ (j : Int) < (l.length : Int) := by omega
              have HK2 : Hid (R = PM.cnts (msk s) (k + 1) ct (p.drop (k + 1))) := by
                show R = _
                have h := HK.out
                unfold Cf at h
                rw [h, List.drop_of_length_le (by omega), PM.cnt1]; rfl
              go_wp2
              go_roundw
              case rel => exact ⟨k + 1, ct, by omega, by go_num, HF, HK2, fun x hx => by have := HM.out x hx; omega⟩
              case measure => simp [intOf]; omega
        · have hkz : ¬ (k : Int) < (p.length : Int) := by omega
          have HS := Hid.intro' (HFS.out ct (by rw [HI.out, List.drop_of_length_le (by omega), PM.cnts]))
          go_wp2_with fail
          have HF3 := HF
          clear HF HI
          generalize wr = W3 at HF3 ⊢
          have HCT := Hid.intro' HF3.out.cl
          go_loopw [9] (fun i wr => ∃ j : Nat, j ≤ s.ws.length ∧ i = .int .i64 (j : Int) ∧ Hid (wr = W3) ∧ Hid ((ct.take j).all (· == 1) = true)) (fun i _ => s.ws.length - (intOf i).toNat)
          case atStart => exact ⟨0, Nat.zero_le _, rfl, rfl, rfl⟩
          case round =>
            obtain ⟨j, hj, rfl, HW3, HA⟩ := hrel
            obtain rfl : wr = W3 := HW3.out
            by_cases hjl : j < s.ws.length
            · have hjz : (j : Int) < (s.ws.length : Int) := by omega
              obtain ⟨z, hz⟩ : ∃ z, ct[j]? = some z := ⟨_, List.getElem?_eq_getElem (by rw [HCT.out]; exact hjl)⟩
              have d0 : wr.cell? ⟨cb, j, none⟩ = some (.int .i64 (z : Int)) := (blk_cell HF3.out.hc j).trans (nc_some hz)
              have HZ := Hid.intro' hz
              clear hz
              by_cases h1 : z = 1
              · have HZ1 := Hid.intro' h1
                have q1 : ((z : Int) != 1) = false := by rw [h1]; rfl
                clear h1
                go_wp2
                go_roundw
                case rel => exact ⟨j + 1, by omega, by go_num, trivial, by rw [all_take HZ.out, HA.out, HZ1.out]; rfl⟩
                case measure => simp [intOf]; omega
              · have HZ1 := Hid.intro' h1
                have q1 : ((z : Int) != 1) = true := by simp; omega
                clear h1
                go_wp2
                go_ret
                refine ⟨ret_bool ?_, HF3.out.bel⟩
                rw [HS.out, all_not HZ.out (by simpa using HZ1.out)]
            · have hjz : ¬ (j : Int) < (s.ws.length : Int) := by omega
              go_wp2
              go_ret
              refine ⟨ret_bool ?_, HF3.out.bel⟩
              have h1 := HA.out
              rw [List.take_of_length_le (by rw [HCT.out]; omega)] at h1
              rw [HS.out, h1]
    · have q1 : ((p.length : Int) != (n : Int)) = true := by simp; omega
      have HQ : Hid (fsb s p = false) := by
        show fsb s p = false
        unfold fsb; rw [HCL.out, decide_eq_false hpn]; simp
      clear hpn hcl
      go_wp2
      go_ret
      exact ⟨ret_bool HQ.out.symm, HB1.out⟩

end Go.Proofs.Ytkcppidmbojglag
