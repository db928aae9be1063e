/- Several texts in one, each with its own head. -/
import Derived.Test.YtagmidolcdefiahPk3
import Derived.Test.YtagmidolcdefiahPlR
import Derived.Test.YtagmidolcdefiahPk2
import Derived.Test.YtagmidolcdefiahPk1
import Derived.Test.YtagmidolcdefiahPk4
/- Whether a plan may be, as the document tells it. -/
namespace Go.Proofs.Ytagmidolcdefiah
open Go.RowKit
set_option maxHeartbeats 2000000 in
theorem may_any (s : Sn) (D : Nat → Prop) (vc vw : Value) (w : World) (hw : R2 D w vw s.ws) (i c m : Nat) (y : Int × Int) (hy : s.ws[i]? = some y) (hm : y.2 = (m : Int)) (hm2 : m ≤ 100000) (hc : c ≤ 20) :
    Calls Try.prog 33 #[.agg (nv s.st vc vw).toArray, .int .i64 (i : Int), .int .i64 (c : Int)] w fun e w' => e = .returned (.bool (PM.bt m c)) ∧ Below w.heap.size w w' := by
  have hbx := (Below.refl w.heap.size w).alloc (Nat.le_refl _) (.cells (nv s.st vc vw).toArray 27)
  have HN := Hid.intro' (NB.new w s.st vc vw)
  have HB := Hid.intro' hbx
  obtain ⟨aw, kw, rfl, _, _⟩ := hw.form
  obtain ⟨gw, ow, rfl, _, e1⟩ := (hw.below' hbx).at hy
  rw [hm] at e1
  have c14 : (w.alloc (.cells (nv s.st vc (.slice (some ⟨gw, ow, none⟩) s.ws.length kw)).toArray 27)).cell? ⟨w.heap.size, 14, none⟩ = some (.slice (some ⟨gw, ow, none⟩) s.ws.length kw) := HN.out.cell 14
  have hi : (i : Int) < (s.ws.length : Int) := by have := (List.getElem?_eq_some_iff.1 hy).1; omega
  have hcz : (c : Int) ≤ 20 := by omega
  clear hw hbx hy hm
  go_enter Try.func33, Try.ntmps33
  go_wp2_with fail
  clear c14 e1
  go_loop [7, 8] (fun a i => ∃ k q : Nat, k ≤ c ∧ a = .int .i64 (q : Int) ∧ i = .int .i64 (k : Int) ∧ q ≤ 100000 ∧ Hid (q = m / 2 ^ k)) (fun _ i => c - (intOf i).toNat)
  case atStart => exact ⟨0, m, Nat.zero_le _, rfl, rfl, hm2, by show m = m / 2 ^ 0; simp⟩
  case round =>
    obtain ⟨k, q, hk, rfl, rfl, hq, HQ⟩ := hrel
    by_cases hlt : k < c
    · have hkz : (k : Int) < (c : Int) := by omega
      have hqz : (q : Int) ≤ 100000 := by omega
      go_wp2
      go_round
      case rel =>
        refine ⟨k + 1, q / 2, by omega, by go_num, by go_num, by omega, ?_⟩
        show q / 2 = m / 2 ^ (k + 1)
        rw [HQ.out, Nat.div_div_eq_div_mul, Nat.pow_succ]
      case measure => simp [intOf]; omega
    · have hkz : ¬ (k : Int) < (c : Int) := by omega
      have hqz : (q : Int) ≤ 100000 := by omega
      have HE : Hid (PM.bt m c = (q % 2 == 1)) := by
        show _ = _
        unfold PM.bt; rw [HQ.out, show k = c by omega]
      clear HQ
      go_wp2
      go_ret
      refine ⟨ret_bool ?_, HB.out⟩
      rw [HE.out, Bool.eq_iff_iff]
      simp
      omega
/-- the cells of counts -/
def nc (ct : List Nat) : List Value := ct.map fun (n : Nat) => Value.int .i64 (n : Int)
theorem nc_some {ct : List Nat} {i x : Nat} (h : ct[i]? = some x) : (nc ct)[i]? = some (.int .i64 (x : Int)) := by unfold nc; rw [List.getElem?_map, h]; rfl
theorem nc_set (ct : List Nat) (i x : Nat) : (nc ct).set i (.int .i64 (x : Int)) = nc (ct.set i x) := by unfold nc; rw [List.map_set]
theorem nc_rep (n : Nat) : nc (List.replicate n 0) = List.replicate n (Value.int .i64 0) := by unfold nc; rw [List.map_replicate]; rfl
/-- what holds while the document looks at a plan -/
structure Gq (w W : World) (cb : Nat) (s : Sn) (D : Nat → Prop) (vc vw vp : Value) (p : List (List Int)) (ct : List Nat) : Prop where
  nb : NB W w.heap.size s.st vc vw
  lo : w.heap.size < cb
  hc : W.heap[cb]? = some (.cells (nc ct).toArray 3 (0, 0))
  rp : RL D W vp p
  rw : R2 D W vw s.ws
  dl : ∀ g, D g → g < w.heap.size
  bel : Below w.heap.size w W
  cl : ct.length = s.ws.length
section
variable {w W W' : World} {cb : Nat} {s : Sn} {D : Nat → Prop} {vc vw vp : Value} {p : List (List Int)} {ct : List Nat}
theorem Gq.next (h : Gq w W cb s D vc vw vp p ct) (hb : Below W.heap.size W W') : Gq w W' cb s D vc vw vp p ct :=
  ⟨h.nb.below' hb, h.lo, (hb.block cb (Array.getElem?_eq_some_iff.1 h.hc).1).trans h.hc, h.rp.below' hb, h.rw.below' hb, h.dl, below_class h.bel hb, h.cl⟩
theorem Gq.put (h : Gq w W cb s D vc vw vp p ct) (i x : Nat) : Gq w (W.setCell ⟨cb, i, none⟩ (.int .i64 (x : Int))) cb s D vc vw vp p (ct.set i x) := by
  have keep : ∀ k, k ≠ cb → (W.setCell ⟨cb, i, none⟩ (.int .i64 (x : Int))).heap[k]? = W.heap[k]? := fun k hk => Below.heap_setCell W ⟨cb, i, none⟩ _ k hk
  have hl := h.lo
  refine ⟨(keep _ (by omega)).trans h.nb, h.lo, by rw [← nc_set]; exact blk_set h.hc i _, h.rp.keep (by simp [World.setCell]) fun g hg _ => keep g (by have := h.dl g hg; omega), h.rw.keep (by simp [World.setCell]) fun g hg _ => keep g (by have := h.dl g hg; omega), h.dl, h.bel.setCell (p := ⟨cb, i, none⟩) (Nat.le_of_lt h.lo) _, by rw [List.length_set]; exact h.cl⟩
end
/-- what is left of the look: R is the whole's outcome -/
def Cf (R : Option (List Nat)) (ms : List Nat) (k : Nat) (ct : List Nat) (l : List Int) (p : List (List Int)) : Prop := R = (PM.cnt1 ms k ct l).bind fun ct' => PM.cnts ms (k + 1) ct' p
theorem Cf.no {R : Option (List Nat)} {ms : List Nat} {k : Nat} {ct : List Nat} {x : Int} {l : List Int} {p : List (List Int)} (h : Cf R ms k ct (x :: l) p) (hx : PM.okx ms k x = false) : R = none := by
  unfold Cf at h
  rw [h, PM.cnt1, if_neg (by rw [hx]; simp)]; rfl
theorem Cf.yes {R : Option (List Nat)} {ms : List Nat} {k : Nat} {ct : List Nat} {x : Int} {l : List Int} {p : List (List Int)} (h : Cf R ms k ct (x :: l) p) (hx : PM.okx ms k x = true) : Cf R ms k (ct.set x.toNat (ct[x.toNat]?.getD 0 + 1)) l p := by
  unfold Cf at h ⊢
  rw [h, PM.cnt1, if_pos hx]
theorem rfeas_none {ms : List Nat} {p : List (List Int)} (h : PM.cnts ms 0 (List.replicate ms.length 0) p = none) : PM.feas ms p = false := by rw [PM.feas_rfeas]; unfold PM.rfeas; rw [h]; rfl
theorem rfeas_some {ms : List Nat} {p : List (List Int)} {ct : List Nat} (h : PM.cnts ms 0 (List.replicate ms.length 0) p = some ct) : PM.feas ms p = ct.all (· == 1) := by rw [PM.feas_rfeas]; unfold PM.rfeas; rw [h]; rfl
set_option maxHeartbeats 8000000 in
theorem rfeasible_any (s : Sn) (D : Nat → Prop) (vc vw vp : Value) (p : List (List Int)) (w : World) (hc : R2 D w vc s.cs) (hw : R2 D w vw s.ws) (hp : RL D w vp p) (hpl : p.length ≤ 1000) (hll : ∀ l ∈ p, l.length ≤ 1000) :
    Calls Try.prog 16 #[.agg (nv s.st vc vw).toArray, vp] w fun e w' => e = .returned (.bool (fsb s p)) ∧ Below w.heap.size w w' := by
  have HP : Hid (RL (fun g => g < w.heap.size) w vp p) := hp.mono fun g _ h _ => h
  have HW : Hid (R2 (fun g => g < w.heap.size) w vw s.ws) := hw.mono fun g _ h _ => h
  have hbx := (Below.refl w.heap.size w).alloc (Nat.le_refl _) (.cells (nv s.st vc vw).toArray 27)
  have HR := Hid.intro' (rsnapRight_any s D vc vw _ (hc.below' hbx) (hw.below' hbx))
  have HN := Hid.intro' (NB.new w s.st vc vw)
  have HB := Hid.intro' hbx
  obtain ⟨ac, kc, rfl, _, _⟩ := hc.form
  obtain ⟨aw, kw, rfl, _, _⟩ := hw.form
  obtain ⟨ap, kp, rfl, _, _⟩ := hp.form
  have HLL := Hid.intro' hll
  clear hc hw hp hbx hll
  go_enter Try.func16, Try.ntmps16
  go_wp2_with (refine wpList_load27g rfl _ rfl w.heap.size s.st _ _ rfl HN.out ?_)
  refine HR.out.mono ?_
  rintro e W1 ⟨rfl, hb1⟩
  have HN1 := Hid.intro' (HN.out.below' hb1)
  have HB1 := Hid.intro' (below_class HB.out hb1)
  have HZ1 := Hid.intro' (show w.heap.size < W1.heap.size by have := hb1.size; simp at this; omega)
  clear hb1 HR HN HB
  cases hr : rgt s with
  | false =>
    go_wp2
    go_ret
    exact ⟨ret_bool (by unfold fsb; rw [hr]; rfl), HB1.out⟩
  | true =>
    obtain ⟨n, hrs⟩ := rgt_rs hr
    have HRS := Hid.intro' hrs
    have HRR := Hid.intro' hr
    have hcl : s.cs.length = n := hrs.cl
    have hn8 : n ≤ 8 := hrs.n8
    have hwl : s.ws.length ≤ 128 := hrs.wl
    clear hrs hr
    have c13 : W1.cell? ⟨w.heap.size, 13, none⟩ = some (.slice ac s.cs.length kc) := HN1.out.cell 13
    have c14 : W1.cell? ⟨w.heap.size, 14, none⟩ = some (.slice aw s.ws.length kw) := HN1.out.cell 14
    rw [hcl] at c13
    have HCL := Hid.intro' hcl
    by_cases hpn : p.length = n
    · have q1 : ((p.length : Int) != (n : Int)) = false := by simp; omega
      have HPN := Hid.intro' hpn
      have hmk := mkI s.ws.length (by omega)
      clear hcl hpn
      go_wp2_with fail
      have HF2 : Hid (Gq w (W1.alloc (.cells (List.replicate s.ws.length (Value.int .i64 0)).toArray 3)) W1.heap.size s (fun g => g < w.heap.size) (.slice ac s.cs.length kc) (.slice aw s.ws.length kw) (.slice ap p.length kp) p (List.replicate s.ws.length 0)) := by
        have hb2 := (Below.refl W1.heap.size W1).alloc (Nat.le_refl _) (.cells (List.replicate s.ws.length (Value.int .i64 0)).toArray 3)
        exact ⟨HN1.out.below' hb2, HZ1.out, by rw [nc_rep]; exact World.alloc_heap_new W1 _, HP.out.below' (below_class HB1.out hb2), HW.out.below' (below_class HB1.out hb2), fun _ h => h, below_class HB1.out hb2, by simp⟩
      rw [List.toArray_replicate] at HF2
      clear c13 c14 q1 hmk HN1 HZ1
      generalize (W1.alloc (.cells (Array.replicate s.ws.length (Value.int .i64 0)) 3)) = W2 at HF2 ⊢
      generalize W1.heap.size = cb at HF2 ⊢
      obtain ⟨R, HR⟩ : ∃ R, Hid (PM.cnts (msk s) 0 (List.replicate (msk s).length 0) p = R) := ⟨_, Hid.intro' rfl⟩
      have HFN : Hid (R = none → fsb s p = false) := fun e => by
        show fsb s p = false
        have := HR.out
        rw [e] at this
        unfold fsb; rw [rfeas_none this]; simp
      have HFS : Hid (∀ ct, R = some ct → fsb s p = ct.all (· == 1)) := fun ct e => by
        show fsb s p = _
        have := HR.out
        rw [e] at this
        unfold fsb; rw [rfeas_some this, HRR.out, HPN.out, HCL.out]; simp
      have HML : Hid ((msk s).length = s.ws.length) := HRS.out.mm.len
      go_loopw [6] (fun i wr => ∃ (k : Nat) (ct : List Nat), k ≤ p.length ∧ i = .int .i64 (k : Int) ∧ Hid (Gq w wr cb s (fun g => g < w.heap.size) (.slice ac s.cs.length kc) (.slice aw s.ws.length kw) (.slice ap p.length kp) p ct) ∧
        Hid (R = PM.cnts (msk s) k ct (p.drop k)) ∧ Hid (∀ x ∈ ct, x ≤ 1000 * k)) (fun i _ => p.length - (intOf i).toNat)
      case atStart =>
        refine ⟨0, _, Nat.zero_le _, rfl, HF2, ?_, fun x hx => ?_⟩
        · show R = _
          rw [← HR.out, HML.out, List.drop_zero]
        · rw [List.mem_replicate] at hx; omega
      case round =>
        obtain ⟨k, ct, hk, rfl, HF, HI, HM⟩ := hrel
        clear HF2
        by_cases hlt : k < p.length
        · have hkz : (k : Int) < (p.length : Int) := by omega
          obtain ⟨l, hl⟩ : ∃ l, p[k]? = some l := ⟨_, List.getElem?_eq_getElem hlt⟩
          obtain ⟨gp, op, rfl, u, hcu, hru⟩ := HF.out.rp.at hl
          obtain ⟨au, ku, rfl, _, _⟩ := hru.form
          have HL := Hid.intro' hl
          have hln : l.length ≤ 1000 := HLL.out l (List.mem_of_getElem? hl)
          have HRU3 := Hid.intro' (hru.base HF.out.bel)
          have HCU : Hid (∀ W, Below w.heap.size w W → W.cell? ⟨gp, op + k, none⟩ = some (.slice au l.length ku)) := by
            have hgp : gp < w.heap.size := by
              obtain ⟨_, _, e, _, _, h⟩ := HF.out.rp
              cases e
              rcases h with h | ⟨g', o', e, hd, _⟩
              · rw [h] at hlt; simp at hlt
              · cases e; exact hd
            intro W hb
            have h1 := (HF.out.bel.cell (p := ⟨gp, op + k, none⟩) hgp).symm.trans hcu
            exact (hb.cell (p := ⟨gp, op + k, none⟩) hgp).trans h1
          clear hl hru hcu
          go_wp2_with fail
          have HK2 : Hid (Cf R (msk s) k ct l (p.drop (k + 1))) := by
            show R = _
            rw [HI.out, drop_cons HL.out, PM.cnts]
          have hkn : k < n := by have := HPN.out; omega
          clear HI
          have HF3 := HF
          clear HF
          generalize wr = W3 at HF3 ⊢
          go_loopw [7] (fun i wr => ∃ (j : Nat) (ct : List Nat), j ≤ l.length ∧ i = .int .i64 (j : Int) ∧ Hid (Gq w wr cb s (fun g => g < w.heap.size) (.slice ac s.cs.length kc) (.slice aw s.ws.length kw) (.slice (some ⟨gp, op, none⟩) p.length kp) p ct) ∧
            Hid (Cf R (msk s) k ct (l.drop j) (p.drop (k + 1))) ∧ Hid (∀ x ∈ ct, x ≤ 1000 * k + j)) (fun i _ => l.length - (intOf i).toNat)
          case atStart => exact ⟨0, ct, Nat.zero_le _, rfl, HF3, HK2, fun x hx => by have := HM.out x hx; omega⟩
          case round =>
            clear HF3 HK2 HM
            obtain ⟨j, ct, hj, rfl, HF, HK, HM⟩ := hrel
            have hcu := HCU.out wr HF.out.bel
            by_cases hjl : j < l.length
            · have hjz : (j : Int) < (l.length : Int) := by omega
              obtain ⟨x, hx⟩ : ∃ x, l[j]? = some x := ⟨_, List.getElem?_eq_getElem hjl⟩
              obtain ⟨gu, ou, rfl, hcx⟩ := (HRU3.out.below' HF.out.bel).at hx
              have HDC := Hid.intro' (drop_cons hx)
              have HK1 : Hid (Cf R (msk s) k ct (x :: l.drop (j + 1)) (p.drop (k + 1))) := by
                have h := HK.out
                rw [HDC.out] at h
                exact h
              have HCT := Hid.intro' HF.out.cl
              clear HK hx
              by_cases hx0 : x < 0
              · have HNO := Hid.intro' (HFN.out (HK1.out.no (by rw [Bool.eq_false_iff]; intro h; have := (PM.okx_iff.1 h).1; omega)))
                go_wp2
                go_ret
                exact ⟨ret_bool HNO.out.symm, HF.out.bel⟩
              · by_cases hx1 : (s.ws.length : Int) ≤ x
                · have HNO := Hid.intro' (HFN.out (HK1.out.no (by rw [Bool.eq_false_iff]; intro h; have := (PM.okx_iff.1 h).2.1; have := HML.out; omega)))
                  have q1 : decide (x < 0) = false := decide_eq_false hx0
                  clear hx0
                  go_wp2
                  go_ret
                  exact ⟨ret_bool HNO.out.symm, HF.out.bel⟩
                · obtain ⟨i, rfl⟩ : ∃ i : Nat, x = (i : Int) := ⟨x.toNat, by omega⟩
                  have hiw : i < s.ws.length := by omega
                  have q1 : decide ((i : Int) < 0) = false := decide_eq_false hx0
                  have q2 : decide ((s.ws.length : Int) ≤ (i : Int)) = false := decide_eq_false hx1
                  have q3 : (i : Int) < (s.ws.length : Int) := by omega
                  obtain ⟨y, hy⟩ : ∃ y, s.ws[i]? = some y := ⟨_, List.getElem?_eq_getElem hiw⟩
                  obtain ⟨z, hz⟩ : ∃ z, ct[i]? = some z := ⟨_, List.getElem?_eq_getElem (by rw [HF.out.cl]; exact hiw)⟩
                  obtain ⟨m, hm, hym⟩ := HRS.out.mm.eq i y hy
                  have hm8 : m ≤ 100000 := by
                    have h1 := HRS.out.lt m (List.mem_of_getElem? hm)
                    have h2 : 2 ^ n ≤ 2 ^ 8 := Nat.pow_le_pow_right (by omega) hn8
                    omega
                  have HMT := Hid.intro' (may_any s _ (.slice ac s.cs.length kc) _ wr HF.out.rw i k m y hy hym hm8 (by omega))
                  have HIFF : Hid (PM.okx (msk s) k (i : Int) = PM.bt m k) := by
                    show _ = _
                    rw [Bool.eq_iff_iff, PM.okx_iff, Int.toNat_natCast, hm, Option.getD_some]
                    have := HML.out
                    exact ⟨fun h => h.2.2, fun h => ⟨by omega, by omega, h⟩⟩
                  have hz2 : z ≤ 1000 * k + j := HM.out z (List.mem_of_getElem? hz)
                  have HZ := Hid.intro' hz
                  have HNBF := Hid.intro' HF.out.nb
                  clear hx0 hx1 hy hz hm hym
                  go_wp2_with (refine wpList_load27g ?hg _ rfl w.heap.size s.st _ _ rfl HNBF.out ?_; (case hg => go_simp))
                  refine HMT.out.mono ?_
                  rintro e W5 ⟨rfl, hb5⟩
                  have HF5 := Hid.intro' (HF.out.next hb5)
                  clear hb5 HF HMT HNBF hcx hcu
                  cases hq : PM.bt m k with
                  | false =>
                    rw [hq] at HIFF
                    have HNO := Hid.intro' (HFN.out (HK1.out.no HIFF.out))
                    go_wp2
                    go_ret
                    exact ⟨ret_bool HNO.out.symm, HF5.out.bel⟩
                  | true =>
                    rw [hq] at HIFF
                    have HK3 := Hid.intro' (HK1.out.yes HIFF.out)
                    rw [Int.toNat_natCast, HZ.out, Option.getD_some] at HK3
                    have d0 : W5.cell? ⟨cb, i, none⟩ = some (.int .i64 (z : Int)) := (blk_cell HF5.out.hc i).trans (nc_some HZ.out)
                    have d1 : W5.frozen? ⟨cb, i, none⟩ = false := blk_fr HF5.out.hc i
                    have hzz : (z : Int) ≤ 100000 := by omega
                    have HF6 := Hid.intro' (HF5.out.put i (z + 1))
                    rw [Int.natCast_add] at HF6
                    have HM6 : Hid (∀ x ∈ ct.set i (z + 1), x ≤ 1000 * k + (j + 1)) := fun x hx => by
                      show x ≤ _
                      rcases List.mem_or_eq_of_mem_set hx with h | h
                      · have := HM.out x h; omega
                      · omega
                    clear HF5 HK1 HM
                    go_wp2
                    go_roundw
                    case rel => exact ⟨j + 1, ct.set i (z + 1), by omega, by go_num, HF6, HK3, HM6⟩
                    case measure => simp [intOf]; omega
            · have hjz : ¬ (j : Int) < (l.length : Int) := by omega
              have HK2 : Hid (R = PM.cnts (msk s) (k + 1) ct (p.drop (k + 1))) := by
                show R = _
                have h := HK.out
                unfold Cf at h
                rw [h, List.drop_of_length_le (by omega), PM.cnt1]; rfl
              go_wp2
              go_roundw
              case rel => exact ⟨k + 1, ct, by omega, by go_num, HF, HK2, fun x hx => by have := HM.out x hx; omega⟩
              case measure => simp [intOf]; omega
        · have hkz : ¬ (k : Int) < (p.length : Int) := by omega
          have HS := Hid.intro' (HFS.out ct (by rw [HI.out, List.drop_of_length_le (by omega), PM.cnts]))
          go_wp2_with fail
          have HF3 := HF
          clear HF HI
          generalize wr = W3 at HF3 ⊢
          have HCT := Hid.intro' HF3.out.cl
          go_loopw [9] (fun i wr => ∃ j : Nat, j ≤ s.ws.length ∧ i = .int .i64 (j : Int) ∧ Hid (wr = W3) ∧ Hid ((ct.take j).all (· == 1) = true)) (fun i _ => s.ws.length - (intOf i).toNat)
          case atStart => exact ⟨0, Nat.zero_le _, rfl, rfl, rfl⟩
          case round =>
            obtain ⟨j, hj, rfl, HW3, HA⟩ := hrel
            obtain rfl : wr = W3 := HW3.out
            by_cases hjl : j < s.ws.length
            · have hjz : (j : Int) < (s.ws.length : Int) := by omega
              obtain ⟨z, hz⟩ : ∃ z, ct[j]? = some z := ⟨_, List.getElem?_eq_getElem (by rw [HCT.out]; exact hjl)⟩
              have d0 : wr.cell? ⟨cb, j, none⟩ = some (.int .i64 (z : Int)) := (blk_cell HF3.out.hc j).trans (nc_some hz)
              have HZ := Hid.intro' hz
              clear hz
              by_cases h1 : z = 1
              · have HZ1 := Hid.intro' h1
                have q1 : ((z : Int) != 1) = false := by rw [h1]; rfl
                clear h1
                go_wp2
                go_roundw
                case rel => exact ⟨j + 1, by omega, by go_num, trivial, by rw [all_take HZ.out, HA.out, HZ1.out]; rfl⟩
                case measure => simp [intOf]; omega
              · have HZ1 := Hid.intro' h1
                have q1 : ((z : Int) != 1) = true := by simp; omega
                clear h1
                go_wp2
                go_ret
                refine ⟨ret_bool ?_, HF3.out.bel⟩
                rw [HS.out, all_not HZ.out (by simpa using HZ1.out)]
            · have hjz : ¬ (j : Int) < (s.ws.length : Int) := by omega
              go_wp2
              go_ret
              refine ⟨ret_bool ?_, HF3.out.bel⟩
              have h1 := HA.out
              rw [List.take_of_length_le (by rw [HCT.out]; omega)] at h1
              rw [HS.out, h1]
    · have q1 : ((p.length : Int) != (n : Int)) = true := by simp; omega
      have HQ : Hid (fsb s p = false) := by
        show fsb s p = false
        unfold fsb; rw [HCL.out, decide_eq_false hpn]; simp
      clear hpn hcl
      go_wp2
      go_ret
      exact ⟨ret_bool HQ.out.symm, HB1.out⟩
end Go.Proofs.Ytagmidolcdefiah

/- A list is put behind a row of numbers. -/
namespace Go.Proofs.Ytagmidolcdefiah
open Go.RowKit
/-- a list is put behind a row of numbers -/
theorem wpList_appendRI {ops : Array Oper} {rest : List Oper} {o : Oper} {a : Act} {w : World} {Q : Exit → Act → World → Prop} (hgd : o.guard = none) (s x : Operand)
    (ho : o.op = .call { callee := .builtin .append, args := #[s, x], argTypes := #[55, 55] })
    (B : Nat) (v u : Value) (l m : List Int) (D : Nat → Prop) (hs : a.eval s = v) (hown : OI w B v l) (hx : a.eval x = u) (hr : RI D w u m)
    (h63 : l.length + m.length ≤ 1000000) (hB : B ≤ w.heap.size)
    (h : ∀ v' w', OI w' B v' (l ++ m) → w.grownBy w' v.ownBlock → wpList Try.prog ops Q rest (a.put o.dst v') w') : wpList Try.prog ops Q (o :: rest) a w := by
  obtain ⟨ao, cap, rfl, hc, hn⟩ := hr.form
  obtain ⟨i0, hi, hz0, hz1, hz2⟩ := info_parts infoI
  cases ao with
  | none =>
    obtain rfl : cap = 0 := hn rfl
    obtain rfl : m = [] := List.length_eq_zero_iff.1 (by omega)
    refine wpList_append_own_none hgd s x 55 ho B 3 i0 1 Try.underlying55 hi v l.length (ic l) hs hown (by rw [hx]; rfl) ?_
    refine h v w ?_ (World.grownBy.refl w _)
    rw [List.append_nil]; exact hown
  | some ad =>
    refine wpList_append_own w hgd s x 55 ho B 3 i0 _ 1 8 Try.underlying55 hi hz0 hz1 hz2 rfl (by decide) v l.length (ic l) hs hown ad m.length cap (ic m) hx (by rw [ic_length, Nat.mul_one]) ?_ (ic_one m) (by unfold maxLen; omega) (by omega) hB ?_
    · intro j u hj
      obtain ⟨y, hy, rfl⟩ := ic_get hj
      obtain ⟨g, o', e, hc'⟩ := hr.at hy
      cases e
      rw [Addr.add_mid]; exact hc'
    · intro v' w' h1 h2 _
      refine h v' w' ?_ h2
      unfold OI
      rw [List.length_append, ic_append]
      exact h1
end Go.Proofs.Ytagmidolcdefiah

/- A plan with a want taken out, put in twice, put elsewhere; with a list turned round. No program is named here. -/
namespace Go.Proofs.Ytagmidolcdefiah.PM
/-- w is put behind once for each time that it stands -/
def tw (w : Int) (l : List Int) : List Int := l ++ List.replicate (l.count w) w
theorem count_flat_set {x : Int} : ∀ {p : List (List Int)} {c : Nat} {l l' : List Int}, p[c]? = some l → (p.set c l').flatten.count x + l.count x = p.flatten.count x + l'.count x
  | [], _, _, _, h => by simp at h
  | a :: p, 0, l, l', h => by
    simp at h
    subst h
    simp only [List.set_cons_zero, List.flatten_cons, List.count_append]
    omega
  | a :: p, c + 1, l, l', h => by
    have := count_flat_set (x := x) (p := p) (c := c) (l := l) (l' := l') (by simpa using h)
    simp only [List.set_cons_succ, List.flatten_cons, List.count_append]
    omega
end Go.Proofs.Ytagmidolcdefiah.PM

/- Rows that grow, in blocks of their own: numbers, and lists of numbers. -/
namespace Go.Proofs.Ytagmidolcdefiah
open Go.RowKit Go.Shelf
/-- a row of slices that is owned -/
def OP (W : World) (B : Nat) (v : Value) (us : List Value) : Prop := W.ownsRow B 55 1 v us.length us
section
variable {W W' : World} {B : Nat} {v : Value} {us : List Value}
theorem OP.lt (h : OP W B v us) : ∀ g, v.ownBlock = some g → B ≤ g ∧ g < W.heap.size := World.ownsRow.lt h
theorem OP.keep (h : OP W B v us) (hk : ∀ g, v.ownBlock = some g → W'.heap[g]? = W.heap[g]?) : OP W' B v us := by
  refine ⟨h.1, ?_⟩
  rcases h.2 with h1 | ⟨g, cap, cur, hv, hb, hg, hc⟩
  · exact .inl h1
  · exact .inr ⟨g, cap, cur, hv, hb, (hk g (by rw [hv]; rfl)).trans hg, hc⟩
theorem OP.below' (h : OP W B v us) (hb : Below W.heap.size W W') : OP W' B v us := h.keep fun g hg => hb.block g (h.lt g hg).2
theorem OP.cell {g cap n : Nat} (h : OP W B (.slice (some ⟨g, 0, none⟩) n cap) us) {i : Nat} {u : Value} (hi : us[i]? = some u) : W.cell? ⟨g, i, none⟩ = some u := by
  have := World.ownsRow.cells h (g := g) rfl i u hi
  rwa [Addr.add_mid, Nat.zero_add] at this
/-- an owned row of lists that are read is a plan -/
theorem OP.rl {D : Nat → Prop} {g cap : Nat} {p : List (List Int)} (h : OP W B (.slice (some ⟨g, 0, none⟩) us.length cap) us) (hD : D g) (hlen : us.length = p.length) (hr : ∀ (i : Nat) u l, us[i]? = some u → p[i]? = some l → RI D W u l) : RL D W (.slice (some ⟨g, 0, none⟩) us.length cap) p := by
  have hlt := (h.lt g rfl).2
  have hcap : us.length ≤ cap := by
    rcases h.2 with ⟨h1, _⟩ | ⟨g', cap', cur, hv, _, _, hc, _⟩
    · cases h1
    · cases hv; exact hc
  refine ⟨_, cap, by rw [hlen], by omega, (fun e => by cases e), ?_⟩
  by_cases hp : p = []
  · exact .inl hp
  · refine .inr ⟨g, 0, rfl, hD, hlt, fun i l hl => ?_⟩
    have hi : i < us.length := by rw [hlen]; exact (List.getElem?_eq_some_iff.1 hl).1
    refine ⟨us[i], ?_, hr i _ l (List.getElem?_eq_getElem hi) hl⟩
    rw [Nat.zero_add]
    exact h.cell (List.getElem?_eq_getElem hi)
end
theorem infoP : (Try.prog.info? 55).map (fun i => (i.zero, i.size, i.bytes)) = some (some (.slice none 0 0), 1, 24) := by kernel_rfl
/-- a list is put behind a row of lists -/
theorem wpList_appP {ops : Array Oper} {rest : List Oper} {o : Oper} {a : Act} {w : World} {Q : Exit → Act → World → Prop} (hgd : o.guard = none) (s x : Operand)
    (ho : o.op = .call { callee := .builtin .append, args := #[s, x], argTypes := #[32, 32] })
    (B : Nat) (v : Value) (us : List Value) (hs : a.eval s = v) (hown : OP w B v us) (g c : Nat) (u : Value) (hx : a.eval x = .slice (some ⟨g, 0, none⟩) 1 c) (hc : w.cell? ⟨g, 0, none⟩ = some u) (hu : u.oneCell' = true)
    (h63 : us.length ≤ 1000000) (hB : B ≤ w.heap.size)
    (h : ∀ g' cap w', OP w' B (.slice (some ⟨g', 0, none⟩) (us.length + 1) cap) (us ++ [u]) → w.grownBy w' v.ownBlock → (v.ownBlock = some g' ∨ g' = w.heap.size) → g' < w'.heap.size → wpList Try.prog ops Q rest (a.put o.dst (.slice (some ⟨g', 0, none⟩) (us.length + 1) cap)) w') : wpList Try.prog ops Q (o :: rest) a w := by
  obtain ⟨i0, hi, hz0, hz1, hz2⟩ := info_parts infoP
  refine wpList_append_lies w hgd s x 32 ho B 55 i0 _ 1 24 Try.underlying32 hi hz0 hz1 hz2 rfl (by decide) v us.length us hs hown ⟨g, 0, none⟩ 1 c [u] hx rfl ?_ ?_ (by omega) (by unfold maxLen; omega) (by omega) hB w.heap.size rfl ?_
  · intro j y hj
    cases j with
    | zero => simp at hj; subst hj; rw [Addr.add_mid]; exact hc
    | succ j => simp at hj
  · intro y hy
    simp at hy
    subst hy
    exact hu
  · intro g' cap w' h1 h2 h3 h4
    refine h g' cap w' ?_ h2 h3 h4
    unfold OP
    rw [List.length_append]
    exact h1
/-- a number is put behind a row of numbers -/
theorem wpList_appI {ops : Array Oper} {rest : List Oper} {o : Oper} {a : Act} {w : World} {Q : Exit → Act → World → Prop} (hgd : o.guard = none) (s x : Operand)
    (ho : o.op = .call { callee := .builtin .append, args := #[s, x], argTypes := #[55, 55] })
    (B : Nat) (v : Value) (l : List Int) (hs : a.eval s = v) (hown : OI w B v l) (g c : Nat) (y : Int) (hx : a.eval x = .slice (some ⟨g, 0, none⟩) 1 c) (hc : w.cell? ⟨g, 0, none⟩ = some (.int .i64 y))
    (h63 : l.length ≤ 1000000) (hB : B ≤ w.heap.size)
    (h : ∀ g' cap w', OI w' B (.slice (some ⟨g', 0, none⟩) (l.length + 1) cap) (l ++ [y]) → w.grownBy w' v.ownBlock → (v.ownBlock = some g' ∨ g' = w.heap.size) → g' < w'.heap.size → wpList Try.prog ops Q rest (a.put o.dst (.slice (some ⟨g', 0, none⟩) (l.length + 1) cap)) w') : wpList Try.prog ops Q (o :: rest) a w := by
  obtain ⟨i0, hi, hz0, hz1, hz2⟩ := info_parts infoI
  refine wpList_append_lies w hgd s x 55 ho B 3 i0 _ 1 8 Try.underlying55 hi hz0 hz1 hz2 rfl (by decide) v l.length (ic l) hs hown ⟨g, 0, none⟩ 1 c (ic [y]) hx rfl ?_ (ic_one [y]) (by omega) (by unfold maxLen; omega) (by omega) hB w.heap.size rfl ?_
  · intro j u hj
    cases j with
    | zero =>
      simp [ic] at hj
      subst hj
      rw [Addr.add_mid]; exact hc
    | succ j => simp [ic] at hj
  · intro g' cap w' h1 h2 h3 h4
    refine h g' cap w' ?_ h2 h3 h4
    unfold OI
    rw [List.length_append, ic_append]
    exact h1
theorem list_of' {α : Type} {P : Nat → α → Prop} : ∀ (n : Nat), (∀ i, i < n → ∃ z, P i z) → ∃ l : List α, l.length = n ∧ ∀ (i : Nat) z, l[i]? = some z → P i z
  | 0, _ => ⟨[], rfl, by simp⟩
  | n + 1, h => by
    obtain ⟨l, h1, h2⟩ := list_of' n (fun i hi => h i (by omega))
    obtain ⟨z, hz⟩ := h n (by omega)
    refine ⟨l ++ [z], by simp [h1], fun i x hx => ?_⟩
    by_cases hi : i < l.length
    · rw [List.getElem?_append_left hi] at hx; exact h2 i x hx
    · rw [List.getElem?_append_right (by omega)] at hx
      have hi0 : i - l.length = 0 := by
        have := (List.getElem?_eq_some_iff.1 hx).1
        simp at this
        omega
      rw [hi0] at hx
      simp at hx
      subst hx
      have : i = n := by omega
      subst this
      exact hz
section
variable {W W' : World} {B : Nat} {v : Value} {us : List Value}
theorem OP.nil (W : World) (hB : B ≤ W.heap.size) : OP (W.alloc (.cells #[] 55)) B (.slice (some ⟨W.heap.size, 0, none⟩) 0 0) [] :=
  World.ownsRow_lit (e := 55) (size := 1) W #[] 0 hB (by unfold maxLen; omega) (by simp)
theorem OP.len {a : Option Addr} {n cap : Nat} (h : OP W B (.slice a n cap) us) : n = us.length := by
  rcases h.2 with ⟨h1, h2⟩ | ⟨g, c, cur, h1, _⟩
  · cases h1; omega
  · cases h1; rfl
theorem OP.fr {g cap n : Nat} (h : OP W B (.slice (some ⟨g, 0, none⟩) n cap) us) (j : Nat) : W.frozen? ⟨g, j, none⟩ = false := by
  have hn := h.len
  subst hn
  exact World.ownsRow.frozenAt h j
/-- a list is written -/
theorem OP.put {g cap n : Nat} (h : OP W B (.slice (some ⟨g, 0, none⟩) n cap) us) (i : Nat) (u : Value) : OP (W.setCell ⟨g, i, none⟩ u) B (.slice (some ⟨g, 0, none⟩) n cap) (us.set i u) := by
  have hn := h.len
  subst hn
  have := (World.ownsRow.stored h i u).1
  unfold OP
  rw [List.length_set]
  exact this
theorem OP.mono {B' : Nat} (h : OP W B v us) (hB : B' ≤ B) : OP W B' v us := by
  refine ⟨h.1, ?_⟩
  rcases h.2 with h1 | ⟨g, cap, cur, hv, hb, hg⟩
  · exact .inl h1
  · exact .inr ⟨g, cap, cur, hv, by omega, hg⟩
end
/-- the slices of a plan that is read -/
theorem RL.slices {D : Nat → Prop} {W : World} {a : Option Addr} {n cap : Nat} {p : List (List Int)} (h : RL D W (.slice a n cap) p) : ∃ us : List Value, us.length = p.length ∧ (∀ u ∈ us, u.oneCell' = true) ∧ (∀ (i : Nat) u l, us[i]? = some u → p[i]? = some l → RI D W u l) ∧ ∀ ad, a = some ad → ∀ (j : Nat) u, us[j]? = some u → W.cell? (ad.add j) = some u := by
  obtain ⟨us, h1, h2⟩ := list_of' (P := fun i u => ∀ l, p[i]? = some l → RI D W u l ∧ ∀ ad, a = some ad → W.cell? (ad.add i) = some u) p.length (fun i hi => by
    have hl : p[i]? = some p[i] := List.getElem?_eq_getElem hi
    obtain ⟨g, o, rfl, u, hu, hr⟩ := h.at hl
    refine ⟨u, fun l hl' => ?_⟩
    rw [hl] at hl'
    cases hl'
    exact ⟨hr, fun ad e => by cases e; rw [Addr.add_mid]; exact hu⟩)
  have key : ∀ (i : Nat) u, us[i]? = some u → ∃ l, p[i]? = some l ∧ RI D W u l ∧ ∀ ad, a = some ad → W.cell? (ad.add i) = some u := fun i u hu => by
    have hi : i < p.length := by rw [← h1]; exact (List.getElem?_eq_some_iff.1 hu).1
    exact ⟨p[i], List.getElem?_eq_getElem hi, h2 i u hu _ (List.getElem?_eq_getElem hi)⟩
  refine ⟨us, h1, fun u hu => ?_, fun i u l hu hl => (h2 i u hu l hl).1, fun ad e j u hu => ?_⟩
  · obtain ⟨i, hi⟩ := List.getElem?_of_mem hu
    obtain ⟨l, _, hr, _⟩ := key i u hi
    obtain ⟨a', c', rfl, _, _⟩ := hr.form
    rfl
  · obtain ⟨l, _, _, hc⟩ := key j u hu
    exact hc ad e
end Go.Proofs.Ytagmidolcdefiah

/- Which beginnings there are, and what is left of the wants, as the document tells it. -/
namespace Go.Proofs.Ytagmidolcdefiah
open Go.RowKit
/-- which wants stand in a beginning; none: it is no beginning -/
def bgn (s : Sn) (car : Int) (p : List (List Int)) : Option (List Bool) :=
  if (rgt s && decide (p.length = s.cs.length) && decide (0 ≤ car) && decide (car < (p.length : Int)) && (p.drop (car.toNat + 1)).all List.isEmpty) = true then PM.runs (msk s) 0 (List.replicate (msk s).length false) p else none
theorem bgn_not {s : Sn} {car : Int} {p : List (List Int)} (h : ¬ (rgt s = true ∧ p.length = s.cs.length ∧ 0 ≤ car ∧ car < (p.length : Int))) : bgn s car p = none := by
  unfold bgn
  rw [if_neg]
  simp only [Bool.and_eq_true, decide_eq_true_eq]
  exact fun g => h ⟨g.1.1.1.1, g.1.1.1.2, g.1.1.2, g.1.2⟩
/-- a list behind the car that isn't empty -/
theorem bgn_behind {s : Sn} {k c : Nat} {p : List (List Int)} {l : List Int} (hl : p[c]? = some l) (hc : k < c) (hn : l ≠ []) : bgn s (k : Int) p = none := by
  unfold bgn
  rw [if_neg]
  simp only [Bool.and_eq_true, List.all_eq_true]
  intro g
  have := g.2 l (List.mem_of_getElem? (i := c - (k + 1)) (by rw [Int.toNat_natCast, List.getElem?_drop, show k + 1 + (c - (k + 1)) = c by omega]; exact hl))
  exact hn (by simpa using this)
theorem bgn_runs {s : Sn} {k : Nat} {p : List (List Int)} (h1 : rgt s = true) (h2 : p.length = s.cs.length) (h3 : k < p.length) (h4 : ∀ (c : Nat) l, p[c]? = some l → k < c → l = []) : bgn s (k : Int) p = PM.runs (msk s) 0 (List.replicate (msk s).length false) p := by
  unfold bgn
  rw [if_pos]
  simp only [Bool.and_eq_true, decide_eq_true_eq, List.all_eq_true]
  refine ⟨⟨⟨⟨h1, h2⟩, by omega⟩, by omega⟩, fun l hl => ?_⟩
  obtain ⟨i, hi⟩ := List.getElem?_of_mem hl
  rw [Int.toNat_natCast, List.getElem?_drop] at hi
  rw [h4 _ l hi (by omega)]; rfl
theorem bgn_none {s : Sn} {k : Nat} {p : List (List Int)} (h : PM.runs (msk s) 0 (List.replicate (msk s).length false) p = none) : bgn s (k : Int) p = none := by
  unfold bgn
  rw [h]
  split <;> rfl
/-- the wants that are left, of the first k -/
def lfk (st : List Bool) (k : Nat) : List Int := ((List.range k).filter fun w => st[w]? == some false).map fun (w : Nat) => (w : Int)
theorem lfk_succ (st : List Bool) (k : Nat) : lfk st (k + 1) = lfk st k ++ if st[k]? = some false then [(k : Int)] else [] := by
  unfold lfk
  rw [List.range_succ, List.filter_append, List.map_append]
  congr 1
  by_cases h : st[k]? = some false
  · simp [h]
  · simp [h]
theorem lfk_length (st : List Bool) : ∀ (k : Nat), (lfk st k).length ≤ k
  | 0 => Nat.le_refl _
  | k + 1 => by
    rw [lfk_succ, List.length_append]
    have := lfk_length st k
    split <;> simp <;> omega
/-- how often each stands -/
def ctb (st : List Bool) : List Nat := st.map fun b => if b then 1 else 0
theorem ctb_length (st : List Bool) : (ctb st).length = st.length := by unfold ctb; rw [List.length_map]
theorem ctb_get {st : List Bool} {i : Nat} {b : Bool} (h : st[i]? = some b) : (ctb st)[i]? = some (if b then 1 else 0) := by unfold ctb; rw [List.getElem?_map, h]; rfl
theorem ctb_set {st : List Bool} (i : Nat) : (ctb st).set i 1 = ctb (st.set i true) := by unfold ctb; rw [List.map_set]; rfl
theorem ctb_rep (n : Nat) : ctb (List.replicate n false) = List.replicate n 0 := by unfold ctb; rw [List.map_replicate]; rfl
/-- the document's answer -/
structure LP (s : Sn) (car : Int) (p : List (List Int)) (w : World) (e : Ending) (w' : World) : Prop where
  bel : Below w.heap.size w w'
  out : (∃ st v, bgn s car p = some st ∧ e = .returned (.tuple #[v, .bool true]) ∧ OI w' w.heap.size v (lfk st s.ws.length)) ∨ (bgn s car p = none ∧ e = .returned (.tuple #[.slice none 0 0, .bool false]))
set_option maxRecDepth 100000 in
set_option maxHeartbeats 8000000 in
theorem rleft_any (s : Sn) (D : Nat → Prop) (vc vw vp : Value) (car : Int) (p : List (List Int)) (w : World) (hc : R2 D w vc s.cs) (hw : R2 D w vw s.ws) (hp : RL D w vp p) (hpl : p.length ≤ 1000) (hll : ∀ l ∈ p, l.length ≤ 1000) :
    Calls Try.prog 62 #[.agg (nv s.st vc vw).toArray, .int .i64 car, vp] w fun e w' => LP s car p w e w' := by
  have HP : Hid (RL (fun g => g < w.heap.size) w vp p) := hp.mono fun g _ h _ => h
  have HW : Hid (R2 (fun g => g < w.heap.size) w vw s.ws) := hw.mono fun g _ h _ => h
  have hbx := (Below.refl w.heap.size w).alloc (Nat.le_refl _) (.cells (nv s.st vc vw).toArray 27)
  have HR := Hid.intro' (rsnapRight_any s D vc vw _ (hc.below' hbx) (hw.below' hbx))
  have HN := Hid.intro' (NB.new w s.st vc vw)
  have HB := Hid.intro' hbx
  obtain ⟨ac, kc, rfl, _, _⟩ := hc.form
  obtain ⟨aw, kw, rfl, _, _⟩ := hw.form
  obtain ⟨ap, kp, rfl, _, _⟩ := hp.form
  have HLL := Hid.intro' hll
  clear hc hw hp hbx hll
  go_enter Try.func62, Try.ntmps62
  go_wp2_with (refine wpList_load27g rfl _ rfl w.heap.size s.st _ _ rfl HN.out ?_)
  refine HR.out.mono ?_
  rintro e W1 ⟨rfl, hb1⟩
  have HN1 := Hid.intro' (HN.out.below' hb1)
  have HB1 := Hid.intro' (below_class HB.out hb1)
  have HZ1 := Hid.intro' (show w.heap.size < W1.heap.size by have := hb1.size; simp at this; omega)
  clear hb1 HR HN HB
  have HNO : Hid (¬ (rgt s = true ∧ p.length = s.cs.length ∧ 0 ≤ car ∧ car < (p.length : Int)) → ∀ w', Below w.heap.size w w' → LP s car p w (.returned (.tuple #[.slice none 0 0, .bool false])) w') := fun h w' hb => ⟨hb, .inr ⟨bgn_not h, rfl⟩⟩
  have c13 : W1.cell? ⟨w.heap.size, 13, none⟩ = some (.slice ac s.cs.length kc) := HN1.out.cell 13
  have c14 : W1.cell? ⟨w.heap.size, 14, none⟩ = some (.slice aw s.ws.length kw) := HN1.out.cell 14
  cases hr : rgt s with
  | false =>
    have HNO2 := Hid.intro' (HNO.out (fun h => by rw [hr] at h; cases h.1) W1 HB1.out)
    clear hr HNO
    go_wp2
    go_ret2
    exact HNO2.out
  | true =>
    obtain ⟨n, hrs⟩ := rgt_rs hr
    have HRS := Hid.intro' hrs
    have HRR := Hid.intro' hr
    have hcl : s.cs.length = n := hrs.cl
    have hn8 : n ≤ 8 := hrs.n8
    have hwl : s.ws.length ≤ 128 := hrs.wl
    clear hrs hr
    rw [hcl] at c13
    have HCL := Hid.intro' hcl
    clear hcl
    by_cases hpn : p.length = n
    · have q1 : ((p.length : Int) != (n : Int)) = false := by simp; omega
      have HPN := Hid.intro' hpn
      by_cases hc0 : car < 0
      · have HNO2 := Hid.intro' (HNO.out (fun h => by omega) W1 HB1.out)
        clear HNO hpn
        go_wp2
        go_ret2
        exact HNO2.out
      · by_cases hc1 : (p.length : Int) ≤ car
        · have HNO2 := Hid.intro' (HNO.out (fun h => by omega) W1 HB1.out)
          have q2 : decide (car < 0) = false := decide_eq_false hc0
          clear HNO hpn hc0
          go_wp2
          go_ret2
          exact HNO2.out
        · obtain ⟨kar, rfl⟩ : ∃ k : Nat, car = (k : Int) := ⟨car.toNat, by omega⟩
          have q2 : decide ((kar : Int) < 0) = false := decide_eq_false hc0
          have q3 : decide (p.length ≤ kar) = false := decide_eq_false (by omega)
          have HKL := Hid.intro' (show kar < p.length by omega)
          have hmk := mkI s.ws.length (by omega)
          clear hpn hc0 hc1 HNO
          go_wp2_with fail
          have HF2 : Hid (Gq w (W1.alloc (.cells (List.replicate s.ws.length (Value.int .i64 0)).toArray 3)) W1.heap.size s (fun g => g < w.heap.size) (.slice ac s.cs.length kc) (.slice aw s.ws.length kw) (.slice ap p.length kp) p (ctb (List.replicate s.ws.length false))) := by
            have hb2 := (Below.refl W1.heap.size W1).alloc (Nat.le_refl _) (.cells (List.replicate s.ws.length (Value.int .i64 0)).toArray 3)
            refine ⟨HN1.out.below' hb2, HZ1.out, by rw [ctb_rep, nc_rep]; exact World.alloc_heap_new W1 _, HP.out.below' (below_class HB1.out hb2), HW.out.below' (below_class HB1.out hb2), fun _ h => h, below_class HB1.out hb2, by rw [ctb_length]; simp⟩
          rw [List.toArray_replicate] at HF2
          clear c13 c14 q1 q2 q3 hmk HN1 HZ1
          generalize (W1.alloc (.cells (Array.replicate s.ws.length (Value.int .i64 0)) 3)) = W2 at HF2 ⊢
          generalize W1.heap.size = cb at HF2 ⊢
          obtain ⟨R, HR⟩ : ∃ R, Hid (PM.runs (msk s) 0 (List.replicate (msk s).length false) p = R) := ⟨_, Hid.intro' rfl⟩
          have HFN : Hid (R = none → bgn s (kar : Int) p = none) := fun e => by
            show _ = none
            exact bgn_none (by rw [HR.out]; exact e)
          have HML : Hid ((msk s).length = s.ws.length) := HRS.out.mm.len
          go_loopw [9] (fun i wr => ∃ (k : Nat) (st : List Bool), k ≤ p.length ∧ i = .int .i64 (k : Int) ∧ Hid (Gq w wr cb s (fun g => g < w.heap.size) (.slice ac s.cs.length kc) (.slice aw s.ws.length kw) (.slice ap p.length kp) p (ctb st)) ∧
            Hid (R = PM.runs (msk s) k st (p.drop k)) ∧ Hid (∀ (c : Nat) l, p[c]? = some l → kar < c → c < k → l = [])) (fun i _ => p.length - (intOf i).toNat)
          case atStart =>
            refine ⟨0, _, Nat.zero_le _, rfl, HF2, ?_, fun c l _ _ h => by omega⟩
            show R = _
            rw [← HR.out, HML.out, List.drop_zero]
          case round =>
            obtain ⟨k, st, hk, rfl, HF, HI, HE⟩ := hrel
            clear HF2
            by_cases hlt : k < p.length
            · have hkz : (k : Int) < (p.length : Int) := by omega
              obtain ⟨l, hl⟩ : ∃ l, p[k]? = some l := ⟨_, List.getElem?_eq_getElem hlt⟩
              obtain ⟨gp, op, rfl, u, hcu0, hru⟩ := HF.out.rp.at hl
              obtain ⟨au, ku, rfl, _, _⟩ := hru.form
              have HL := Hid.intro' hl
              have hln : l.length ≤ 1000 := HLL.out l (List.mem_of_getElem? hl)
              have HRU3 := Hid.intro' (hru.base HF.out.bel)
              have HCU : Hid (∀ W, Below w.heap.size w W → W.cell? ⟨gp, op + k, none⟩ = some (.slice au l.length ku)) := by
                have hgp : gp < w.heap.size := by
                  obtain ⟨_, _, e, _, _, h⟩ := HF.out.rp
                  cases e
                  rcases h with h | ⟨g', o', e, hd, _⟩
                  · rw [h] at hlt; simp at hlt
                  · cases e; exact hd
                intro W hb
                have h1 := (HF.out.bel.cell (p := ⟨gp, op + k, none⟩) hgp).symm.trans hcu0
                exact (hb.cell (p := ⟨gp, op + k, none⟩) hgp).trans h1
              clear hl hru
              by_cases hkk : kar < k
              · have q7 : decide (kar < k) = true := decide_eq_true hkk
                have hkkz : (kar : Int) < (k : Int) := by omega
                by_cases hle : l = []
                · have HE2 : Hid (∀ (c : Nat) l, p[c]? = some l → kar < c → c < k + 1 → l = []) := fun c m hm h1 h2 => by
                    by_cases e : c = k
                    · subst e; rw [HL.out] at hm; cases hm; exact hle
                    · exact HE.out c m hm h1 (by omega)
                  have q8 : l.length = 0 := by rw [hle]; rfl
                  have q9 : ¬ 0 < l.length := by omega
                  clear hle HE
                  go_wp2_with fail
                  clear hcu0
                  have HK2 : Hid (Lf R (msk s) k st l (p.drop (k + 1))) := by
                    show R = _
                    rw [HI.out, drop_cons HL.out, PM.runs]
                  have hkn : k < n := by have := HPN.out; omega
                  clear HI
                  have HF3 := HF
                  clear HF
                  generalize wr = W3 at HF3 ⊢
                  go_loopw [10] (fun i wr => ∃ (j : Nat) (st : List Bool), j ≤ l.length ∧ i = .int .i64 (j : Int) ∧ Hid (Gq w wr cb s (fun g => g < w.heap.size) (.slice ac s.cs.length kc) (.slice aw s.ws.length kw) (.slice (some ⟨gp, op, none⟩) p.length kp) p (ctb st)) ∧
                    Hid (Lf R (msk s) k st (l.drop j) (p.drop (k + 1)))) (fun i _ => l.length - (intOf i).toNat)
                  case atStart => exact ⟨0, st, Nat.zero_le _, rfl, HF3, HK2⟩
                  case round =>
                    clear HF3 HK2
                    obtain ⟨j, st, hj, rfl, HF, HK⟩ := hrel
                    have hcu := HCU.out wr HF.out.bel
                    by_cases hjl : j < l.length
                    · omega
                    · have hjz : ¬ (j : Int) < (l.length : Int) := by omega
                      have HK2 : Hid (R = PM.runs (msk s) (k + 1) st (p.drop (k + 1))) := by
                        show R = _
                        have h := HK.out
                        unfold Lf at h
                        rw [h, List.drop_of_length_le (by omega), PM.run1]; rfl
                      go_wp2
                      go_roundw
                      case rel => exact ⟨k + 1, st, by omega, by go_num, HF, HK2, HE2⟩
                      case measure => simp [intOf]; omega
                · have HNO := Hid.intro' (bgn_behind (s := s) HL.out hkk hle)
                  have q8 : 0 < l.length := List.length_pos_iff.2 hle
                  have q9 : (0 : Int) < (l.length : Int) := by omega
                  clear hle
                  go_wp2
                  go_ret2
                  exact ⟨HF.out.bel, .inr ⟨HNO.out, rfl⟩⟩
              · have q7 : decide (kar < k) = false := decide_eq_false hkk
                have hkkz : ¬ (kar : Int) < (k : Int) := by omega
                have HE2 : Hid (∀ (c : Nat) l, p[c]? = some l → kar < c → c < k + 1 → l = []) := fun c m hm h1 h2 => by
                  by_cases e : c = k
                  · omega
                  · exact HE.out c m hm h1 (by omega)
                clear HE
                go_wp2_with fail
                clear hcu0
                have HK2 : Hid (Lf R (msk s) k st l (p.drop (k + 1))) := by
                  show R = _
                  rw [HI.out, drop_cons HL.out, PM.runs]
                have hkn : k < n := by have := HPN.out; omega
                clear HI
                have HF3 := HF
                clear HF
                generalize wr = W3 at HF3 ⊢
                go_loopw [10] (fun i wr => ∃ (j : Nat) (st : List Bool), j ≤ l.length ∧ i = .int .i64 (j : Int) ∧ Hid (Gq w wr cb s (fun g => g < w.heap.size) (.slice ac s.cs.length kc) (.slice aw s.ws.length kw) (.slice (some ⟨gp, op, none⟩) p.length kp) p (ctb st)) ∧
                  Hid (Lf R (msk s) k st (l.drop j) (p.drop (k + 1)))) (fun i _ => l.length - (intOf i).toNat)
                case atStart => exact ⟨0, st, Nat.zero_le _, rfl, HF3, HK2⟩
                case round =>
                  clear HF3 HK2
                  obtain ⟨j, st, hj, rfl, HF, HK⟩ := hrel
                  have hcu := HCU.out wr HF.out.bel
                  by_cases hjl : j < l.length
                  · have hjz : (j : Int) < (l.length : Int) := by omega
                    obtain ⟨x, hx⟩ : ∃ x, l[j]? = some x := ⟨_, List.getElem?_eq_getElem hjl⟩
                    obtain ⟨gu, ou, rfl, hcx⟩ := (HRU3.out.below' HF.out.bel).at hx
                    have HDC := Hid.intro' (drop_cons hx)
                    have HK1 : Hid (Lf R (msk s) k st (x :: l.drop (j + 1)) (p.drop (k + 1))) := by
                      have h := HK.out
                      rw [HDC.out] at h
                      exact h
                    have HCT := Hid.intro' HF.out.cl
                    clear HK hx
                    by_cases hx0 : x < 0
                    · have HNO := Hid.intro' (HFN.out (HK1.out.no fun h => by have := (PM.okx_iff.1 h.1).1; omega))
                      go_wp2
                      go_ret2
                      exact ⟨HF.out.bel, .inr ⟨HNO.out, rfl⟩⟩
                    · by_cases hx1 : (s.ws.length : Int) ≤ x
                      · have HNO := Hid.intro' (HFN.out (HK1.out.no fun h => by have := (PM.okx_iff.1 h.1).2.1; have := HML.out; omega))
                        have q1 : decide (x < 0) = false := decide_eq_false hx0
                        clear hx0
                        go_wp2
                        go_ret2
                        exact ⟨HF.out.bel, .inr ⟨HNO.out, rfl⟩⟩
                      · obtain ⟨i, rfl⟩ : ∃ i : Nat, x = (i : Int) := ⟨x.toNat, by omega⟩
                        have hiw : i < s.ws.length := by omega
                        have q1 : decide ((i : Int) < 0) = false := decide_eq_false hx0
                        have q2 : decide ((s.ws.length : Int) ≤ (i : Int)) = false := decide_eq_false hx1
                        have q3 : (i : Int) < (s.ws.length : Int) := by omega
                        obtain ⟨y, hy⟩ : ∃ y, s.ws[i]? = some y := ⟨_, List.getElem?_eq_getElem hiw⟩
                        obtain ⟨z, hz⟩ : ∃ z, st[i]? = some z := ⟨_, List.getElem?_eq_getElem (by have := HCT.out; rw [ctb_length] at this; omega)⟩
                        obtain ⟨m, hm, hym⟩ := HRS.out.mm.eq i y hy
                        have d0 : wr.cell? ⟨cb, i, none⟩ = some (.int .i64 (((if z then 1 else 0 : Nat)) : Int)) := (blk_cell HF.out.hc i).trans (nc_some (ctb_get hz))
                        have hm8 : m ≤ 100000 := by
                          have h1 := HRS.out.lt m (List.mem_of_getElem? hm)
                          have h2 : 2 ^ n ≤ 2 ^ 8 := Nat.pow_le_pow_right (by omega) hn8
                          omega
                        have HMT := Hid.intro' (may_any s _ (.slice ac s.cs.length kc) _ wr HF.out.rw i k m y hy hym hm8 (by omega))
                        have HZ := Hid.intro' hz
                        have HMM := Hid.intro' hm
                        have HNBF := Hid.intro' HF.out.nb
                        clear hx0 hx1 hy hz hm hym
                        cases z with
                        | true =>
                          have d1 : wr.cell? ⟨cb, i, none⟩ = some (.int .i64 1) := d0
                          have HNO := Hid.intro' (HFN.out (HK1.out.no fun h => by have h2 := h.2; rw [Int.toNat_natCast, HZ.out] at h2; cases h2))
                          clear d0
                          go_wp2
                          go_ret2
                          exact ⟨HF.out.bel, .inr ⟨HNO.out, rfl⟩⟩
                        | false =>
                          have d1 : wr.cell? ⟨cb, i, none⟩ = some (.int .i64 0) := d0
                          clear d0
                          go_wp2_with (refine wpList_load27g ?hg _ rfl w.heap.size s.st _ _ rfl HNBF.out ?_; (case hg => go_simp))
                          refine HMT.out.mono ?_
                          rintro e W5 ⟨rfl, hb5⟩
                          have HF5 := Hid.intro' (HF.out.next hb5)
                          clear hb5 HF HMT HNBF hcx hcu d1
                          cases hq : PM.bt m k with
                          | false =>
                            have HNO := Hid.intro' (HFN.out (HK1.out.no fun h => by have h2 := (PM.okx_iff.1 h.1).2.2; rw [Int.toNat_natCast, HMM.out, Option.getD_some, hq] at h2; cases h2))
                            clear hq
                            go_wp2
                            go_ret2
                            exact ⟨HF5.out.bel, .inr ⟨HNO.out, rfl⟩⟩
                          | true =>
                            have HK3 := Hid.intro' (HK1.out.yes ⟨PM.okx_iff.2 ⟨by omega, by have := HML.out; omega, by rw [Int.toNat_natCast, HMM.out, Option.getD_some]; exact hq⟩, by rw [Int.toNat_natCast]; exact HZ.out⟩)
                            rw [Int.toNat_natCast] at HK3
                            have d0 : W5.cell? ⟨cb, i, none⟩ = some (.int .i64 0) := (blk_cell HF5.out.hc i).trans (nc_some (ctb_get HZ.out))
                            have d1 : W5.frozen? ⟨cb, i, none⟩ = false := blk_fr HF5.out.hc i
                            have HF6 := Hid.intro' (HF5.out.put i 1)
                            rw [ctb_set] at HF6
                            change Hid (Gq w (W5.setCell ⟨cb, i, none⟩ (.int .i64 1)) cb s _ _ _ _ p _) at HF6
                            clear HF5 HK1 hq
                            go_wp2
                            go_roundw
                            case rel => exact ⟨j + 1, st.set i true, by omega, by go_num, HF6, HK3⟩
                            case measure => simp [intOf]; omega
                  · have hjz : ¬ (j : Int) < (l.length : Int) := by omega
                    have HK2 : Hid (R = PM.runs (msk s) (k + 1) st (p.drop (k + 1))) := by
                      show R = _
                      have h := HK.out
                      unfold Lf at h
                      rw [h, List.drop_of_length_le (by omega), PM.run1]; rfl
                    go_wp2
                    go_roundw
                    case rel => exact ⟨k + 1, st, by omega, by go_num, HF, HK2, HE2⟩
                    case measure => simp [intOf]; omega
            · have hkz : ¬ (k : Int) < (p.length : Int) := by omega
              have HS : Hid (bgn s (kar : Int) p = some st) := by
                show _ = _
                rw [bgn_runs HRR.out (by have := HPN.out; have := HCL.out; omega) HKL.out (fun c l hl h1 => HE.out c l hl h1 (by have := (List.getElem?_eq_some_iff.1 hl).1; omega)), HR.out, HI.out, List.drop_of_length_le (by omega), PM.runs]
              go_wp2_with fail
              have HCT : Hid (st.length = s.ws.length) := by
                have := HF.out.cl
                rwa [ctb_length] at this
              have hbA := (Below.refl wr.heap.size wr).alloc (Nat.le_refl _) (.cells #[] 3)
              have HO0 : Hid (OI (wr.alloc (.cells #[] 3)) wr.heap.size (.slice (some ⟨wr.heap.size, 0, none⟩) 0 0) []) := OI.lit (B := wr.heap.size) wr [] (Nat.le_refl _) (Nat.zero_le _)
              have HF3 := Hid.intro' (HF.out.next hbA)
              have HGW := HF
              have HFC := Hid.intro' HF.out.hc
              have HBX := Hid.intro' hbA
              have HWW := Hid.intro' HF.out.bel
              clear hbA HI HE
              rename World => Wr
              generalize hX : Wr.alloc (.cells #[] 3) = X at HO0 HF3 HBX ⊢
              clear hX
              go_loopw [12, 13] (fun ov iv wr => ∃ (j : Nat) (g c : Nat), j ≤ s.ws.length ∧ iv = .int .i64 (j : Int) ∧ ov = .slice (some ⟨g, 0, none⟩) (lfk st j).length c ∧ Hid (OI wr Wr.heap.size (.slice (some ⟨g, 0, none⟩) (lfk st j).length c) (lfk st j)) ∧ Hid (Gq w wr cb s (fun g => g < w.heap.size) (.slice ac s.cs.length kc) (.slice aw s.ws.length kw) (.slice ap p.length kp) p (ctb st)) ∧ Hid (Below Wr.heap.size Wr wr)) (fun _ iv _ => s.ws.length - (intOf iv).toNat)
              case atStart => exact ⟨0, _, 0, Nat.zero_le _, rfl, rfl, HO0, HF3, HBX⟩
              case round =>
                obtain ⟨j, g, c, hj, rfl, rfl, HO, HG, HBJ⟩ := hrel
                clear HO0 HF3 HBX HF
                by_cases hjl : j < s.ws.length
                · have hjz : (j : Int) < (s.ws.length : Int) := by omega
                  obtain ⟨z, hz⟩ : ∃ z, st[j]? = some z := ⟨_, List.getElem?_eq_getElem (by rw [HCT.out]; exact hjl)⟩
                  have d0 : wr.cell? ⟨cb, j, none⟩ = some (.int .i64 (((if z then 1 else 0 : Nat)) : Int)) := (blk_cell HG.out.hc j).trans (nc_some (ctb_get hz))
                  have HSU := Hid.intro' (lfk_succ st j)
                  rw [hz] at HSU
                  have HLEN := Hid.intro' (lfk_length st j)
                  have HZJ := Hid.intro' HBJ.out.size
                  cases z with
                  | true =>
                    have d1 : wr.cell? ⟨cb, j, none⟩ = some (.int .i64 1) := d0
                    have HSV : Hid (lfk st (j + 1) = lfk st j) := by
                      show _ = _
                      rw [HSU.out, if_neg (by simp), List.append_nil]
                    clear d0 hz
                    go_wp2
                    go_roundw
                    case rel => exact ⟨j + 1, g, c, by omega, by go_num, by rw [HSV.out], by rw [HSV.out]; exact HO, HG, HBJ⟩
                    case measure => simp [intOf]; omega
                  | false =>
                    have d1 : wr.cell? ⟨cb, j, none⟩ = some (.int .i64 0) := d0
                    have HSV : Hid (lfk st (j + 1) = lfk st j ++ [(j : Int)]) := by
                      show _ = _
                      rw [HSU.out, if_pos rfl]
                    have HOA := Hid.intro' (HO.out.alloc (.cells #[.int .i64 (j : Int)] 3))
                    have HCX : Hid ((wr.alloc (.cells #[.int .i64 (j : Int)] 3)).cell? ⟨wr.heap.size, 0, none⟩ = some (.int .i64 (j : Int))) := by
                      show _ = _
                      rw [cell_of_row _ _ 0 _ _ _ (heap_alloc_new wr _)]; rfl
                    have HCB := Hid.intro' (show cb < Wr.heap.size from (Array.getElem?_eq_some_iff.1 HFC.out).1)
                    clear d0 hz
                    go_wp2_with (at_builtin; refine wpList_appI rfl _ _ rfl Wr.heap.size _ (lfk st j) rfl HOA.out wr.heap.size 1 (j : Int) rfl HCX.out ?qa3 ?qa4 ?_)
                    case qa3 => have := HLEN.out; omega
                    case qa4 => have := HZJ.out; simp; omega
                    intro g' c' W7 ho7 hg7 hat7 hlt7
                    have HO7 : Hid (OI W7 Wr.heap.size (.slice (some ⟨g', 0, none⟩) (lfk st (j + 1)).length c') (lfk st (j + 1))) := by
                      show OI _ _ _ _
                      rw [HSV.out, List.length_append]; exact ho7
                    have hLL : (lfk st j).length + 1 = (lfk st (j + 1)).length := by rw [HSV.out, List.length_append]; rfl
                    rw [hLL]
                    have hbA := (Below.refl wr.heap.size wr).alloc (Nat.le_refl _) (.cells #[.int .i64 (j : Int)] 3)
                    have HB7 := Hid.intro' ((HBJ.out.alloc HZJ.out (.cells #[.int .i64 (j : Int)] 3)).grown hg7 (by have := HZJ.out; simp; omega) (fun q hq => (HO.out.lt q hq).1))
                    have HG7 := Hid.intro' (HGW.out.next HB7.out)
                    clear ho7 hg7 hat7 hlt7 hbA HOA HCX d1 hLL
                    go_wp2
                    go_roundw
                    case rel => exact ⟨j + 1, g', c', by omega, by go_num, rfl, HO7, HG7, HB7⟩
                    case measure => simp [intOf]; omega
                · have hjz : ¬ (j : Int) < (s.ws.length : Int) := by omega
                  have HE2 : Hid (OI wr w.heap.size (.slice (some ⟨g, 0, none⟩) (lfk st j).length c) (lfk st s.ws.length)) := by
                    show OI _ _ _ _
                    have h1 := HO.out
                    rw [show j = s.ws.length by omega] at h1 ⊢
                    exact h1.mono HWW.out.size
                  have HBE := Hid.intro' (below_class HWW.out HBJ.out)
                  go_wp2
                  go_ret2
                  exact ⟨HBE.out, .inl ⟨st, _, HS.out, rfl, HE2.out⟩⟩
    · have q1 : ((p.length : Int) != (n : Int)) = true := by simp; omega
      have HNO2 := Hid.intro' (HNO.out (fun h => by have := HCL.out; omega) W1 HB1.out)
      clear hpn HNO
      go_wp2
      go_ret2
      exact HNO2.out
end Go.Proofs.Ytagmidolcdefiah

/- The least cost of a beginning, as the document reckons it: mathematics. -/
namespace Go.Proofs.Ytagmidolcdefiah
open Go.RowKit
namespace RM
section
variable {s : St} {ws cs : List (Int × Int)} {b : List (List Int)} {f : Int} {m k : Nat}
/-- the times of the cars from k on, ahead of c -/
def opk (s : St) (ws cs : List (Int × Int)) (b : List (List Int)) (f : Int) (m k c : Nat) : List Int := ops s ws f m k ((cs.take c).drop k) ((b.take c).drop k)
theorem ops_append : ∀ {cs cs' : List (Int × Int)} {b b' : List (List Int)} {k : Nat}, cs.length = b.length → ops s ws f m k (cs ++ cs') (b ++ b') = ops s ws f m k cs b ++ ops s ws f m (k + cs.length) cs' b'
  | [], cs', [], b', k, _ => by simp [ops]
  | [], _, _ :: _, _, _, h => by simp at h
  | _ :: _, _, [], _, _, h => by simp at h
  | r :: cs, cs', l :: b, b', k, h => by
    have ih := ops_append (cs := cs) (cs' := cs') (b := b) (b' := b') (k := k + 1) (by simpa using h)
    rw [List.cons_append, List.cons_append, ops, ops, ih, List.length_cons, show k + 1 + cs.length = k + (cs.length + 1) by omega]
    split <;> simp
theorem opk_start : opk s ws cs b f m k k = [] := by
  unfold opk
  rw [List.drop_of_length_le (by simp; omega)]
  unfold ops
  rfl
theorem opk_succ {c : Nat} {r : Int × Int} {l : List Int} (hl : cs.length = b.length) (hk : k ≤ c) (hc : cs[c]? = some r) (hb : b[c]? = some l) : opk s ws cs b f m k (c + 1) = opk s ws cs b f m k c ++ if PM.bt m c = true then [ar s (go s (bg r) (l.map (wf ws))) f] else [] := by
  unfold opk
  have hcl := (List.getElem?_eq_some_iff.1 hc).1
  have e1 : (cs.take (c + 1)).drop k = (cs.take c).drop k ++ [r] := by rw [List.take_add_one, hc, Option.toList_some, List.drop_append_of_le_length (by rw [List.length_take]; omega)]
  have e2 : (b.take (c + 1)).drop k = (b.take c).drop k ++ [l] := by rw [List.take_add_one, hb, Option.toList_some, List.drop_append_of_le_length (by rw [List.length_take]; omega)]
  rw [e1, e2, ops_append (by rw [List.length_drop, List.length_drop, List.length_take, List.length_take, hl])]
  congr 1
  rw [List.length_drop, List.length_take, show k + (min c cs.length - k) = c by omega]
  unfold ops
  split <;> simp [ops]
theorem opk_end {c : Nat} (h1 : cs.length ≤ c) (h2 : b.length ≤ c) : opk s ws cs b f m k c = ops s ws f m k (cs.drop k) (b.drop k) := by
  unfold opk
  rw [List.take_of_length_le h1, List.take_of_length_le h2]
end
/-- the least one, or -1 -/
def lm (l : List Int) : Int := (lo l).getD (-1)
theorem lo_snoc (l : List Int) (t : Int) : lo (l ++ [t]) = some (match lo l with | none => t | some a => min a t) := by
  cases l with
  | nil => rfl
  | cons a l => simp [lo, List.foldl_append]
theorem lm_snoc {l : List Int} {t : Int} (h : ∀ x ∈ l, 0 ≤ x) : lm (l ++ [t]) = if lm l < 0 ∨ t < lm l then t else lm l := by
  unfold lm
  rw [lo_snoc]
  cases e : lo l with
  | none => rw [if_pos (.inl (by decide))]; rfl
  | some a =>
    have ha := h a (lo_some.1 e).1
    show min a t = if a < 0 ∨ t < a then t else a
    split <;> omega
theorem lm_neg {l : List Int} (h : ∀ x ∈ l, 0 ≤ x) : lm l < 0 ↔ l = [] := by
  unfold lm
  cases e : lo l with
  | none => rw [lo_none] at e; simp [e]
  | some a =>
    have ha := h a (lo_some.1 e).1
    constructor
    · intro hh
      have : a < 0 := hh
      omega
    · intro hh
      rw [hh] at e
      cases e
theorem lm_low {l : List Int} (h : l ≠ []) : lm l = low l := by
  unfold lm low
  cases e : lo l with
  | none => exact absurd (lo_none.1 e) h
  | some a => rfl
theorem ops_bd {s : St} {ws cs : List (Int × Int)} {b : List (List Int)} {f : Int} {m k : Nat} (z : Rz s ws cs) (hb : ∀ x ∈ b.flatten, 0 ≤ x ∧ x < ws.length) (hc : ∀ r ∈ cs, r.2 ≤ 1000000) (hl : ∀ l ∈ b, l.length ≤ 1000) {c : Nat} : ∀ t ∈ opk s ws cs b f m k c, 0 ≤ t ∧ t ≤ 80000000 := fun t ht => by
  unfold opk at ht
  obtain ⟨i, r, l, h1, h2, _, rfl⟩ := ops_mem.1 ht
  have hr : r ∈ cs := List.mem_of_mem_take (List.mem_of_mem_drop (List.mem_of_getElem? h1))
  have hlb : l ∈ b := List.mem_of_mem_take (List.mem_of_mem_drop (List.mem_of_getElem? h2))
  have hin := z.inn (l := l) fun x hx => hb x (List.mem_flatten.2 ⟨l, hlb, hx⟩)
  have ok0 := z.cr r hr
  have ok := go_ok z.rt ok0 hin
  have g1 := ar_nn z.rt ok f
  have g2 := ar_le z.rt ok f
  have g3 := go_le z.rt ok0 hin
  have g4 := hc r hr
  have g5 := hl l hlb
  rw [List.length_map] at g3
  have g7 : (bg r).le = r.2 := rfl
  omega
/-- lists that are empty cost nothing -/
theorem cst_take {s : St} {ws : List (Int × Int)} : ∀ {cs : List (Int × Int)} {p : List (List Int)} {k : Nat}, (∀ (c : Nat) l, p[c]? = some l → k ≤ c → l = []) → prs s ws cs p = prs s ws (cs.take k) (p.take k)
  | [], _, _, _ => by simp [prs]
  | _ :: _, [], _, _ => by simp [prs]
  | r :: cs, l :: p, 0, h => by
    have h0 : l = [] := h 0 l rfl (Nat.zero_le _)
    have ih := cst_take (s := s) (ws := ws) (cs := cs) (p := p) (k := 0) fun c m hm _ => h (c + 1) m (by simpa using hm) (Nat.zero_le _)
    rw [List.take_zero, List.take_zero] at ih ⊢
    show pr1 s ws r l ++ prs s ws cs p = _
    rw [ih, h0]; rfl
  | r :: cs, l :: p, k + 1, h => by
    have ih := cst_take (s := s) (ws := ws) (cs := cs) (p := p) (k := k) fun c m hm hc => h (c + 1) m (by simpa using hm) (by omega)
    rw [List.take_succ_cons, List.take_succ_cons]
    show pr1 s ws r l ++ prs s ws cs p = pr1 s ws r l ++ prs s ws (cs.take k) (p.take k)
    rw [ih]
end RM
/-- the times that a want may have, of a beginning -/
def optw (s : Sn) (k : Nat) (p : List (List Int)) (w : Nat) : List Int := RM.opt s.st s.ws s.cs (msk s) k p w
/-- the least cost of a beginning -/
def lsv (s : Sn) (k : Nat) (p : List (List Int)) (st : List Bool) : Int :=
  if ((lfk st s.ws.length).all fun x => !(optw s k p x.toNat).isEmpty) = true then RM.cst s.st s.ws s.cs p + ((lfk st s.ws.length).map fun x => RM.low (optw s k p x.toNat)).sum else 1099511627776
theorem lfk_mem {st : List Bool} {k : Nat} {x : Int} : x ∈ lfk st k ↔ ∃ w : Nat, x = (w : Int) ∧ w < k ∧ st[w]? = some false := by
  unfold lfk
  rw [List.mem_map]
  constructor
  · rintro ⟨w, hw, rfl⟩
    rw [List.mem_filter, List.mem_range] at hw
    exact ⟨w, rfl, hw.1, by simpa using hw.2⟩
  · rintro ⟨w, rfl, h1, h2⟩
    exact ⟨w, List.mem_filter.2 ⟨List.mem_range.2 h1, by simp [h2]⟩, rfl⟩
theorem lfk_sum {st : List Bool} {f : Nat → Int} : ∀ (k : Nat), ((lfk st k).map fun x => f x.toNat).sum = RM.sr k fun w => if st[w]? = some false then f w else 0
  | 0 => rfl
  | k + 1 => by
    rw [lfk_succ, List.map_append, List.sum_append, lfk_sum k, RM.sr]
    congr 1
    split
    · simp
    · simp
end Go.Proofs.Ytagmidolcdefiah
