/- The least cost of a beginning, as the document reckons it: the walk. -/
import Derived.Test.YtagmidolcdefiahPk6
namespace Go.Proofs.Ytagmidolcdefiah
open Go.RowKit
set_option maxRecDepth 100000 in
set_option maxHeartbeats 8000000 in
theorem rleast_any (s : Sn) (D : Nat → Prop) (vc vw vp vl : Value) (k : Nat) (p : List (List Int)) (st : List Bool) (w : World) (hc : R2 D w vc s.cs) (hw : R2 D w vw s.ws) (hp : RL D w vp p) (hlf : RI D w vl (lfk st s.ws.length)) (hb : bgn s (k : Int) p = some st) (hll : ∀ l ∈ p, l.length ≤ 1000) (T : Int) (HTT : Hid (lsv s k p st = T)) :
    Calls Try.prog 63 #[.agg (nv s.st vc vw).toArray, .int .i64 (k : Int), vp, vl] w fun e w' => e = .returned (.int .i64 T) ∧ Below w.heap.size w w' := by
  have HBS := Hid.intro' (bgn_bs hb)
  have hbx := (Below.refl w.heap.size w).alloc (Nat.le_refl _) (.cells (nv s.st vc vw).toArray 27)
  have HN := Hid.intro' (NB.new w s.st vc vw)
  have HB := Hid.intro' hbx
  have HC := Hid.intro' (hc.below' hbx)
  have HW := Hid.intro' (hw.below' hbx)
  have HP := Hid.intro' (hp.below' hbx)
  have HLF := Hid.intro' (hlf.below' hbx)
  obtain ⟨ac, kc, rfl, _, _⟩ := hc.form
  obtain ⟨aw, kw, rfl, _, _⟩ := hw.form
  obtain ⟨ap, kp, rfl, _, _⟩ := hp.form
  obtain ⟨alf, klf, rfl, _, _⟩ := hlf.form
  have HLL := Hid.intro' hll
  have hp8 : p.length ≤ 8 := (bgn_bs hb).p8
  have hkl : k < p.length := (bgn_bs hb).kl
  have HLN := Hid.intro' (lfk_length st s.ws.length)
  have hwl : s.ws.length ≤ 128 := (bgn_bs hb).wl
  clear hc hw hp hlf hbx hll hb
  go_enter Try.func63, Try.ntmps63
  go_wp2_with fail
  generalize w.alloc (.cells (nv s.st (.slice ac s.cs.length kc) (.slice aw s.ws.length kw)).toArray 27) = X at HN HB HC HW HP HLF ⊢
  go_loopw [9, 10] (fun nv iv wr => ∃ c : Nat, c ≤ k + 1 ∧ iv = .int .i64 (c : Int) ∧ nv = .int .i64 (sm1 s p c) ∧ Hid (Below X.heap.size X wr)) (fun _ iv _ => k + 1 - (intOf iv).toNat)
  case atStart => exact ⟨0, Nat.zero_le _, rfl, by unfold sm1; simp [RM.prs], Below.refl _ _⟩
  case round =>
    obtain ⟨c, hck, rfl, rfl, HBC⟩ := hrel
    by_cases hlt : c ≤ k
    · have hcz : (c : Int) ≤ (k : Int) := by omega
      have hcp : c < p.length := by omega
      obtain ⟨l, hl⟩ : ∃ l, p[c]? = some l := ⟨_, List.getElem?_eq_getElem hcp⟩
      obtain ⟨r, hr⟩ : ∃ r, s.cs[c]? = some r := ⟨_, List.getElem?_eq_getElem (by have := HBS.out.pc; omega)⟩
      have HL := Hid.intro' hl
      have HR := Hid.intro' hr
      have hln : l.length ≤ 1000 := HLL.out l (List.mem_of_getElem? hl)
      have HLX : Hid (∀ x ∈ l, 0 ≤ x ∧ x < s.ws.length) := fun x hx => HBS.out.fr x (List.mem_flatten.2 ⟨l, List.mem_of_getElem? HL.out, hx⟩)
      have hcpz : (c : Int) < (p.length : Int) := by omega
      clear hl hr
      go_wp2_with fail
      generalize wr = W3 at HBC ⊢
      go_loopw [9, 11] (fun nv iv wr => ∃ j : Nat, j ≤ l.length ∧ iv = .int .i64 (j : Int) ∧ nv = .int .i64 (sm2 s p r l c j) ∧ Hid (Below X.heap.size X wr)) (fun _ iv _ => l.length - (intOf iv).toNat)
      case atStart => exact ⟨0, Nat.zero_le _, rfl, by rw [sm2_zero], HBC⟩
      case round =>
        clear HBC
        obtain ⟨j, hj, rfl, rfl, HBJ⟩ := hrel
        obtain ⟨gp, op, rfl, u, hcu, hru⟩ := (HP.out.below' HBJ.out).at HL.out
        obtain ⟨au, ku, rfl, _, _⟩ := hru.form
        have HRU := Hid.intro' hru
        have HCU := Hid.intro' hcu
        by_cases hjl : j < l.length
        · have hjz : (j : Int) < (l.length : Int) := by omega
          obtain ⟨x, hx⟩ : ∃ x, l[j]? = some x := ⟨_, List.getElem?_eq_getElem hjl⟩
          obtain ⟨t, HT⟩ : ∃ T, Hid (RM.ar s.st (RM.go s.st (RM.bg r) ((l.take j).map (RM.wf s.ws))) (RM.wf s.ws x) = T) := ⟨_, Hid.intro' rfl⟩
          have HNB : Hid (∀ w', Below wr.heap.size wr w' → NB w' w.heap.size s.st (.slice ac s.cs.length kc) (.slice aw s.ws.length kw)) := fun w' hw => (HN.out.below' HBJ.out).below' hw
          have HCW : Hid (∀ w', Below wr.heap.size wr w' → w'.cell? ⟨gp, op + c, none⟩ = some (.slice au l.length ku)) := fun w' hw => (hw.cell (p := ⟨gp, op + c, none⟩) (cell_lt HCU.out)).trans HCU.out
          have HTM : Hid (∀ w', Below wr.heap.size wr w' → Calls Try.prog 64 #[.agg (nv s.st (.slice ac s.cs.length kc) (.slice aw s.ws.length kw)).toArray, .int .i64 (c : Int), .slice au l.length ku, .int .i64 (j : Int)] w' fun e w'' => e = .returned (.int .i64 t) ∧ Below w'.heap.size w' w'') := fun w' hw => by
            have hb := below_class HBJ.out hw
            exact rtime_at s _ _ _ _ c j r l w' (HC.out.below' hb) (HW.out.below' hb) (HRU.out.below' hw) HR.out x hx HBS.out.rz HLX.out (by omega) (by have := HBS.out.af r (List.mem_of_getElem? HR.out); omega) t HT
          have HSU := Hid.intro' (sm2_succ (s := s) (p := p) (r := r) (k := c) hx)
          rw [HT.out] at HSU
          have hb1 := sm2_bd HBS.out HLL.out (j := j + 1) HR.out HL.out
          rw [HSU.out] at hb1
          have hw1 : IntKind.i64.wrap (sm2 s p r l c j + t) = sm2 s p r l c j + t := IntWalk.i64_in _ (by omega)
          clear hx hb1
          go_wp2_with fail
          clear hcu
          refine wp_region_quiet (C := fun w' => Below wr.heap.size wr w') (by kernel_rfl) (by kernel_rfl) ((Below.refl _ _).drew) ?_
          simp only []
          unfold wpQuiet
          generalize hK : wpQuiet Try.prog _ _ _ _ = K
          go_simp
          refine ⟨_, fun _ _ => rfl, ?_⟩
          subst hK
          unfold wpQuiet
          generalize hK : wpQuiet Try.prog _ _ _ _ = K
          rw [if_pos (by go_simp)]
          refine quiet_load27 _ w.heap.size s.st _ _ rfl rfl HNB.out ?_
          go_simp
          subst hK
          unfold wpQuiet
          generalize hK : wpQuiet Try.prog _ _ _ _ = K
          go_simp
          refine ⟨_, fun _ _ => rfl, ?_⟩
          subst hK
          unfold wpQuiet
          generalize hK : wpQuiet Try.prog _ _ _ _ = K
          go_simp
          refine ⟨_, fun _ _ => rfl, ?_⟩
          subst hK
          unfold wpQuiet
          generalize hK : wpQuiet Try.prog _ _ _ _ = K
          go_simp
          refine ⟨_, fun _ _ => rfl, ?_⟩
          subst hK
          unfold wpQuiet
          generalize hK : wpQuiet Try.prog _ _ _ _ = K
          rw [if_pos (by go_simp)]
          refine quiet_ixP _ _ rfl rfl rfl hcp ?_
          go_simp
          subst hK
          unfold wpQuiet
          generalize hK : wpQuiet Try.prog _ _ _ _ = K
          rw [if_pos (by go_simp)]
          refine quiet_loadLI _ _ _ rfl rfl HCW.out ?_
          go_simp
          subst hK
          unfold wpQuiet
          generalize hK : wpQuiet Try.prog _ _ _ _ = K
          go_simp
          refine ⟨_, fun _ _ => rfl, ?_⟩
          subst hK
          unfold wpQuiet
          generalize hK : wpQuiet Try.prog _ _ _ _ = K
          go_simp
          refine ⟨_, fun w' hw => (HTM.out w' hw).mono fun e w'' hh => ⟨hh.1, below_class hw hh.2⟩, ?_⟩
          subst hK
          unfold wpQuiet
          generalize hK : wpQuiet Try.prog _ _ _ _ = K
          go_simp
          refine ⟨_, fun _ _ => rfl, ?_⟩
          subst hK
          unfold wpQuiet
          generalize hK : wpQuiet Try.prog _ _ _ _ = K
          go_simp
          refine ⟨_, fun _ _ => rfl, ?_⟩
          subst hK
          refine wpQuiet_nil ?_
          intro W5 hb5
          have HB5 := Hid.intro' (below_class HBJ.out hb5)
          clear hb5 HNB HCW HTM HCU HRU
          go_wp2
          go_roundw
          case rel => exact ⟨j + 1, by omega, by go_num, by rw [HSU.out], HB5⟩
          case measure => simp [intOf]; omega
        · have hjz : ¬ (j : Int) < (l.length : Int) := by omega
          have HSE : Hid (sm2 s p r l c j = sm1 s p (c + 1)) := by
            show _ = _
            rw [show j = l.length by omega, sm2_end HR.out HL.out]
          go_wp2
          go_roundw
          case rel => exact ⟨c + 1, by omega, by go_num, by rw [HSE.out], HBJ⟩
          case measure => simp [intOf]; omega
    · have hcz : ¬ (c : Int) ≤ (k : Int) := by omega
      have HSE : Hid (sm1 s p c = RM.cst s.st s.ws s.cs p) := by
        show _ = _
        rw [show c = k + 1 by omega, sm1_end HBS.out]
      have HCB : Hid (0 ≤ RM.cst s.st s.ws s.cs p ∧ RM.cst s.st s.ws s.cs p ≤ 800000000000) := by
        obtain ⟨l, hl⟩ : ∃ l, p[k]? = some l := ⟨_, List.getElem?_eq_getElem hkl⟩
        obtain ⟨r, hr⟩ : ∃ r, s.cs[k]? = some r := ⟨_, List.getElem?_eq_getElem (by have := HBS.out.pc; omega)⟩
        have := sm2_bd HBS.out HLL.out (j := l.length) hr hl
        rw [sm2_end hr hl, sm1_end HBS.out] at this
        exact this
      obtain ⟨cst, HCE⟩ : ∃ c, Hid (RM.cst s.st s.ws s.cs p = c) := ⟨_, Hid.intro' rfl⟩
      rw [HSE.out]
      rw [HCE.out] at HCB HSE ⊢
      go_wp2_with fail
      clear hcz hlt hck
      rename World => Wq
      have HLM : Hid (∀ x ∈ lfk st s.ws.length, ∃ q : Nat, x = (q : Int) ∧ q < s.ws.length ∧ st[q]? = some false) := fun x hx => lfk_mem.1 hx
      have HLS : Hid (((lfk st s.ws.length).all fun x => !(optw s k p x.toNat).isEmpty) = true → T = cst + ((lfk st s.ws.length).map fun x => RM.low (optw s k p x.toNat)).sum) := fun h => by
        show T = _
        rw [← HTT.out, ← HCE.out]; unfold lsv; rw [if_pos h]
      have HLZ : Hid (¬ ((lfk st s.ws.length).all fun x => !(optw s k p x.toNat).isEmpty) = true → T = 1099511627776) := fun h => by
        show T = _
        rw [← HTT.out]; unfold lsv; rw [if_neg h]
      generalize lfk st s.ws.length = LF at HLF HLN HLM HLS HLZ ⊢
      have hlfn : LF.length ≤ 128 := by have := HLN.out; omega
      go_loopw [9, 12] (fun nv iv wr => ∃ (j : Nat) (t : Int), j ≤ LF.length ∧ iv = .int .i64 (j : Int) ∧ nv = .int .i64 t ∧ Hid (t = cst + ((LF.take j).map fun x => RM.low (optw s k p x.toNat)).sum) ∧ Hid (∀ x ∈ LF.take j, optw s k p x.toNat ≠ []) ∧ Hid (0 ≤ t ∧ t ≤ 800000000000 + 80000000 * (j : Int)) ∧ Hid (Below X.heap.size X wr)) (fun _ iv _ => LF.length - (intOf iv).toNat)
      case atStart => exact ⟨0, cst, Nat.zero_le _, rfl, rfl, by show _ = _; simp, fun x hx => by simp at hx, by show 0 ≤ cst ∧ _; have := HCB.out; omega, HBC⟩
      case round =>
        obtain ⟨j, t, hj, rfl, rfl, HT, HNE, HTB, HBJ⟩ := hrel
        clear HBC
        by_cases hjl : j < LF.length
        · have hjz : (j : Int) < (LF.length : Int) := by omega
          obtain ⟨x, hx⟩ : ∃ x, LF[j]? = some x := ⟨_, List.getElem?_eq_getElem hjl⟩
          obtain ⟨q, rfl, hqn, hqs⟩ := HLM.out x (List.mem_of_getElem? hx)
          obtain ⟨y, hy⟩ : ∃ y, s.ws[q]? = some y := ⟨_, List.getElem?_eq_getElem hqn⟩
          obtain ⟨n8, hrs⟩ := rgt_rs HBS.out.rg
          obtain ⟨m, hm, hym⟩ := hrs.mm.eq q y hy
          have hm8 : m ≤ 100000 := by
            have h1 := hrs.lt m (List.mem_of_getElem? hm)
            have h2 : 2 ^ n8 ≤ 2 ^ 8 := Nat.pow_le_pow_right (by omega) hrs.n8
            omega
          have HWF : Hid (RM.wf s.ws (q : Int) = y.1) := RM.wf_get hy
          have HOP : Hid (optw s k p q = RM.opk s.st s.ws s.cs p y.1 m k p.length) := by
            show _ = _
            unfold optw RM.opt
            rw [RM.opk_end (by have := HBS.out.pc; omega) (Nat.le_refl _), HWF.out, hm]; rfl
          have HOB : Hid (∀ c, ∀ t ∈ RM.opk s.st s.ws s.cs p y.1 m k c, 0 ≤ t ∧ t ≤ 80000000) := fun c => RM.ops_bd HBS.out.rz HBS.out.fr HBS.out.af HLL.out
          have HX := Hid.intro' hx
          have HY := Hid.intro' hy
          have HYM := Hid.intro' hym
          obtain ⟨glf, olf, rfl, hclf⟩ := HLF.out.at hx
          have HCLF : Hid (∀ W, Below X.heap.size X W → W.cell? ⟨glf, olf + j, none⟩ = some (.int .i64 (q : Int))) := fun W hb => (hb.cell (p := ⟨glf, olf + j, none⟩) (cell_lt hclf)).trans hclf
          clear hx hy hm hym hqs hrs hclf
          go_wp2_with fail
          go_loopw [13, 14] (fun lv iv wr => ∃ c : Nat, k ≤ c ∧ c ≤ p.length ∧ iv = .int .i64 (c : Int) ∧ lv = .int .i64 (RM.lm (RM.opk s.st s.ws s.cs p y.1 m k c)) ∧ Hid (Below X.heap.size X wr)) (fun _ iv _ => p.length - (intOf iv).toNat)
          case atStart => exact ⟨k, Nat.le_refl _, by omega, rfl, by rw [RM.opk_start]; rfl, HBJ⟩
          case round =>
            obtain ⟨c, hkc, hcp, rfl, rfl, HBC⟩ := hrel
            clear HBJ
            by_cases hlt : c < p.length
            · have hcz : (c : Int) < (p.length : Int) := by omega
              obtain ⟨l, hl⟩ : ∃ l, p[c]? = some l := ⟨_, List.getElem?_eq_getElem hlt⟩
              obtain ⟨r, hr⟩ : ∃ r, s.cs[c]? = some r := ⟨_, List.getElem?_eq_getElem (by have := HBS.out.pc; omega)⟩
              have HSU := Hid.intro' (RM.opk_succ (s := s.st) (ws := s.ws) (f := y.1) (m := m) HBS.out.pc hkc hr hl)
              have hln : l.length ≤ 1000 := HLL.out l (List.mem_of_getElem? hl)
              have HL := Hid.intro' hl
              have HR := Hid.intro' hr
              have HNB : Hid (∀ w', Below wr.heap.size wr w' → NB w' w.heap.size s.st (.slice ac s.cs.length kc) (.slice aw s.ws.length kw)) := fun w' hw => (HN.out.below' HBC.out).below' hw
              have HLC : Hid (∀ w', Below wr.heap.size wr w' → w'.cell? ⟨glf, olf + j, none⟩ = some (.int .i64 (q : Int))) := fun w' hw => HCLF.out w' (below_class HBC.out hw)
              have HMY : Hid (∀ w', Below wr.heap.size wr w' → Calls Try.prog 33 #[.agg (nv s.st (.slice ac s.cs.length kc) (.slice aw s.ws.length kw)).toArray, .int .i64 (q : Int), .int .i64 (c : Int)] w' fun e w'' => e = .returned (.bool (PM.bt m c)) ∧ Below w'.heap.size w' w'') := fun w' hw => may_any s _ _ _ w' (HW.out.below' (below_class HBC.out hw)) q c m y HY.out HYM.out hm8 (by omega)
              clear hl hr
              go_wp2_with fail
              refine wp_region_quiet (C := fun w' => Below wr.heap.size wr w') (by kernel_rfl) (by kernel_rfl) ((Below.refl _ _).drew) ?_
              simp only []
              unfold wpQuiet
              generalize hK : wpQuiet Try.prog _ _ _ _ = K
              rw [if_pos (by go_simp)]
              refine quiet_load27 _ w.heap.size s.st _ _ rfl rfl HNB.out ?_
              go_simp
              subst hK
              unfold wpQuiet
              generalize hK : wpQuiet Try.prog _ _ _ _ = K
              go_simp
              refine ⟨_, fun _ _ => rfl, ?_⟩
              subst hK
              unfold wpQuiet
              generalize hK : wpQuiet Try.prog _ _ _ _ = K
              go_simp
              refine ⟨_, fun _ _ => rfl, ?_⟩
              subst hK
              unfold wpQuiet
              generalize hK : wpQuiet Try.prog _ _ _ _ = K
              rw [if_pos (by go_simp)]
              refine quiet_ixI _ _ rfl rfl rfl hjl ?_
              go_simp
              subst hK
              unfold wpQuiet
              generalize hK : wpQuiet Try.prog _ _ _ _ = K
              rw [if_pos (by go_simp)]
              refine quiet_load3 _ _ _ rfl rfl HLC.out ?_
              go_simp
              subst hK
              unfold wpQuiet
              generalize hK : wpQuiet Try.prog _ _ _ _ = K
              go_simp
              refine ⟨_, fun _ _ => rfl, ?_⟩
              subst hK
              unfold wpQuiet
              generalize hK : wpQuiet Try.prog _ _ _ _ = K
              go_simp
              refine ⟨_, fun w' hw => (HMY.out w' hw).mono fun e w'' hh => ⟨hh.1, below_class hw hh.2⟩, ?_⟩
              subst hK
              unfold wpQuiet
              generalize hK : wpQuiet Try.prog _ _ _ _ = K
              go_simp
              refine ⟨_, fun _ _ => rfl, ?_⟩
              subst hK
              refine wpQuiet_nil ?_
              intro W5 hb5
              have HB5 := Hid.intro' (below_class HBC.out hb5)
              clear hb5 HNB HLC HMY HBC
              cases hbt : PM.bt m c with
              | false =>
                rw [hbt] at HSU
                have HSV : Hid (RM.opk s.st s.ws s.cs p y.1 m k (c + 1) = RM.opk s.st s.ws s.cs p y.1 m k c) := by
                  show _ = _
                  rw [HSU.out]; simp
                clear hbt
                go_wp2
                go_roundw
                case rel => exact ⟨c + 1, by omega, by omega, by go_num, by rw [HSV.out], HB5⟩
                case measure => simp [intOf]; omega
              | true =>
                rw [hbt, if_pos rfl] at HSU
                clear hbt
                obtain ⟨gp, op, rfl, u, hcu, hru⟩ := (HP.out.below' HB5.out).at HL.out
                obtain ⟨au, ku, rfl, _, _⟩ := hru.form
                have HRU := Hid.intro' hru
                have HCU := Hid.intro' hcu
                clear hru hcu
                have HDR : Hid (∀ w', Below W5.drew.heap.size W5.drew w' → Below W5.heap.size W5 w') := fun w' hw => ((Below.refl _ W5).drew).trans hw
                have HCW : Hid (∀ w', Below W5.drew.heap.size W5.drew w' → w'.cell? ⟨gp, op + c, none⟩ = some (.slice au l.length ku)) := fun w' hw => ((HDR.out w' hw).cell (p := ⟨gp, op + c, none⟩) (cell_lt HCU.out)).trans HCU.out
                have HLC : Hid (∀ w', Below W5.drew.heap.size W5.drew w' → w'.cell? ⟨glf, olf + j, none⟩ = some (.int .i64 (q : Int))) := fun w' hw => HCLF.out w' (below_class HB5.out (HDR.out w' hw))
                go_wp2_with fail
                refine wp_region_rows 12 [0, 5, 10, 11] [(5, 0), (11, 5)] (fun j v w => OI w W5.drew.heap.size v (if j = 0 then [] else if j = 5 then l else if j = 10 then [(q : Int)] else l ++ [(q : Int)])) (by kernel_rfl) (by kernel_rfl) (rowsI_ok _ _) ?_
                conv => arg 5; simp [calmL]
                unfold wpCalm
                generalize hK : wpCalm Try.prog _ _ _ _ = K
                unfold Oper.calm
                go_simp
                refine ⟨_, fun _ _ => rfl, ?_⟩
                subst hK
                unfold wpCalm
                generalize hK : wpCalm Try.prog _ _ _ _ = K
                unfold Oper.calm
                go_simp
                refine ⟨_, fun _ _ => rfl, ?_⟩
                subst hK
                unfold wpCalm
                generalize hK : wpCalm Try.prog _ _ _ _ = K
                rw [if_pos (by go_simp)]
                refine calm_ixP _ _ rfl rfl rfl hlt ?_
                go_simp
                subst hK
                unfold wpCalm
                generalize hK : wpCalm Try.prog _ _ _ _ = K
                rw [if_pos (by go_simp)]
                refine calm_loadLI _ _ _ rfl rfl HCW.out ?_
                go_simp
                subst hK
                unfold wpCalm
                generalize hK : wpCalm Try.prog _ _ _ _ = K
                unfold Oper.calm
                go_simp
                refine ⟨_, fun _ _ => rfl, ?_⟩
                subst hK
                unfold wpCalm
                generalize hK : wpCalm Try.prog _ _ _ _ = K
                unfold Oper.calm
                go_simp
                refine ⟨_, fun _ _ => rfl, ?_⟩
                subst hK
                unfold wpCalm
                generalize hK : wpCalm Try.prog _ _ _ _ = K
                rw [if_pos (by go_simp)]
                refine calm_ixI _ _ rfl rfl rfl hjl ?_
                go_simp
                subst hK
                unfold wpCalm
                generalize hK : wpCalm Try.prog _ _ _ _ = K
                rw [if_pos (by go_simp)]
                refine calm_load3 _ _ _ rfl rfl HLC.out ?_
                go_simp
                subst hK
                refine wpCalm_nil ⟨?_, ?_⟩
                · intro i o hi ho ρ w' hb h1 h2
                  simp only [List.mem_cons, List.not_mem_nil, or_false] at hi
                  rcases hi with rfl | rfl | rfl | rfl
                  · cases ho
                    refine RowDo.lit rfl 0 (.cells #[] 3) ?_ (OI.lit (B := W5.drew.heap.size) w' [] hb.size (Nat.zero_le _))
                    simp only [rwv, pl, List.foldl, dstOf]
                    go_simp
                  · cases ho
                    exact RowDo.appI rfl (.tmp 62) (.tmp 66) rfl _ (ρ 0) (.slice au l.length ku) [] l _ (by rfl) (h1 0 (by simp) (by kernel_rfl)) (by rfl) (HRU.out.below' (HDR.out w' hb)) (by simp; omega) hb.size
                  · cases ho
                    refine RowDo.lit rfl 1 (.cells #[.int .i64 (q : Int)] 3) ?_ (OI.lit (B := W5.drew.heap.size) w' [(q : Int)] hb.size (by unfold maxLen; simp))
                    simp only [rwv, pl, List.foldl, dstOf]
                    go_simp
                  · cases ho
                    exact RowDo.appI rfl (.tmp 67) (.tmp 72) rfl _ (ρ 5) (ρ 10) l [(q : Int)] (fun _ => True) (by rfl) (h1 5 (by simp) (by kernel_rfl)) (by rfl) (OI.ri (h1 10 (by simp) (by kernel_rfl)) fun _ _ => trivial) (by simp; omega) hb.size
                · intro ρ w' hb hlive
                  have ho : OI w' W5.drew.heap.size (ρ 11) (l ++ [(q : Int)]) := hlive 11 (by simp) (by rfl)
                  simp only [rwv, pl, List.foldl, dstOf]
                  generalize ρ 0 = v0
                  generalize ρ 5 = v5
                  generalize ρ 10 = v10
                  generalize ρ 11 = v11 at ho ⊢
                  obtain ⟨av, kv, rfl⟩ := ho.slice
                  have HB6 := Hid.intro' (below_class HB5.out (HDR.out w' hb))
                  have HN6 := Hid.intro' (HN.out.below' HB6.out)
                  have HO6 := Hid.intro' (ho.ri (D := fun _ => True) fun _ _ => trivial)
                  have hlen : (l ++ [(q : Int)]).length = l.length + 1 := by simp
                  rw [hlen] at HO6 ⊢
                  clear ho hlive hb HCW HLC HCU HRU HDR hlen
                  obtain ⟨t1, HT1⟩ : ∃ t, Hid (RM.ar s.st (RM.go s.st (RM.bg r) (l.map (RM.wf s.ws))) y.1 = t) := ⟨_, Hid.intro' rfl⟩
                  have HTM := Hid.intro' (rtime_at s (fun _ => True) _ _ (.slice av (l.length + 1) kv) c l.length r (l ++ [(q : Int)]) w' ((HC.out.mono fun _ _ _ _ => trivial).below' HB6.out) ((HW.out.mono fun _ _ _ _ => trivial).below' HB6.out) HO6.out HR.out (q : Int) (by simp) HBS.out.rz (fun x hx => by
                    rcases List.mem_append.1 hx with hx | hx
                    · exact HBS.out.fr x (List.mem_flatten.2 ⟨l, List.mem_of_getElem? HL.out, hx⟩)
                    · simp at hx; subst hx; omega) (by omega) (by have := HBS.out.af r (List.mem_of_getElem? HR.out); omega) t1 (by
                    show _ = _
                    rw [List.take_left' rfl, HWF.out]; exact HT1.out))
                  rw [HT1.out] at HSU
                  have HOC := Hid.intro' (HOB.out (c + 1) t1 (by rw [HSU.out]; simp))
                  have HLM2 := Hid.intro' (RM.lm_snoc (l := RM.opk s.st s.ws s.cs p y.1 m k c) (t := t1) fun x hx => (HOB.out c x hx).1)
                  rw [← HSU.out] at HLM2
                  generalize hlm : RM.lm (RM.opk s.st s.ws s.cs p y.1 m k c) = lv at HLM2 ⊢
                  have hw1 : IntKind.i64.wrap ((l.length : Int) + 1 - 1) = (l.length : Int) := by rw [IntWalk.i64_in _ (by omega)]; omega
                  clear hlm
                  go_wp2_with (refine wpList_load27g rfl _ rfl w.heap.size s.st _ _ rfl HN6.out ?_)
                  refine HTM.out.mono ?_
                  rintro e W7 ⟨rfl, hb7⟩
                  have HB7 := Hid.intro' (below_class HB6.out hb7)
                  clear hb7 HTM HO6 HN6 HB6
                  by_cases h1 : lv < 0
                  · have HE : Hid (RM.lm (RM.opk s.st s.ws s.cs p y.1 m k (c + 1)) = t1) := by
                      show _ = _
                      rw [HLM2.out, if_pos (.inl h1)]
                    go_wp2
                    go_roundw
                    case rel => exact ⟨c + 1, by omega, by omega, by go_num, by rw [HE.out], HB7⟩
                    case measure => simp [intOf]; omega
                  · have q1 : decide (lv < 0) = false := decide_eq_false h1
                    by_cases h2 : t1 < lv
                    · have HE : Hid (RM.lm (RM.opk s.st s.ws s.cs p y.1 m k (c + 1)) = t1) := by
                        show _ = _
                        rw [HLM2.out, if_pos (.inr h2)]
                      clear h1
                      go_wp2
                      go_roundw
                      case rel => exact ⟨c + 1, by omega, by omega, by go_num, by rw [HE.out], HB7⟩
                      case measure => simp [intOf]; omega
                    · have HE : Hid (RM.lm (RM.opk s.st s.ws s.cs p y.1 m k (c + 1)) = lv) := by
                        show _ = _
                        rw [HLM2.out, if_neg (fun h => h.elim h1 h2)]
                      have q2 : decide (t1 < lv) = false := decide_eq_false h2
                      clear h1 h2
                      go_wp2
                      go_roundw
                      case rel => exact ⟨c + 1, by omega, by omega, by go_num, by rw [HE.out], HB7⟩
                      case measure => simp [intOf]; omega
            · have hcz : ¬ (c : Int) < (p.length : Int) := by omega
              have HOE : Hid (RM.opk s.st s.ws s.cs p y.1 m k c = optw s k p q) := by
                show _ = _
                rw [HOP.out, show c = p.length by omega]
              rw [HOE.out]
              have HBB : Hid (∀ t ∈ optw s k p q, 0 ≤ t ∧ t ≤ 80000000) := by
                show ∀ t ∈ _, _
                rw [← HOE.out]; exact HOB.out c
              have HNG := Hid.intro' (RM.lm_neg (l := optw s k p q) fun x hx => (HBB.out x hx).1)
              by_cases hem : optw s k p q = []
              · have hneg := HNG.out.2 hem
                have HTE : Hid (T = 1099511627776) := HLZ.out (fun h => by
                  have := List.all_eq_true.1 h (q : Int) (List.mem_of_getElem? HX.out)
                  rw [Int.toNat_natCast, hem] at this
                  cases this)
                have HBE := Hid.intro' (below_class HB.out HBC.out)
                clear hem
                go_wp2
                go_ret
                exact ⟨ret_int HTE.out.symm, HBE.out⟩
              · have hnn : ¬ RM.lm (optw s k p q) < 0 := fun h => hem (HNG.out.1 h)
                have HLW := Hid.intro' (RM.lm_low hem)
                have HLB := Hid.intro' (HBB.out _ (RM.low_mem hem).1)
                have q1 : decide (RM.lm (optw s k p q) < 0) = false := decide_eq_false hnn
                have HNE2 : Hid (∀ x ∈ LF.take (j + 1), optw s k p x.toNat ≠ []) := fun x hx => by
                  rw [take_snoc HX.out] at hx
                  rcases List.mem_append.1 hx with hx | hx
                  · exact HNE.out x hx
                  · simp at hx; subst hx; rw [Int.toNat_natCast]; exact hem
                have HT2 : Hid (t + RM.low (optw s k p q) = cst + ((LF.take (j + 1)).map fun x => RM.low (optw s k p x.toNat)).sum) := by
                  show _ = _
                  rw [take_snoc HX.out, List.map_append, List.sum_append, HT.out]
                  simp
                  omega
                rw [HLW.out] at hnn q1 ⊢
                clear hem hnn HNG HLW HBB
                generalize RM.low (optw s k p q) = lw at HLB HT2 q1 ⊢
                have hw1 : IntKind.i64.wrap (t + lw) = t + lw := IntWalk.i64_in _ (by have := HTB.out; have := HLB.out; omega)
                have HTB2 : Hid (0 ≤ t + lw ∧ t + lw ≤ 800000000000 + 80000000 * ((j + 1 : Nat) : Int)) := by
                  show 0 ≤ t + lw ∧ _
                  have := HTB.out; have := HLB.out
                  omega
                go_wp2
                go_roundw
                case rel => exact ⟨j + 1, t + lw, by omega, by go_num, by go_num, HT2, HNE2, HTB2, HBC⟩
                case measure => simp [intOf]; omega
        · have hjz : ¬ (j : Int) < (LF.length : Int) := by omega
          have HTE : Hid (t = T) := by
            show t = T
            rw [HLS.out (List.all_eq_true.2 fun x hx => by
              have := HNE.out x (by rw [List.take_of_length_le (by omega)]; exact hx)
              cases h : optw s k p x.toNat with
              | nil => exact absurd h this
              | cons a b => rfl), HT.out, List.take_of_length_le (by omega)]
          have HBE := Hid.intro' (below_class HB.out HBJ.out)
          go_wp2
          go_ret
          exact ⟨ret_int HTE.out, HBE.out⟩
end Go.Proofs.Ytagmidolcdefiah
