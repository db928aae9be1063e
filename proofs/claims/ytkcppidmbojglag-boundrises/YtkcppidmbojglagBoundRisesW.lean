/- BoundRises. -/
import Derived.Test.YtkcppidmbojglagBdH
import Derived.Test.YtkcppidmbojglagPlY
namespace Go.Proofs.Ytkcppidmbojglag
open Go.RowKit

set_option maxRecDepth 100000 in
set_option maxHeartbeats 8000000 in
theorem BoundRises_any (s : Sn) (D : Nat → Prop) (vc vw vp : Value) (p : List (List Int)) (car cut : Int) (w : World) (hc : R2 D w vc s.cs) (hw : R2 D w vw s.ws) (hp : RL D w vp p) :
    Calls Try.prog 5 #[.agg (nv s.st vc vw).toArray, vp, .int .i64 car, .int .i64 cut] w fun e w' => e = .returned (.bool true) ∧ Below w.heap.size w w' := by
  have hbx := (Below.refl w.heap.size w).alloc (Nat.le_refl _) (.cells (nv s.st vc vw).toArray 27)
  have HN := Hid.intro' (NB.new w s.st vc vw)
  have HB := Hid.intro' hbx
  have HC := Hid.intro' ((hc.mono (D' := fun g => g < w.heap.size) fun g _ h _ => h).below' hbx)
  have HW := Hid.intro' ((hw.mono (D' := fun g => g < w.heap.size) fun g _ h _ => h).below' hbx)
  have HP := Hid.intro' ((hp.mono (D' := fun g => g < w.heap.size) fun g _ h _ => h).below' hbx)
  obtain ⟨ac, kc, rfl, _, _⟩ := hc.form
  obtain ⟨aw, kw, rfl, _, _⟩ := hw.form
  obtain ⟨ap, kp, rfl, _, _⟩ := hp.form
  clear hc hw hp hbx
  go_enter Try.func5, Try.ntmps5
  go_wp2_with fail
  refine (speaks11_any _).mono ?_
  rintro e W1 ⟨rfl, hb1⟩
  have HB1 := Hid.intro' (below_class HB.out hb1)
  have HN1 := Hid.intro' (HN.out.below' hb1)
  have HC1 := Hid.intro' (HC.out.below' hb1)
  have HW1 := Hid.intro' (HW.out.below' hb1)
  have HP1 := Hid.intro' (HP.out.below' hb1)
  clear hb1 HN HB HC HW HP
  go_wp2_with (refine wpList_load27g rfl _ rfl w.heap.size s.st _ _ rfl HN1.out ?_)
  refine (great_any s _ _ _ _ p W1 HC1.out HW1.out HP1.out).mono ?_
  rintro e W2 ⟨⟨g, rfl, hb2, hs⟩⟩
  have HB2 := Hid.intro' (below_class HB1.out hb2)
  have HN2 := Hid.intro' (HN1.out.below' hb2)
  have HC2 := Hid.intro' (HC1.out.below' hb2)
  have HW2 := Hid.intro' (HW1.out.below' hb2)
  have HP2 := Hid.intro' (HP1.out.below' hb2)
  clear hb2 HN1 HB1 HC1 HW1 HP1
  cases g with
  | true =>
    clear hs
    go_wp2
    go_ret
    exact ⟨rfl, HB2.out⟩
  | false =>
    have HS := Hid.intro' (hs rfl)
    have HPL : Hid (p.length ≤ 1000) := by show p.length ≤ 1000; have := HS.out.pl; omega
    have HLL : Hid (∀ l ∈ p, l.length ≤ 1000) := fun l hl => by have := HS.out.ll l hl; omega
    clear hs HS
    go_wp2_with (refine wpList_load27g (by go_simp) _ rfl w.heap.size s.st _ _ rfl HN2.out ?_)
    refine (rfeasible_any s _ _ _ _ p W2 HC2.out HW2.out HP2.out HPL.out HLL.out).mono ?_
    rintro e W3 ⟨rfl, hb3⟩
    have HB3 := Hid.intro' (below_class HB2.out hb3)
    have HN3 := Hid.intro' (HN2.out.below' hb3)
    have HC3 := Hid.intro' (HC2.out.below' hb3)
    have HW3 := Hid.intro' (HW2.out.below' hb3)
    have HP3 := Hid.intro' (HP2.out.below' hb3)
    clear hb3 HN2 HB2 HC2 HW2 HP2
    cases hf : fsb s p with
    | false =>
      clear hf
      go_wp2
      go_ret
      exact ⟨rfl, HB3.out⟩
    | true =>
      have HF := Hid.intro' hf
      have HFS := Hid.intro' (fsb_fs hf)
      clear hf
      obtain ⟨kk, hkk, hkm⟩ : ∃ k : Nat, k < 65536 ∧ car % 65536 = (k : Int) := ⟨(car % 65536).toNat, by omega, by omega⟩
      have hk16 := i64_andffff car
      rw [hkm] at hk16
      have hp8 : p.length ≤ 8 := HFS.out.p8
      have hp1 : 0 < p.length := HFS.out.p1
      have hpe : ¬ p = [] := fun e => by rw [e] at hp1; simp at hp1
      have hrm : (kk : Int).tmod (p.length : Int) = ((kk % p.length : Nat) : Int) := by rw [Int.tmod_eq_emod_of_nonneg (by omega)]; omega
      obtain ⟨k, hkx⟩ : ∃ c, kk % p.length = c := ⟨_, rfl⟩
      have hkl : k < p.length := by rw [← hkx]; exact Nat.mod_lt _ hp1
      rw [hkx] at hrm
      have hmk := mkL p.length (by omega)
      clear hkm hkx
      go_wp2_with fail
      have HQ0 : Hid (Bq W3 (W3.alloc (.cells (Array.replicate p.length (Value.slice none 0 0)) 36)) W3.heap.size (fun g => g < w.heap.size) p (List.replicate p.length (Value.slice none 0 0)) 0)   := Bq.new W3 (by omega) (fun g hg => Nat.lt_of_lt_of_le hg HB3.out.size)
      have HZ3 := Hid.intro' HB3.out.size
      clear hmk
      generalize W3.alloc (.cells (Array.replicate p.length (Value.slice none 0 0)) 36) = X at HQ0 ⊢
      go_loopw [11] (fun iv wr => ∃ (c : Nat) (us : List Value), c ≤ k ∧ iv = .int .i64 (c : Int) ∧ Hid (Bq W3 wr W3.heap.size (fun g => g < w.heap.size) p us c)) (fun iv _ => k - (intOf iv).toNat)
      case atStart => exact ⟨0, _, Nat.zero_le _, rfl, HQ0⟩
      case round =>
        obtain ⟨c, us, hck, rfl, HQ⟩ := hrel
        clear HQ0
        by_cases hlt : c < k
        · have hcz : (c : Int) < (k : Int) := by omega
          have hcp : (c : Int) < (p.length : Int) := by omega
          obtain ⟨l, hl⟩ : ∃ l, p[c]? = some l := ⟨_, List.getElem?_eq_getElem (by omega)⟩
          obtain ⟨gp, op, rfl, u, hcu, hru⟩ := (HP3.out.below' HQ.out.bel).at hl
          obtain ⟨u0, d0⟩ := HQ.out.cell (i := c) (by omega)
          have d1 := HQ.out.op.fr c
          obtain ⟨au, ku, rfl, _, _⟩ := hru.form
          have HQ2 := Hid.intro' (HQ.out.next hl hru)
          clear hl hru
          go_wp2
          go_roundw
          case rel => exact ⟨c + 1, _, by omega, by go_num, HQ2⟩
          case measure => simp [intOf]; omega
        · have hcz : ¬ (c : Int) < (k : Int) := by omega
          obtain rfl : c = k := by omega
          obtain ⟨l, hl⟩ : ∃ l, p[c]? = some l := ⟨_, List.getElem?_eq_getElem hkl⟩
          obtain ⟨gp, op, rfl, u, hcu, hru⟩ := (HP3.out.below' HQ.out.bel).at hl
          have hln : l.length ≤ 1000 := HLL.out l (List.mem_of_getElem? hl)
          have hcz2 : (c : Int) < (p.length : Int) := by omega
          have HL := Hid.intro' hl
          clear hl hru hcu hck hlt
          generalize wr = W4 at HQ ⊢
          go_wp2_with fail
          go_loopw [12, 13] (fun lv iv wr => ∃ (i : Nat) (us : List Value) (L : Int), i ≤ l.length + 1 ∧ lv = .int .i64 L ∧ iv = .int .i64 (i : Int) ∧ Hid (Bq W3 wr W3.heap.size (fun g => g < w.heap.size) p us c) ∧ Hid ((i = 0 ∧ L = -1) ∨ (0 < i ∧ L = RM.lst s.st s.ws s.cs (msk s) c (cutp p c (i - 1)) ∧ RL (fun _ => True) wr (.slice (some ⟨W3.heap.size, 0, none⟩) p.length p.length) (cutp p c (i - 1))))) (fun _ iv _ => l.length + 1 - (intOf iv).toNat)
          case atStart => exact ⟨0, _, -1, by omega, rfl, rfl, HQ, .inl ⟨rfl, rfl⟩⟩
          case round =>
            obtain ⟨i, us, L, hi, rfl, rfl, HQI, HLI⟩ := hrel
            clear HQ
            obtain ⟨g2, o2, e2, u2, hcu, hru⟩ := (HP3.out.below' HQI.out.bel).at HL.out
            cases e2
            obtain ⟨au, ku, rfl, hlku, hnu⟩ := hru.form
            by_cases hil : i ≤ l.length
            · have hiz : (i : Int) ≤ (l.length : Int) := by omega
              have hik : i ≤ ku := by omega
              obtain ⟨u0, d0⟩ := HQI.out.cell hkl
              have d1 := HQI.out.op.fr c
              have HQ5 := Hid.intro' (HQI.out.put (.slice au i ku))
              have HRB := Hid.intro' (HQI.out.rl hkl HL.out (hru.cut hil))
              have HN5 := Hid.intro' (HN3.out.below' HQ5.out.bel)
              have HC5 := Hid.intro' ((HC3.out.mono (D' := fun _ => True) fun _ _ _ _ => trivial).below' HQ5.out.bel)
              have HW5 := Hid.intro' ((HW3.out.mono (D' := fun _ => True) fun _ _ _ _ => trivial).below' HQ5.out.bel)
              obtain ⟨st, hst⟩ := beg_bgn HFS.out (cutp_beg i hkl)
              have hlv := beg_lsv HFS.out (cutp_beg i hkl) hst
              have HCL : Hid ((cutp p c i).length ≤ 1000) := by show _ ≤ 1000; rw [cutp_length i hkl]; omega
              have HCB : Hid (∀ m ∈ cutp p c i, m.length ≤ 1000) := cutp_max hkl HLL.out
              obtain ⟨L2, hL2⟩ : ∃ x, RM.lst s.st s.ws s.cs (msk s) c (cutp p c i) = x := ⟨_, rfl⟩
              have hup : ¬ L2 < L := by
                rcases HLI.out with ⟨_, h⟩ | ⟨h0, h, _⟩
                · have := lst_nn HFS.out (cutp_beg i hkl) HLL.out HCB.out
                  rw [h]; omega
                · have := RM.lst_rises HFS.out.rz HFS.out.fz HFS.out.ml HFS.out.pc (cutp_beg (i - 1) hkl) (cutp_beg i hkl) (Nat.le_refl _) (cutp_rise hkl (by omega))
                  rw [h]; omega
              rw [hL2] at hlv
              have HLV := Hid.intro' hlv
              have HL2E := Hid.intro' hL2
              have HST := Hid.intro' hst
              clear hst hlv hL2 hru hnu HLI
              go_wp2_with (first | refine wpList_cut rfl _ _ rfl rfl rfl hik ?_ | refine wpList_load27g rfl _ rfl w.heap.size s.st _ _ rfl HN5.out ?_)
              generalize (wr.setCell ⟨W3.heap.size, c, none⟩ (.slice au i ku)) = X5 at HQ5 HRB HN5 HC5 HW5 ⊢
              refine (least_yes s _ _ _ _ c _ st X5 HC5.out HW5.out HRB.out HST.out HCL.out HCB.out).mono ?_
              rw [HLV.out]
              rintro e W6 ⟨rfl, hb6⟩
              have HQ6 := Hid.intro' (HQ5.out.below' hb6)
              have HRB6 := Hid.intro' (HRB.out.below' hb6)
              clear hb6 hcu d0 d1 HQ5 HRB HN5 HC5 HW5 HQI
              go_wp2
              go_roundw
              case rel => exact ⟨i + 1, _, L2, by omega, rfl, by go_num, HQ6, .inr ⟨by omega, HL2E.out.symm, HRB6.out⟩⟩
              case measure => simp [intOf]; omega
            · have hiz : ¬ (i : Int) ≤ (l.length : Int) := by omega
              have HLR : Hid (L = RM.lst s.st s.ws s.cs (msk s) c (cutp p c l.length) ∧ RL (fun _ => True) wr (.slice (some ⟨W3.heap.size, 0, none⟩) p.length p.length) (cutp p c l.length)) := by
                rcases HLI.out with ⟨h, _⟩ | ⟨_, h⟩
                · omega
                · rw [show i - 1 = l.length by omega] at h; exact h
              have HN5 := Hid.intro' (HN3.out.below' HQI.out.bel)
              have HC5 := Hid.intro' ((HC3.out.mono (D' := fun _ => True) fun _ _ _ _ => trivial).below' HQI.out.bel)
              have HW5 := Hid.intro' ((HW3.out.mono (D' := fun _ => True) fun _ _ _ _ => trivial).below' HQI.out.bel)
              have HP5 := Hid.intro' ((HP3.out.mono (D' := fun _ => True) fun _ _ _ _ => trivial).below' HQI.out.bel)
              have HB5 := Hid.intro' (below_class HB3.out HQI.out.bel)
              have hw1 : IntKind.i64.wrap ((c : Int) + 1) = (c : Int) + 1 := IntWalk.i64_in _ (by omega)
              clear hru hnu HLI HQI
              by_cases hlast : c + 1 = p.length
              · have e1 : ((c : Int) + 1 == (p.length : Int)) = true := by rw [beq_iff_eq]; omega
                have hlz : (c : Int) + 1 = (p.length : Int) := by omega
                have HE : Hid (RM.cst s.st s.ws s.cs p = L) := by
                  show _ = L
                  rw [HLR.out.1, cutp_whole hlast HL.out, RM.lst_whole HFS.out.fz HFS.out.ml]
                clear hlast
                go_wp2_with (refine wpList_load27g rfl _ rfl w.heap.size s.st _ _ rfl HN5.out ?_)
                refine (rcost_any s _ _ _ _ p wr HC5.out HW5.out HP5.out HF.out HLL.out).mono ?_
                rw [HE.out]
                rintro e W6 ⟨rfl, hb6⟩
                have HB6 := Hid.intro' (below_class HB5.out hb6)
                clear hb6
                go_wp2
                go_ret
                exact ⟨rfl, HB6.out⟩
              · have e1 : ((c : Int) + 1 == (p.length : Int)) = false := by rw [beq_eq_false_iff_ne]; omega
                have hlz : ¬ (c : Int) + 1 = (p.length : Int) := by omega
                have hb2 := cutp_next (show c + 1 < p.length by omega) HL.out
                obtain ⟨L3, hL3⟩ : ∃ x, RM.lst s.st s.ws s.cs (msk s) (c + 1) (cutp p c l.length) = x := ⟨_, rfl⟩
                have hup : L ≤ L3 := by
                  rw [HLR.out.1, ← hL3]
                  exact RM.lst_rises HFS.out.rz HFS.out.fz HFS.out.ml HFS.out.pc (cutp_beg l.length hkl) hb2 (by omega) (cutp_rise hkl (Nat.le_refl _))
                have HK : Hid (Calls Try.prog 10 #[.agg (nv s.st (.slice ac s.cs.length kc) (.slice aw s.ws.length kw)).toArray, .int .i64 ((c : Int) + 1), .slice (some ⟨W3.heap.size, 0, none⟩) p.length p.length] wr fun e w' => e = .returned (.tuple #[.int .i64 L3, .int .i64 0]) ∧ Below wr.heap.size wr w') := by
                  obtain ⟨st, hst⟩ := beg_bgn HFS.out hb2
                  have hlv := beg_lsv HFS.out hb2 hst
                  rw [hL3] at hlv
                  show Calls _ _ _ _ _
                  rw [← hlv, show (c : Int) + 1 = ((c + 1 : Nat) : Int) by omega]
                  exact least_yes s _ _ _ _ (c + 1) _ st wr HC5.out HW5.out HLR.out.2 hst (by rw [cutp_length _ hkl]; omega) (cutp_max hkl HLL.out)
                clear hlast hb2 hL3
                go_wp2_with (refine wpList_load27g rfl _ rfl w.heap.size s.st _ _ rfl HN5.out ?_)
                refine HK.out.mono ?_
                rintro e W6 ⟨rfl, hb6⟩
                have HB6 := Hid.intro' (below_class HB5.out hb6)
                clear hb6
                go_wp2
                go_ret
                exact ⟨rfl, HB6.out⟩

end Go.Proofs.Ytkcppidmbojglag
