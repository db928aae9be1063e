/- BoundLeast. -/
import Derived.Test.YtkcppidmbojglagBdG
import Derived.Test.YtkcppidmbojglagPlY
namespace Go.Proofs.Ytkcppidmbojglag
open Go.RowKit

set_option maxRecDepth 100000 in
set_option maxHeartbeats 8000000 in
theorem BoundLeast_any (s : Sn) (D : Nat → Prop) (vc vw vp : Value) (p : List (List Int)) (car cut : Int) (w : World) (hc : R2 D w vc s.cs) (hw : R2 D w vw s.ws) (hp : RL D w vp p) :
    Calls Try.prog 4 #[.agg (nv s.st vc vw).toArray, vp, .int .i64 car, .int .i64 cut] w fun e w' => e = .returned (.bool true) ∧ Below w.heap.size w w' := by
  have hbx := (Below.refl w.heap.size w).alloc (Nat.le_refl _) (.cells (nv s.st vc vw).toArray 27)
  have HN := Hid.intro' (NB.new w s.st vc vw)
  have HB := Hid.intro' hbx
  have HC := Hid.intro' ((hc.mono (D' := fun g => g < w.heap.size) fun g _ h _ => h).below' hbx)
  have HW := Hid.intro' ((hw.mono (D' := fun g => g < w.heap.size) fun g _ h _ => h).below' hbx)
  have HP := Hid.intro' ((hp.mono (D' := fun g => g < w.heap.size) fun g _ h _ => h).below' hbx)
  obtain ⟨ac, kc, rfl, _, _⟩ := hc.form
  obtain ⟨aw, kw, rfl, _, _⟩ := hw.form
  obtain ⟨ap, kp, rfl, _, _⟩ := hp.form
  clear hc hw hp hbx
  go_enter Try.func4, Try.ntmps4
  go_wp2_with fail
  refine (speaks11_any _).mono ?_
  rintro e W1 ⟨rfl, hb1⟩
  have HB1 := Hid.intro' (below_class HB.out hb1)
  have HN1 := Hid.intro' (HN.out.below' hb1)
  have HC1 := Hid.intro' (HC.out.below' hb1)
  have HW1 := Hid.intro' (HW.out.below' hb1)
  have HP1 := Hid.intro' (HP.out.below' hb1)
  clear hb1 HN HB HC HW HP
  go_wp2_with (refine wpList_load27g rfl _ rfl w.heap.size s.st _ _ rfl HN1.out ?_)
  refine (great_any s _ _ _ _ p W1 HC1.out HW1.out HP1.out).mono ?_
  rintro e W2 ⟨⟨g, rfl, hb2, hs⟩⟩
  have HB2 := Hid.intro' (below_class HB1.out hb2)
  have HN2 := Hid.intro' (HN1.out.below' hb2)
  have HC2 := Hid.intro' (HC1.out.below' hb2)
  have HW2 := Hid.intro' (HW1.out.below' hb2)
  have HP2 := Hid.intro' (HP1.out.below' hb2)
  clear hb2 HN1 HB1 HC1 HW1 HP1
  cases g with
  | true =>
    clear hs
    go_wp2
    go_ret
    exact ⟨rfl, HB2.out⟩
  | false =>
    have HS := Hid.intro' (hs rfl)
    have HPL : Hid (p.length ≤ 1000) := by show p.length ≤ 1000; have := HS.out.pl; omega
    have HLL : Hid (∀ l ∈ p, l.length ≤ 1000) := fun l hl => by have := HS.out.ll l hl; omega
    clear hs HS
    go_wp2_with (refine wpList_load27g (by go_simp) _ rfl w.heap.size s.st _ _ rfl HN2.out ?_)
    refine (rfeasible_any s _ _ _ _ p W2 HC2.out HW2.out HP2.out HPL.out HLL.out).mono ?_
    rintro e W3 ⟨rfl, hb3⟩
    have HB3 := Hid.intro' (below_class HB2.out hb3)
    have HN3 := Hid.intro' (HN2.out.below' hb3)
    have HC3 := Hid.intro' (HC2.out.below' hb3)
    have HW3 := Hid.intro' (HW2.out.below' hb3)
    have HP3 := Hid.intro' (HP2.out.below' hb3)
    clear hb3 HN2 HB2 HC2 HW2 HP2
    cases hf : fsb s p with
    | false =>
      clear hf
      go_wp2
      go_ret
      exact ⟨rfl, HB3.out⟩
    | true =>
      have HF := Hid.intro' hf
      have HFS := Hid.intro' (fsb_fs hf)
      clear hf
      go_wp2_with (refine wpList_load27g rfl _ rfl w.heap.size s.st _ _ rfl HN3.out ?_)
      refine (rcost_any s _ _ _ _ p W3 HC3.out HW3.out HP3.out HF.out HLL.out).mono ?_
      rintro e W4 ⟨rfl, hb4⟩
      have HB4 := Hid.intro' (below_class HB3.out hb4)
      have HN4 := Hid.intro' (HN3.out.below' hb4)
      have HC4 := Hid.intro' (HC3.out.below' hb4)
      have HW4 := Hid.intro' (HW3.out.below' hb4)
      have HP4 := Hid.intro' (HP3.out.below' hb4)
      clear hb4 HN3 HB3 HC3 HW3 HP3
      obtain ⟨kk, hkk, hkm⟩ : ∃ k : Nat, k < 65536 ∧ car % 65536 = (k : Int) := ⟨(car % 65536).toNat, by omega, by omega⟩
      have hk16 := i64_andffff car
      rw [hkm] at hk16
      have hp8 : p.length ≤ 8 := HFS.out.p8
      have hp1 : 0 < p.length := HFS.out.p1
      have hpe : ¬ p = [] := fun e => by rw [e] at hp1; simp at hp1
      have hrm : (kk : Int).tmod (p.length : Int) = ((kk % p.length : Nat) : Int) := by rw [Int.tmod_eq_emod_of_nonneg (by omega)]; omega
      obtain ⟨k, hkx⟩ : ∃ c, kk % p.length = c := ⟨_, rfl⟩
      have hkl : k < p.length := by rw [← hkx]; exact Nat.mod_lt _ hp1
      rw [hkx] at hrm
      have hmk := mkL p.length (by omega)
      clear hkm hkx
      go_wp2_with fail
      have HQ0 : Hid (Bq W4 (W4.alloc (.cells (Array.replicate p.length (Value.slice none 0 0)) 36)) W4.heap.size (fun g => g < w.heap.size) p (List.replicate p.length (Value.slice none 0 0)) 0)   := Bq.new W4 (by omega) (fun g hg => Nat.lt_of_lt_of_le hg HB4.out.size)
      have HZ4 := Hid.intro' HB4.out.size
      clear hmk
      generalize W4.alloc (.cells (Array.replicate p.length (Value.slice none 0 0)) 36) = X at HQ0 ⊢
      go_loopw [12] (fun iv wr => ∃ (c : Nat) (us : List Value), c ≤ k ∧ iv = .int .i64 (c : Int) ∧ Hid (Bq W4 wr W4.heap.size (fun g => g < w.heap.size) p us c)) (fun iv _ => k - (intOf iv).toNat)
      case atStart => exact ⟨0, _, Nat.zero_le _, rfl, HQ0⟩
      case round =>
        obtain ⟨c, us, hck, rfl, HQ⟩ := hrel
        clear HQ0
        by_cases hlt : c < k
        · have hcz : (c : Int) < (k : Int) := by omega
          have hcp : (c : Int) < (p.length : Int) := by omega
          obtain ⟨l, hl⟩ : ∃ l, p[c]? = some l := ⟨_, List.getElem?_eq_getElem (by omega)⟩
          obtain ⟨gp, op, rfl, u, hcu, hru⟩ := (HP4.out.below' HQ.out.bel).at hl
          obtain ⟨u0, d0⟩ := HQ.out.cell (i := c) (by omega)
          have d1 := HQ.out.op.fr c
          obtain ⟨au, ku, rfl, _, _⟩ := hru.form
          have HQ2 := Hid.intro' (HQ.out.next hl hru)
          clear hl hru
          go_wp2
          go_roundw
          case rel => exact ⟨c + 1, _, by omega, by go_num, HQ2⟩
          case measure => simp [intOf]; omega
        · have hcz : ¬ (c : Int) < (k : Int) := by omega
          obtain rfl : c = k := by omega
          obtain ⟨l, hl⟩ : ∃ l, p[c]? = some l := ⟨_, List.getElem?_eq_getElem hkl⟩
          obtain ⟨gp, op, rfl, u, hcu, hru⟩ := (HP4.out.below' HQ.out.bel).at hl
          obtain ⟨au, ku, rfl, hlku, hnu⟩ := hru.form
          have hln : l.length ≤ 1000 := HLL.out l (List.mem_of_getElem? hl)
          obtain ⟨jj, hjj, hjm⟩ : ∃ k : Nat, k < 65536 ∧ cut % 65536 = (k : Int) := ⟨(cut % 65536).toNat, by omega, by omega⟩
          have hj16 := i64_andffff cut
          rw [hjm] at hj16
          obtain ⟨j, hjx⟩ : ∃ c, jj % (l.length + 1) = c := ⟨_, rfl⟩
          have hjl : j ≤ l.length := by have := Nat.mod_lt jj (show 0 < l.length + 1 by omega); omega
          have hrj : (jj : Int).tmod ((l.length : Int) + 1) = (j : Int) := by
            rw [Int.tmod_eq_emod_of_nonneg (by omega), ← hjx, Int.natCast_emod]; rfl
          have hw1 : IntKind.i64.wrap ((l.length : Int) + 1) = (l.length : Int) + 1 := IntWalk.i64_in _ (by omega)
          have hnz : ¬ (l.length : Int) + 1 = 0 := by omega
          have hjk : j ≤ ku := by omega
          have HB2 : Hid (∀ w', Below wr.drew.heap.size wr.drew w' → Below wr.heap.size wr w') := fun w' hw => ((Below.refl _ wr).drew).trans hw
          have HCW : Hid (∀ w', Below wr.drew.heap.size wr.drew w' → w'.cell? ⟨gp, op + c, none⟩ = some (.slice au l.length ku)) := fun w' hw => ((HB2.out w' hw).cell (p := ⟨gp, op + c, none⟩) (cell_lt hcu)).trans hcu
          have HL := Hid.intro' hl
          have HRU := Hid.intro' hru
          clear hl hru hcu hjm hjx hnu hck hlt
          go_wp2_with fail
          refine wp_region_tail 17 (by kernel_rfl) (by kernel_rfl) ?_
          simp only [List.take_succ_cons, List.take_zero, List.drop_succ_cons, List.drop_zero]
          unfold wpCalm
          generalize hK : wpCalm Try.prog _ _ _ _ = K
          unfold Oper.calm
          go_simp
          refine ⟨_, fun _ _ => rfl, ?_⟩
          subst hK
          unfold wpCalm
          generalize hK : wpCalm Try.prog _ _ _ _ = K
          unfold Oper.calm
          go_simp
          refine ⟨_, fun _ _ => rfl, ?_⟩
          subst hK
          unfold wpCalm
          generalize hK : wpCalm Try.prog _ _ _ _ = K
          unfold Oper.calm
          go_simp
          refine ⟨_, fun _ _ => rfl, ?_⟩
          subst hK
          unfold wpCalm
          generalize hK : wpCalm Try.prog _ _ _ _ = K
          unfold Oper.calm
          go_simp
          refine ⟨_, fun _ _ => rfl, ?_⟩
          subst hK
          unfold wpCalm
          generalize hK : wpCalm Try.prog _ _ _ _ = K
          rw [if_pos (by go_simp)]
          refine calm_ixP _ _ rfl rfl rfl hkl ?_
          go_simp
          subst hK
          unfold wpCalm
          generalize hK : wpCalm Try.prog _ _ _ _ = K
          rw [if_pos (by go_simp)]
          refine calm_loadLI _ _ _ rfl rfl HCW.out ?_
          go_simp
          subst hK
          unfold wpCalm
          generalize hK : wpCalm Try.prog _ _ _ _ = K
          unfold Oper.calm
          go_simp
          refine ⟨_, fun _ _ => rfl, ?_⟩
          subst hK
          unfold wpCalm
          generalize hK : wpCalm Try.prog _ _ _ _ = K
          unfold Oper.calm
          go_simp
          refine ⟨_, fun _ _ => rfl, ?_⟩
          subst hK
          unfold wpCalm
          generalize hK : wpCalm Try.prog _ _ _ _ = K
          unfold Oper.calm
          go_simp
          refine ⟨_, fun _ _ => rfl, ?_⟩
          subst hK
          unfold wpCalm
          generalize hK : wpCalm Try.prog _ _ _ _ = K
          unfold Oper.calm
          go_simp
          refine ⟨_, fun _ _ => rfl, ?_⟩
          subst hK
          unfold wpCalm
          generalize hK : wpCalm Try.prog _ _ _ _ = K
          rw [if_pos (by go_simp)]
          refine calm_ixP _ _ rfl rfl rfl hkl ?_
          go_simp
          subst hK
          unfold wpCalm
          generalize hK : wpCalm Try.prog _ _ _ _ = K
          rw [if_pos (by go_simp)]
          refine calm_loadLI _ _ _ rfl rfl HCW.out ?_
          go_simp
          subst hK
          unfold wpCalm
          generalize hK : wpCalm Try.prog _ _ _ _ = K
          unfold Oper.calm
          go_simp
          refine ⟨_, fun _ _ => rfl, ?_⟩
          subst hK
          unfold wpCalm
          generalize hK : wpCalm Try.prog _ _ _ _ = K
          unfold Oper.calm
          go_simp
          refine ⟨_, fun _ _ => rfl, ?_⟩
          subst hK
          unfold wpCalm
          generalize hK : wpCalm Try.prog _ _ _ _ = K
          unfold Oper.calm
          go_simp
          refine ⟨_, fun _ _ => rfl, ?_⟩
          subst hK
          unfold wpCalm
          generalize hK : wpCalm Try.prog _ _ _ _ = K
          rw [if_pos (by go_simp)]
          refine calm_cut _ _ rfl rfl rfl hjk ?_
          go_simp
          subst hK
          unfold wpCalm
          generalize hK : wpCalm Try.prog _ _ _ _ = K
          rw [if_pos (by go_simp)]
          refine calm_ixP _ _ rfl rfl rfl hkl ?_
          go_simp
          subst hK
          refine wpCalm_nil ?_
          intro W5 hb5
          have HQ5 := Hid.intro' (HQ.out.below' (HB2.out W5 hb5))
          have HRV := Hid.intro' (HRU.out.below' (HB2.out W5 hb5))
          obtain ⟨u5, s5⟩ := HQ5.out.cell hkl
          have t5 := HQ5.out.op.fr c
          have HQ6 := Hid.intro' (HQ5.out.put (.slice au j ku))
          have HRB := Hid.intro' (HQ5.out.rl hkl HL.out (HRV.out.cut hjl))
          clear hb5 HB2 HCW HQ HRU HRV HQ5
          have HB6 := Hid.intro' (below_class HB4.out HQ6.out.bel)
          have HN6 := Hid.intro' (HN4.out.below' HQ6.out.bel)
          have HC6 := Hid.intro' ((HC4.out.mono (D' := fun _ => True) fun _ _ _ _ => trivial).below' HQ6.out.bel)
          have HW6 := Hid.intro' ((HW4.out.mono (D' := fun _ => True) fun _ _ _ _ => trivial).below' HQ6.out.bel)
          have HP6 := Hid.intro' ((HP4.out.mono (D' := fun _ => True) fun _ _ _ _ => trivial).below' HQ6.out.bel)
          obtain ⟨st, hst⟩ := beg_bgn HFS.out (cutp_beg j hkl)
          have hle1 := RM.lst_least HFS.out.rz HFS.out.fz HFS.out.ml HFS.out.pc (cutp_beg j hkl)
          rw [← beg_lsv HFS.out (cutp_beg j hkl) hst] at hle1
          obtain ⟨L1, hL1⟩ : ∃ x, lsv s c (cutp p c j) st = x := ⟨_, rfl⟩
          rw [hL1] at hle1
          have HST := Hid.intro' hst
          have HL1 := Hid.intro' hL1
          have HCL : Hid ((cutp p c j).length ≤ 1000) := by show _ ≤ 1000; rw [cutp_length j hkl]; omega
          have HCB : Hid (∀ m ∈ cutp p c j, m.length ≤ 1000) := cutp_max hkl HLL.out
          clear hst hL1 HN4 HB4 HC4 HW4 HP4
          go_wp2_with (refine wpList_load27g rfl _ rfl w.heap.size s.st _ _ rfl HN6.out ?_)
          generalize W5.setCell ⟨W4.heap.size, c, none⟩ (.slice au j ku) = X6 at HQ6 HRB HB6 HN6 HC6 HW6 HP6 ⊢
          refine (least_yes s _ _ _ _ c _ st X6 HC6.out HW6.out HRB.out HST.out HCL.out HCB.out).mono ?_
          rw [HL1.out]
          rintro e W7 ⟨rfl, hb7⟩
          have HB7 := Hid.intro' (below_class HB6.out hb7)
          have HN7 := Hid.intro' (HN6.out.below' hb7)
          have HC7 := Hid.intro' (HC6.out.below' hb7)
          have HW7 := Hid.intro' (HW6.out.below' hb7)
          have HP7 := Hid.intro' (HP6.out.below' hb7)
          have HR7 := Hid.intro' (HRB.out.below' hb7)
          clear hb7 HQ6 HRB HB6 HN6 HC6 HW6 HP6 HST HL1
          have hw2 : IntKind.i64.wrap ((p.length : Int) - 1) = (p.length : Int) - 1 := IntWalk.i64_in _ (by omega)
          go_wp2_with (refine wpList_load27g rfl _ rfl w.heap.size s.st _ _ rfl HN7.out ?_)
          have HK : Calls Try.prog 10 #[.agg (nv s.st (.slice ac s.cs.length kc) (.slice aw s.ws.length kw)).toArray, .int .i64 ((p.length : Int) - 1), .slice (some ⟨gp, op, none⟩) p.length kp] W7 fun e w' => e = .returned (.tuple #[.int .i64 (RM.cst s.st s.ws s.cs p), .int .i64 0]) ∧ Below W7.heap.size W7 w' := by
            have hbw : RM.Beg (p.length - 1) p p := RM.Beg.whole (by omega) (by omega)
            obtain ⟨st, hst⟩ := beg_bgn HFS.out hbw
            have e1 := beg_lsv HFS.out hbw hst
            rw [RM.lst_whole HFS.out.fz HFS.out.ml] at e1
            rw [← e1, show (p.length : Int) - 1 = ((p.length - 1 : Nat) : Int) by omega]
            exact least_yes s _ _ _ _ (p.length - 1) p st W7 HC7.out HW7.out HP7.out hst HPL.out HLL.out
          refine HK.mono ?_
          rintro e W8 ⟨rfl, hb8⟩
          have HB8 := Hid.intro' (below_class HB7.out hb8)
          have HP8 := Hid.intro' (HP7.out.below' hb8)
          have HR8 := Hid.intro' (HR7.out.below' hb8)
          clear hb8 HK HB7 HN7 HC7 HW7 HP7 HR7
          go_wp2_with fail
          refine (begins_any _ _ _ (c : Int) p (cutp p c j) W8 HP8.out HR8.out HPL.out HLL.out HCL.out HCB.out).mono ?_
          rw [beg_bgs (cutp_beg j hkl)]
          rintro e W9 ⟨rfl, hb9⟩
          have HB9 := Hid.intro' (below_class HB8.out hb9)
          clear hb9
          go_wp2
          go_ret
          exact ⟨rfl, HB9.out⟩

end Go.Proofs.Ytkcppidmbojglag
