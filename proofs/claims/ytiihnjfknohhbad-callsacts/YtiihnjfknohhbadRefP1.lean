/- Press as the document's answer has it: of a call that is up. -/
import Derived.Test.YtiihnjfknohhbadRefP0
namespace Go.Proofs.Ytiihnjfknohhbad
open Go.RowKit

set_option maxRecDepth 100000 in
set_option maxHeartbeats 8000000 in
theorem rpress_1 (B r : Nat) (F C : Int) (v : Value) (t : Nat) (L : List Cl) (cf ca cg : Int) (w : World) (H : RK w B r F C v t L) (hL : L.length ≤ 128) (f1 : 2 ≤ F) (f2 : F ≤ 64) :
    Calls Try.prog 10 #[.pointer (some ⟨r, 0, none⟩), .agg #[.int .i64 cf, .int .i64 ca, .int .i64 cg, .bool true]] w fun e w' => e = .returned (.int .i64 (KM.err F C (FM.hasN t (⟨cf, ca, cg, true⟩ : Cl).fl) L ⟨cf, ca, cg, true⟩)) ∧ ∃ v', RK w' B r F C v' t (KM.put F C (FM.hasN t (⟨cf, ca, cg, true⟩ : Cl).fl) L ⟨cf, ca, cg, true⟩) ∧ Nx w v v' ∧ Kp (Fp r v) w w' := by
  obtain ⟨ao, n, cap, rfl⟩ := H.rw.slice
  have hn := H.rw.len
  have HN := Hid.intro' hn
  have hn2 : n ≤ 128 := by omega
  have HM : Hid (Mr w (w.alloc (.cells #[.int .i64 cf, .int .i64 ca, .int .i64 cg, .bool true] 35)) B r F C (.slice ao n cap) t L ⟨cf, ca, cg, true⟩) := ⟨H.below' ((Below.refl _ _).alloc (Nat.le_refl _) _), CB.new w ⟨cf, ca, cg, true⟩, (Below.refl _ _).alloc (Nat.le_refl _) _, fun i hi => (H.lo i hi).2⟩
  clear H hn
  go_enter Try.func10, Try.ntmps10
  go_wp2_with fail
  generalize w.alloc (.cells #[.int .i64 cf, .int .i64 ca, .int .i64 cg, .bool true] 35) = W1 at HM ⊢
  go_cut [34] (fun s34 W2 => s34 = .bool (!KM.inR F C ⟨cf, ca, cg, true⟩) ∧ Hid (Mr w W2 B r F C (.slice ao n cap) t L ⟨cf, ca, cg, true⟩))
  case first =>
    have k0 : W1.cell? ⟨w.heap.size, 0, none⟩ = some (.int .i64 cf) := HM.out.cb.c0
    have k1 : W1.cell? ⟨w.heap.size, 1, none⟩ = some (.int .i64 ca) := HM.out.cb.c1
    have m0 := HM.out.bk.rb.c0
    have m1 := HM.out.bk.rb.c1
    by_cases a1 : cf < 0
    · have g1 : decide (cf < 0) = true := by simp; omega
      have hr : KM.inR F C ⟨cf, ca, cg, true⟩ = false := by cases h : KM.inR F C ⟨cf, ca, cg, true⟩; rfl; exact absurd (KM.inR_iff.1 h).1 (by show ¬ (0 ≤ cf); omega)
      have HRR := Hid.intro' hr
      clear hr
      go_quiet (fail)
      go_wp2
      go_meet
      case rel => exact ⟨by rw [HRR.out]; rfl, HM.out.drewN nq⟩
    · have g1 : decide (cf < 0) = false := by simp; omega
      by_cases a2 : F ≤ cf
      · have g2 : decide (F ≤ cf) = true := by simp; omega
        have hr : KM.inR F C ⟨cf, ca, cg, true⟩ = false := by cases h : KM.inR F C ⟨cf, ca, cg, true⟩; rfl; exact absurd (KM.inR_iff.1 h).2.1 (by show ¬ (cf < F); omega)
        have HRR := Hid.intro' hr
        clear hr
        go_quiet (fail)
        go_wp2
        go_meet
        case rel => exact ⟨by rw [HRR.out]; rfl, HM.out.drewN nq⟩
      · have g2 : decide (F ≤ cf) = false := by simp; omega
        by_cases a3 : ca < -1
        · have g3 : decide (ca < -1) = true := by simp; omega
          have hr : KM.inR F C ⟨cf, ca, cg, true⟩ = false := by cases h : KM.inR F C ⟨cf, ca, cg, true⟩; rfl; exact absurd (KM.inR_iff.1 h).2.2.1 (by show ¬ (-1 ≤ ca); omega)
          have HRR := Hid.intro' hr
          clear hr
          go_quiet (fail)
          go_wp2
          go_meet
          case rel => exact ⟨by rw [HRR.out]; rfl, HM.out.drewN nq⟩
        · have g3 : decide (ca < -1) = false := by simp; omega
          by_cases a4 : C ≤ ca
          · have g4 : decide (C ≤ ca) = true := by simp; omega
            have hr : KM.inR F C ⟨cf, ca, cg, true⟩ = false := by cases h : KM.inR F C ⟨cf, ca, cg, true⟩; rfl; exact absurd (KM.inR_iff.1 h).2.2.2 (by show ¬ (ca < C); omega)
            have HRR := Hid.intro' hr
            clear hr
            go_quiet (fail)
            go_wp2
            go_meet
            case rel => exact ⟨by rw [HRR.out]; rfl, HM.out.drewN nq⟩
          · have g4 : decide (C ≤ ca) = false := by simp; omega
            have hr : KM.inR F C ⟨cf, ca, cg, true⟩ = true := KM.inR_iff.2 ⟨by show 0 ≤ cf; omega, by show cf < F; omega, by show -1 ≤ ca; omega, by show ca < C; omega⟩
            have HRR := Hid.intro' hr
            clear hr
            go_quiet (fail)
            go_wp2
            go_meet
            case rel => exact ⟨by rw [HRR.out]; rfl, HM.out.drewN nq⟩
  case rest =>
    obtain ⟨rfl, HM3⟩ := hcut
    clear HM
    cases hr : KM.inR F C ⟨cf, ca, cg, true⟩
    · go_wp2
      go_ret
      have e1 : KM.err F C (FM.hasN t cf) L ⟨cf, ca, cg, true⟩ = 2 := by simp [KM.err, hr]
      have e2 : KM.put F C (FM.hasN t cf) L ⟨cf, ca, cg, true⟩ = L := KM.put_no (by simp [KM.adds, hr])
      refine ⟨ret_int e1.symm, _, ?_, Nx.refl _ _, Kp.ofBelow _ HM3.out.bel⟩
      rw [e2]
      exact HM3.out.bk
    · obtain ⟨r1, r2, r3, r4⟩ := KM.inR_iff.1 hr
      have r1 : 0 ≤ cf := r1
      have r2 : cf < F := r2
      have r3 : -1 ≤ ca := r3
      have r4 : ca < C := r4
      have HRR := Hid.intro' hr
      go_wp2_with fail
      clear hr
      go_cut [76] (fun s76 W2 => s76 = .bool (!KM.can F ⟨cf, ca, cg, true⟩) ∧ Hid (Mr w W2 B r F C (.slice ao n cap) t L ⟨cf, ca, cg, true⟩))
      case first =>
        have k0 : wc.cell? ⟨w.heap.size, 0, none⟩ = some (.int .i64 cf) := HM3.out.cb.c0
        have k1 : wc.cell? ⟨w.heap.size, 1, none⟩ = some (.int .i64 ca) := HM3.out.cb.c1
        have k3 : wc.cell? ⟨w.heap.size, 3, none⟩ = some (.bool true) := HM3.out.cb.c3
        have m0 := HM3.out.bk.rb.c0
        by_cases a1 : 0 ≤ ca
        · have g1 : decide (0 ≤ ca) = true := by simp; omega
          have g2 : decide (ca < 0) = false := by simp; omega
          have hne : ca ≠ -1 := by omega
          have HNE := Hid.intro' hne
          clear hne
          have hcn : KM.can F ⟨cf, ca, cg, true⟩ = false := by unfold KM.can; simp [HNE.out]
          have HCN := Hid.intro' hcn
          clear hcn
          go_quiet (fail)
          go_wp2
          go_meet
          case rel => exact ⟨by rw [HCN.out]; rfl, HM3.out.drewN nq⟩
        · have he : ca = -1 := by omega
          have g1 : decide (0 ≤ ca) = false := by simp; omega
          have g2 : decide (ca < 0) = true := by simp; omega
          have HE := Hid.intro' he
          clear he
          by_cases h0 : cf = F - 1
          · have g3 : (cf == F - 1) = true := by simpa using h0
            have g4 : (cf == IntKind.i64.wrap (F - 1)) = true := by rw [IntKind.wrap_i64]; simp; omega
            have HF := Hid.intro' h0
            clear h0
            have hcn : KM.can F ⟨cf, ca, cg, true⟩ = false := by unfold KM.can; simp [HE.out, HF.out]
            have HCN := Hid.intro' hcn
            clear hcn
            go_quiet (fail)
            go_wp2
            go_meet
            case rel => exact ⟨by rw [HCN.out]; rfl, HM3.out.drewN nq⟩
          · have g3 : (cf == F - 1) = false := by simpa using h0
            have g4 : (cf == IntKind.i64.wrap (F - 1)) = false := by rw [IntKind.wrap_i64]; simp; omega
            have HF := Hid.intro' h0
            clear h0
            have hcn : KM.can F ⟨cf, ca, cg, true⟩ = true := by unfold KM.can; simp [HE.out, HF.out]
            have HCN := Hid.intro' hcn
            clear hcn
            go_quiet (fail)
            go_wp2
            go_meet
            case rel => exact ⟨by rw [HCN.out]; rfl, HM3.out.drewN nq⟩
      case rest =>
        obtain ⟨rfl, HM4⟩ := hcut
        clear HM3
        cases hc : KM.can F ⟨cf, ca, cg, true⟩
        · go_wp2
          go_ret
          have e1 : KM.err F C (FM.hasN t cf) L ⟨cf, ca, cg, true⟩ = 1 := by simp [KM.err, HRR.out, hc]
          have e2 : KM.put F C (FM.hasN t cf) L ⟨cf, ca, cg, true⟩ = L := KM.put_no (by simp [KM.adds, hc])
          refine ⟨ret_int e1.symm, _, ?_, Nx.refl _ _, Kp.ofBelow _ HM4.out.bel⟩
          rw [e2]
          exact HM4.out.bk
        · have HCC := Hid.intro' hc
          obtain ⟨f, rfl⟩ := Int.eq_ofNat_of_zero_le r1
          have hf64 : f < 64 := by omega
          have hfz : (f : Int) < 64 := by omega
          have hz0 : (0 : Int) ≤ (f : Int) := by omega
          have hbit := FM.hasN_nat t f hf64
          go_wp2_with fail
          clear hc
          have k0 : wc.cell? ⟨w.heap.size, 0, none⟩ = some (.int .i64 (f : Int)) := HM4.out.cb.c0
          have mb := HM4.out.bk.rb.cb hf64
          go_quiet (fail)
          have HM5 := Hid.intro' (HM4.out.drewN nq)
          generalize wc.drewN nq = W5 at HM5 ⊢
          clear k0 mb HM4
          cases hb : t.testBit f
          · have HBR : Hid (FM.hasN t (f : Int) = false) := by rw [hbit]; exact hb
            clear hb hbit
            go_wp2
            go_loopw [5, 6] (fun i _ wr => ∃ k : Nat, k ≤ n ∧ i = .int .i64 k ∧ Hid (∀ (j : Nat) y, j < k → L[j]? = some y → KM.like ⟨(f : Int), ca, cg, true⟩ y = false) ∧ Hid (Mr w wr B r F C (.slice ao n cap) t L ⟨(f : Int), ca, cg, true⟩)) (fun i _ _ => n - (intOf i).toNat)
            case atStart => exact ⟨0, Nat.zero_le _, rfl, fun j y h => absurd h (by omega), HM5⟩
            case round =>
              obtain ⟨k, hk, rfl, HLK, HMk⟩ := hrel
              have cv := HMk.out.bk.rb.cv
              by_cases hlt : k < n
              · have hkz : (k : Int) < (n : Int) := by omega
                obtain ⟨y, hy⟩ : ∃ y, L[k]? = some y := ⟨_, List.getElem?_eq_getElem (by have := HN.out; omega)⟩
                obtain ⟨g1, o1, e1, p0, p1, p2, p3⟩ := HMk.out.bk.rw.rv.at hy
                have i1 := fun W => ixK W (cap := cap) e1 hlt
                have HY := Hid.intro' hy
                clear e1 hy
                obtain ⟨yf, ya, yg, yu⟩ := y
                have k0 : wr.cell? ⟨w.heap.size, 0, none⟩ = some (.int .i64 (f : Int)) := HMk.out.cb.c0
                have k1 : wr.cell? ⟨w.heap.size, 1, none⟩ = some (.int .i64 ca) := HMk.out.cb.c1
                have k3 : wr.cell? ⟨w.heap.size, 3, none⟩ = some (.bool true) := HMk.out.cb.c3
                have hlt0 : w.heap.size < wr.heap.size := HMk.out.cb.lt
                have HMa := Hid.intro' (HMk.out.next ((Below.refl wr.heap.size wr).alloc (Nat.le_refl _) (.cells #[.int .i64 yf, .int .i64 ya, .int .i64 yg, .bool yu] 35)))
                cases hl : KM.like ⟨(f : Int), ca, cg, true⟩ ⟨yf, ya, yg, yu⟩
                · have HL := Hid.intro' hl
                  clear hl
                  cases h1 : (yf == (f : Int))
                  · go_wp2
                    go_roundw
                    case rel =>
                      refine ⟨k + 1, by omega, by go_num, (show Hid _ from fun j z hj hz => ?_), HMa⟩
                      by_cases e : j = k
                      · subst e
                        rw [HY.out] at hz
                        cases hz
                        exact HL.out
                      · exact HLK.out j z (by omega) hz
                    case measure => simp [intOf]; omega
                  · cases h2 : (ya == ca)
                    · go_wp2
                      go_roundw
                      case rel =>
                        refine ⟨k + 1, by omega, by go_num, (show Hid _ from fun j z hj hz => ?_), HMa⟩
                        by_cases e : j = k
                        · subst e
                          rw [HY.out] at hz
                          cases hz
                          exact HL.out
                        · exact HLK.out j z (by omega) hz
                      case measure => simp [intOf]; omega
                    · cases yu
                      all_goals
                        go_wp2
                        first
                          | (exfalso
                             have h1' : yf = (f : Int) := by simpa using h1
                             have h2' : ya = ca := by simpa using h2
                             have hl' := HL.out
                             simp [KM.like, h1', h2'] at hl'
                             done)
                          | (go_roundw
                             case rel =>
                               refine ⟨k + 1, by omega, by go_num, (show Hid _ from fun j z hj hz => ?_), HMa⟩
                               by_cases e : j = k
                               · subst e
                                 rw [HY.out] at hz
                                 cases hz
                                 exact HL.out
                               · exact HLK.out j z (by omega) hz
                             case measure => simp [intOf]; omega)
                · have HL := Hid.intro' hl
                  have hl' := hl
                  simp only [KM.like, Bool.and_eq_true, beq_iff_eq] at hl'
                  obtain ⟨⟨h1, h2⟩, h3⟩ := hl'
                  have g1 : (yf == (f : Int)) = true := by simpa using h1.symm
                  have g2 : (ya == ca) = true := by simpa using h2.symm
                  subst h3
                  clear h1 h2 hl
                  go_wp2
                  go_ret
                  have hany : L.any (KM.like ⟨(f : Int), ca, cg, true⟩) = true := List.any_eq_true.2 ⟨_, List.mem_of_getElem? HY.out, HL.out⟩
                  have e1 : KM.err F C (FM.hasN t (f : Int)) L ⟨(f : Int), ca, cg, true⟩ = 0 := by simp only [KM.err, HRR.out, HCC.out, HBR.out, hany]; simp
                  have e2 : KM.put F C (FM.hasN t (f : Int)) L ⟨(f : Int), ca, cg, true⟩ = L := KM.put_no (by unfold KM.adds; rw [hany]; simp)
                  refine ⟨ret_int e1.symm, _, ?_, Nx.refl _ _, Kp.ofBelow _ HMa.out.bel⟩
                  rw [e2]
                  exact HMa.out.bk
              · have hkz : ¬ (k : Int) < (n : Int) := by omega
                have hno : L.any (KM.like ⟨(f : Int), ca, cg, true⟩) = false := by
                  rw [List.any_eq_false]
                  intro x hx
                  obtain ⟨j, hj⟩ := List.getElem?_of_mem hx
                  rw [HLK.out j x (by have := (List.getElem?_eq_some_iff.1 hj).1; have := HN.out; omega) hj]; simp
                have HNO := Hid.intro' hno
                clear hno
                by_cases hlen : 128 ≤ n
                · have hn3 : decide ((128 : Int) ≤ (n : Int)) = true := by simp; omega
                  go_wp2
                  go_ret
                  have e1 : KM.err F C (FM.hasN t (f : Int)) L ⟨(f : Int), ca, cg, true⟩ = 4 := by have hq := HN.out; simp only [KM.err, HRR.out, HCC.out, HBR.out, HNO.out]; simp; omega
                  have e2 : KM.put F C (FM.hasN t (f : Int)) L ⟨(f : Int), ca, cg, true⟩ = L := KM.put_no (by have hq := HN.out; unfold KM.adds; rw [show decide (L.length < 128) = false by simp; omega]; simp)
                  refine ⟨ret_int e1.symm, _, ?_, Nx.refl _ _, Kp.ofBelow _ HMk.out.bel⟩
                  rw [e2]
                  exact HMk.out.bk
                · have hlt8 : L.length < 128 := by have := HN.out; omega
                  have e1 : KM.err F C (FM.hasN t (f : Int)) L ⟨(f : Int), ca, cg, true⟩ = 0 := by simp [KM.err, HRR.out, HCC.out, HBR.out, HNO.out]; omega
                  have e2 : KM.put F C (FM.hasN t (f : Int)) L ⟨(f : Int), ca, cg, true⟩ = L ++ [⟨(f : Int), ca, 0, true⟩] := KM.put_yes (by simp [KM.adds, HRR.out, HCC.out, HBR.out, HNO.out]; omega)
                  have HE1 := Hid.intro' e1
                  have HE2 := Hid.intro' e2
                  have hn3 : decide ((128 : Int) ≤ (n : Int)) = false := by simp; omega
                  have m2 := HMk.out.bk.rb.cv
                  clear e1 e2
                  go_wp2_with fail
                  have k0 : wr.cell? ⟨w.heap.size, 0, none⟩ = some (.int .i64 (f : Int)) := HMk.out.cb.c0
                  have k1 : wr.cell? ⟨w.heap.size, 1, none⟩ = some (.int .i64 ca) := HMk.out.cb.c1
                  have k3 : wr.cell? ⟨w.heap.size, 3, none⟩ = some (.bool true) := HMk.out.cb.c3
                  have hm := HMk.out.drew
                  have hBW : B ≤ wr.heap.size := by have := HMk.out.bk.bb; have := HMk.out.bk.rb.lt; omega
                  have HZ := Hid.intro' (hm.bk.rw.alloc (.cells #[.int .i64 (f : Int), .int .i64 ca, .int .i64 0, .bool true] 35))
                  have HZC := Hid.intro' (CB.new wr.drew ⟨(f : Int), ca, 0, true⟩)
                  have HPA := Hid.intro' (hm.bk.rb.alloc (.cells #[.int .i64 (f : Int), .int .i64 ca, .int .i64 0, .bool true] 35))
                  have m2a := (HMk.out.bk.rb.alloc (.cells #[.int .i64 (f : Int), .int .i64 ca, .int .i64 0, .bool true] 35)).cv
                  have hne : some r ≠ (Value.slice ao n cap).ownBlock := fun e => hm.bk.ne e.symm
                  have HMZ := Hid.intro' hm
                  clear hm
                  go_region_law ((refine step_appendK (by rfl) (.tmp 129) (.tmp 137) (by rfl) B (y := ⟨(f : Int), ca, 0, true⟩) (by rfl) HZ.out (by omega) (by rfl) HZC.out (by simp; omega) ?_; intro g' cap' W8 hr8 hg8 hat8; have p8 := HPA.out.keep (hg8.block r HPA.out.lt hne); have q2 := p8.cv; have q2f := p8.fr 13))
                  all_goals
                    have hz7 : w.heap.size ≤ wr.heap.size := HMZ.out.bel.size
                    have hat : (Value.slice ao n cap).ownBlock = some g' ∨ w.heap.size ≤ g' := by
                      rcases hat8 with h | h
                      · exact .inl h
                      · right
                        rw [h]
                        show w.heap.size ≤ (wr.drew.alloc _).heap.size
                        simp
                        omega
                    have hgb : g' ≠ r := by
                      rintro rfl
                      rcases hat with h | h
                      · exact hne h.symm
                      · have := HMZ.out.old g' (.inl rfl)
                        omega
                    have HR8 := Hid.intro' (hr8.set (b := r) (i := 13) (fun e => hgb (by simpa [Value.ownBlock] using e)) (.slice (some ⟨g', 0, none⟩) (L.length + 1) cap'))
                    have HP8 := Hid.intro' (p8.setv (.slice (some ⟨g', 0, none⟩) (L.length + 1) cap'))
                    have HK8 := Hid.intro' ((((Kp.ofBelow (Fp r (.slice ao n cap)) HMZ.out.bel).alloc (.cells #[.int .i64 (f : Int), .int .i64 ca, .int .i64 0, .bool true] 35)).grown hg8 (fun k _ hk => .inr hk)).set r 13 (.slice (some ⟨g', 0, none⟩) (L.length + 1) cap') (fun _ => .inl rfl))
                    have HBB := Hid.intro' HMZ.out.bk.bb
                    clear hat8 p8 q2 q2f hr8 hg8 HMZ HPA HZ HZC k0 k1 k3 m2 m2a
                    go_wp2
                    go_ret
                    refine ⟨ret_int HE1.out.symm, .slice (some ⟨g', 0, none⟩) (L.length + 1) cap', ?_, ?_, HK8.out⟩
                    · rw [HE2.out]
                      exact ⟨HP8.out, HR8.out, fun e => hgb (by simpa [Value.ownBlock] using e), HBB.out⟩
                    · intro k hk
                      have : g' = k := by simpa [Value.ownBlock] using hk
                      subst this
                      exact hat
          · have HBR : Hid (FM.hasN t (f : Int) = true) := by rw [hbit]; exact hb
            clear hb hbit
            go_wp2
            go_ret
            have e1 : KM.err F C (FM.hasN t (f : Int)) L ⟨(f : Int), ca, cg, true⟩ = 8 := by simp [KM.err, HRR.out, HCC.out, HBR.out]
            have e2 : KM.put F C (FM.hasN t (f : Int)) L ⟨(f : Int), ca, cg, true⟩ = L := KM.put_no (by simp [KM.adds, HBR.out])
            refine ⟨ret_int e1.symm, _, ?_, Nx.refl _ _, Kp.ofBelow _ HM5.out.bel⟩
            rw [e2]
            exact HM5.out.bk

end Go.Proofs.Ytiihnjfknohhbad
