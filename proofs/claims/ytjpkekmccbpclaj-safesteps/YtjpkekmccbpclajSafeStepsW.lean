/- Cars that step, and calls that grow older, are never wrong. -/
import Derived.Test.YtjpkekmccbpclajPk10
import Derived.Test.YtjpkekmccbpclajPk7
import Derived.Test.YtjpkekmccbpclajPk8
import Derived.OrdersHeld
import Derived.Deep.DeepCutAuto
import Derived.Deep.CutBlock
namespace Go.Proofs.Ytjpkekmccbpclaj
open Go.RowKit Go.Shelf

set_option maxRecDepth 100000 in
set_option maxHeartbeats 8000000 in
theorem SafeSteps_any (s : St) (va vd vc : Value) (a : List Cr) (ds : List (Bool × Int)) (L : List Ca) (ju : Int) (W : World) (ha : RK (fun _ => True) W va a) (hd : RD (fun _ => True) W vd ds) (hc : RC (fun _ => True) W vc L) :
    Calls Try.prog 4 #[.agg (sv s).toArray, va, vd, vc, .int .i64 ju] W fun e w' => e = .returned (.bool true) ∧ Below W.heap.size W w' := by
  obtain ⟨aa, ka, rfl, -⟩ := ha.form
  obtain ⟨ad, kd, rfl, -⟩ := hd.form
  obtain ⟨ac, kc, rfl, -⟩ := hc.form
  have HA := Hid.intro' ha
  have HD := Hid.intro' hd
  have HC := Hid.intro' hc
  have HB0 := Hid.intro' ((Below.refl W.heap.size W).alloc (Nat.le_refl _) (.cells (sv s).toArray 23))
  have HS0 := Hid.intro' (SB.new W s)
  have HSP := Hid.intro' (speaks16_any (W.alloc (.cells (sv s).toArray 23)))
  clear ha hd hc
  obtain ⟨na, hna⟩ : ∃ n, a.length = n := ⟨_, rfl⟩
  obtain ⟨nd, hnd⟩ : ∃ n, ds.length = n := ⟨_, rfl⟩
  obtain ⟨nc, hnc⟩ : ∃ n, L.length = n := ⟨_, rfl⟩
  have HNA := Hid.intro' hna
  have HND := Hid.intro' hnd
  have HNC := Hid.intro' hnc
  rw [hna] at HA ⊢
  rw [hnd] at HD ⊢
  rw [hnc] at HC ⊢
  clear hna hnd hnc
  go_enter Try.func4, Try.ntmps4
  go_wp2_with fail
  generalize W.alloc (.cells (sv s).toArray 23) = V at HB0 HS0 HSP ⊢
  refine HSP.out.mono ?_
  rintro e W1 ⟨rfl, hb1⟩
  have HB1 := Hid.intro' (below_class HB0.out hb1)
  have HS1 := Hid.intro' (HS0.out.below' hb1)
  clear hb1 HB0 HS0 HSP
  by_cases hr : SM.Rt s
  · have HR := Hid.intro' hr
    go_wp2_with (refine wpList_load23 rfl _ rfl _ s rfl HS1.out ?_)
    refine (rright_t s hr _).mono ?_
    rintro e W2 ⟨rfl, hb2⟩
    have HB2 := Hid.intro' (below_class HB1.out hb2)
    have HS2 := Hid.intro' (HS1.out.below' hb2)
    have m1 : W2.cell? ⟨W.heap.size, 1, none⟩ = some (.int .i64 s.ca) := HS2.out.cell 1
    clear hb2 HB1 HS1 hr
    by_cases q : ((na : Int) = s.ca ∧ (nd : Int) = s.ca) ∧ nc ≤ 100
    · obtain ⟨⟨q1, q2⟩, q3⟩ := q
      have HQ1 := Hid.intro' q1
      have HQ2 := Hid.intro' q2
      have p1 : ((na : Int) != s.ca) = false := by simp [q1]
      have p2 : ((nd : Int) != s.ca) = false := by simp [q2]
      have p3 : ¬ ((100 : Int) < (nc : Int)) := by omega
      have HN0 : Hid (Ns s W (W2.alloc (.cells #[] 36)) (.slice (some ⟨W2.heap.size, 0, none⟩) 0 0) []) := by
        have hlt : W.heap.size < W2.heap.size := (Array.getElem?_eq_some_iff.1 HS2.out).1
        have hal := (Below.refl W2.heap.size W2).alloc (Nat.le_refl _) (.cells #[] 36)
        exact ⟨HS2.out.below' hal, OG.nil ckv 8 W2 (by omega), below_class HB2.out hal⟩
      have hn8 : na ≤ 8 := by have := HR.out.ca2; omega
      have hnd : nd = na := by omega
      have HE := Hid.intro' hnd
      clear q1 q2 HB2 HS2 hnd
      go_wp2_with fail
      generalize W2.alloc (.cells #[] 36) = V2 at HN0 ⊢
      generalize (Value.slice (some ⟨W2.heap.size, 0, none⟩) 0 0) = v0 at HN0 ⊢
      clear m1 p1 p2 p3
      obtain ⟨j1, hj1⟩ : ∃ j, bits BinOp.and IntKind.i64 ju 1 = j := ⟨_, rfl⟩
      obtain ⟨k, hk1⟩ : ∃ k, (j1 == 1) = k := ⟨_, rfl⟩
      go_loopw [11, 48] (fun nv iv wr => ∃ n : Nat, n ≤ na ∧ iv = .int .i64 (n : Int) ∧ Hid (Ns s W wr nv (SF.stp s a ds k n)) ∧ Hid (∀ (i : Nat) x, i < n → a[i]? = some x → CM.Rc s x)) (fun _ iv _ => na - (intOf iv).toNat)
      case atStart => exact ⟨0, Nat.zero_le _, rfl, HN0, fun i x h => absurd h (by omega)⟩
      case round =>
        clear HN0
        obtain ⟨n, hn, rfl, HN, HRC⟩ := hrel
        obtain ⟨ao, co, e⟩ := HN.out.ow.slice
        subst e
        have hsl : (SF.stp s a ds k n).length = n := SF.stp_len (by have := HNA.out; omega) (by have := HND.out; have := HE.out; omega)
        have HSL := Hid.intro' hsl
        rw [hsl] at HN ⊢
        clear hsl
        by_cases hlt : n < na
        · have hnz : (n : Int) < (na : Int) := by omega
          obtain ⟨c, hc⟩ : ∃ c, a[n]? = some c := ⟨_, List.getElem?_eq_getElem (by have := HNA.out; omega)⟩
          obtain ⟨ga, oa, e, hga, hra⟩ := (HA.out.below' HN.out.be).at hc
          subst e
          have hixa : ∀ W : World, (Instr.indexAt 24 (.slice (some ⟨ga, oa, none⟩) na ka) (.int .i64 (n : Int))).run Try.prog W = .ok (.pointer (some ⟨ga, oa + n * 8, none⟩)) W := fun W => ixK W hlt
          have HRA := Hid.intro' hra
          have HCC := Hid.intro' hc
          have hal := (Below.refl wr.heap.size wr).alloc (Nat.le_refl _) (.cells #[.int .i64 c.fl, .int .i64 c.tg, .int .i64 c.ti, .int .i64 c.d.ph, .int .i64 c.d.le, .int .i64 c.d.ru, .bool c.d.he, .bool c.fa] 36)
          have HN1 := Hid.intro' (HN.out.next hal)
          have HC1 := Hid.intro' (CB.new wr c)
          have HOW : Hid (∀ g, (Value.slice ao n co).ownBlock = some g → g < wr.heap.size) := fun g hg => (HN.out.ow.lt g hg).2
          clear hc hra hga hal HN
          go_upto_region 9 with (refine wpList_loadK rfl _ rfl _ _ rfl HRA.out ?_)
          have HCB : Hid (∀ g, (Value.slice ao n co).ownBlock = some g → g < wr.heap.size) := HOW
          generalize wr.alloc (.cells #[.int .i64 c.fl, .int .i64 c.tg, .int .i64 c.ti, .int .i64 c.d.ph, .int .i64 c.d.le, .int .i64 c.d.ru, .bool c.d.he, .bool c.fa] 36) = V3 at HN1 HC1 ⊢
          generalize wr.heap.size = cb at HC1 HCB ⊢
          clear HRA hixa HOW
          cases hcr : crB s c
          · go_wp2_with (first | (refine wpList_load23 rfl _ rfl _ s rfl HN1.out.sb ?_) | (refine wpList_loadC rfl _ rfl _ rfl HC1.out ?_))
            refine (rcright_f s c hcr _).mono ?_
            rintro e W4 ⟨rfl, hb4⟩
            have HB4 := Hid.intro' (below_class HN1.out.be hb4)
            clear hb4 HN1 HC1
            go_wp2
            go_ret
            exact ⟨rfl, HB4.out⟩
          · go_wp2_with (first | (refine wpList_load23 rfl _ rfl _ s rfl HN1.out.sb ?_) | (refine wpList_loadC rfl _ rfl _ rfl HC1.out ?_))
            refine (rcright_t s c hcr _).mono ?_
            rintro e W4 ⟨rfl, hb4⟩
            have HN4 := Hid.intro' (HN1.out.next hb4)
            have HC4 := Hid.intro' (HC1.out.below' hb4)
            have hrc : CM.Rc s c := (crB_iff s c).1 hcr
            have HRK := Hid.intro' hrc
            obtain ⟨d, hd⟩ : ∃ d, ds[n]? = some d := ⟨_, List.getElem?_eq_getElem (by have := HND.out; have := HE.out; omega)⟩
            obtain ⟨gd, od, e, hgd, hrd⟩ := (HD.out.below' HN4.out.be).at hd
            subst e
            have hixd : ∀ W : World, (Instr.indexAt 31 (.slice (some ⟨gd, od, none⟩) nd kd) (.int .i64 (n : Int))).run Try.prog W = .ok (.pointer (some ⟨gd, od + n * 2, none⟩)) W := fun W => ixD W (by have := HE.out; omega)
            have HDD := Hid.intro' hd
            have HOL : Hid (∀ g, (Value.slice ao n co).ownBlock = some g → W.heap.size + 1 ≤ g ∧ g < cb) := fun g hg => ⟨(HN4.out.ow.lt g hg).1, HCB.out g hg⟩
            have HGD : Hid (gd < W.heap.size + 1) := by
              obtain ⟨_, _, e, h, _⟩ := HD.out.at HDD.out
              cases e
              show _ < _
              omega
            have HST : Hid (Calls Try.prog 12 #[.agg (sv s).toArray, .agg #[.int .i64 c.fl, .int .i64 c.tg, .int .i64 c.ti, .int .i64 c.d.ph, .int .i64 c.d.le, .int .i64 c.d.ru, .bool c.d.he, .bool c.fa], .agg #[.bool d.1, .int .i64 d.2], .bool k] W4.drew fun e w' => e = .returned (cv (CM.step s c d.1 d.2 k)) ∧ Below W4.drew.heap.size W4.drew w') := rcstep_any s c hrc d.1 d.2 k W4.drew
            have HSN := Hid.intro' (SF.stp_next (s := s) (k := k) HCC.out hd)
            have HS0 : Hid (SB W4.drew W.heap.size s ∧ CB W4.drew cb c ∧ W4.drew.rangeAt gd (od + n * 2) (dcv d)) := ⟨HN4.out.sb.below' (Below.refl _ _).drew, HC4.out.below' (Below.refl _ _).drew, rng_below hrd hgd (Below.refl _ _).drew⟩
            have HN5 := Hid.intro' (HN4.out.next (Below.refl _ _).drew)
            clear hd hrd hgd hb4 hcr hrc HN1 HC1 HN4 HC4
            go_upto_region 11 with (fail)
            refine wp_nrm' ?_
            refine wp_region_held (S := fun w' => SB w' W.heap.size s ∧ CB w' cb c ∧ w'.rangeAt gd (od + n * 2) (dcv d)) (by kernel_rfl) ?_
            change wpAnyH _ _ _ _ _ _ _ _ (World.drew _)
            generalize W4.drew = X0 at HST HS0 HN5 ⊢
            have HDO := HD
            clear HD
            have HD := HS0
            refine wpAnyH_take (i := 0) rfl (by kernel_rfl) (by kernel_rfl) (by kernel_rfl) (fun _ _ _ h => by cases h.1) (.inl ⟨rfl, fun _ _ => rfl⟩) HD.out ?_
            generalize hKK : wpAnyH Try.prog _ _ _ _ _ _ = KK
            go_simp
            subst hKK
            refine wpAnyH_take (i := 1) (v := .agg (sv s).toArray) rfl (by kernel_rfl) (by kernel_rfl) (by kernel_rfl) (fun _ _ _ h => by cases h.1) (.inl ⟨rfl, fun w hw => run_load23' _ _ s rfl rfl hw.1⟩) HD.out ?_
            generalize hKK : wpAnyH Try.prog _ _ _ _ _ _ = KK
            go_simp
            subst hKK
            refine wpAnyH_take (i := 2) (v := .agg #[.int .i64 c.fl, .int .i64 c.tg, .int .i64 c.ti, .int .i64 c.d.ph, .int .i64 c.d.le, .int .i64 c.d.ru, .bool c.d.he, .bool c.fa]) rfl (by kernel_rfl) (by kernel_rfl) (by kernel_rfl) (fun _ _ _ h => by cases h.1) (.inl ⟨rfl, fun w hw => run_loadC' _ _ rfl rfl hw.2.1⟩) HD.out ?_
            generalize hKK : wpAnyH Try.prog _ _ _ _ _ _ = KK
            go_simp
            subst hKK
            refine wpAnyH_take (i := 3) rfl (by kernel_rfl) (by kernel_rfl) (by kernel_rfl) (fun _ _ _ h => by cases h.1) (.inl ⟨rfl, fun _ _ => rfl⟩) HD.out ?_
            generalize hKK : wpAnyH Try.prog _ _ _ _ _ _ = KK
            go_simp
            subst hKK
            refine wpAnyH_take (i := 4) rfl (by kernel_rfl) (by kernel_rfl) (by kernel_rfl) (fun _ _ _ h => by cases h.1) (.inl ⟨rfl, fun _ _ => rfl⟩) HD.out ?_
            generalize hKK : wpAnyH Try.prog _ _ _ _ _ _ = KK
            go_simp
            subst hKK
            refine wpAnyH_take (i := 5) (v := .pointer (some ⟨gd, od + n * 2, none⟩)) rfl (by kernel_rfl) (by kernel_rfl) (by kernel_rfl) (fun _ _ _ h => by cases h.1) (.inl ⟨rfl, fun w _ => by go_simp⟩) HD.out ?_
            generalize hKK : wpAnyH Try.prog _ _ _ _ _ _ = KK
            go_simp
            subst hKK
            refine wpAnyH_take (i := 6) (v := .agg #[.bool d.1, .int .i64 d.2]) rfl (by kernel_rfl) (by kernel_rfl) (by kernel_rfl) (fun _ _ _ h => by cases h.1) (.inl ⟨rfl, fun w hw => run_loadDo' _ _ _ rfl rfl hw.2.2⟩) HD.out ?_
            generalize hKK : wpAnyH Try.prog _ _ _ _ _ _ = KK
            go_simp
            subst hKK
            refine wpAnyH_take (i := 7) rfl (by kernel_rfl) (by kernel_rfl) (by kernel_rfl) (fun _ _ _ h => by cases h.1) (.inl ⟨rfl, fun _ _ => rfl⟩) HD.out ?_
            generalize hKK : wpAnyH Try.prog _ _ _ _ _ _ = KK
            go_simp
            subst hKK
            refine wpAnyH_take (i := 8) (v := .int .i64 j1) rfl (by kernel_rfl) (by kernel_rfl) (by kernel_rfl) (fun _ _ _ h => by cases h.1) (.inl ⟨rfl, fun w _ => by go_simp⟩) HD.out ?_
            generalize hKK : wpAnyH Try.prog _ _ _ _ _ _ = KK
            go_simp
            subst hKK
            refine wpAnyH_take (i := 9) (v := .bool k) rfl (by kernel_rfl) (by kernel_rfl) (by kernel_rfl) (fun _ _ _ h => by cases h.1) (.inl ⟨rfl, fun w _ => by go_simp⟩) HD.out ?_
            generalize hKK : wpAnyH Try.prog _ _ _ _ _ _ = KK
            go_simp
            subst hKK
            refine wpAnyH_all (rs := [10]) (by kernel_rfl) (by simp) (fun ii hii => ?_)
            obtain rfl : ii = 10 := by simpa using hii
            clear hii
            refine wpOp_call (f := 12) (args := #[.agg (sv s).toArray, .agg #[.int .i64 c.fl, .int .i64 c.tg, .int .i64 c.ti, .int .i64 c.d.ph, .int .i64 c.d.le, .int .i64 c.d.ru, .bool c.d.he, .bool c.fa], .agg #[.bool d.1, .int .i64 d.2], .bool k]) rfl rfl (by go_simp) HST.out ?_
            rintro e X1 ⟨rfl, hb1⟩
            obtain ⟨y, hy⟩ : ∃ y, CM.step s c d.1 d.2 k = y := ⟨_, rfl⟩
            rw [hy] at HSN ⊢
            have HS1 : Hid (SB X1 W.heap.size s ∧ CB X1 cb c ∧ X1.rangeAt gd (od + n * 2) (dcv d)) := ⟨HS0.out.1.below' hb1, HS0.out.2.1.below' hb1, rng_below HS0.out.2.2 (by have := HGD.out; have := HN5.out.lt; omega) hb1⟩
            have HN6 := Hid.intro' (HN5.out.next hb1)
            refine ⟨_, rfl, HS1.out, ?_⟩
            clear hb1 hy HST HS0 HN5 HD
            generalize hKK : wpAnyH Try.prog _ _ _ _ _ _ = KK
            unfold cv
            go_simp
            subst hKK
            refine wpAnyH_all (rs := [11]) (by kernel_rfl) (by simp) (fun ii hii => ?_)
            obtain rfl : ii = 11 := by simpa using hii
            clear hii
            have hal := (Below.refl X1.heap.size X1).alloc (Nat.le_refl _) (.cells #[.int .i64 y.fl, .int .i64 y.tg, .int .i64 y.ti, .int .i64 y.d.ph, .int .i64 y.d.le, .int .i64 y.d.ru, .bool y.d.he, .bool y.fa] 36)
            have HS2 : Hid (SB (X1.alloc (.cells #[.int .i64 y.fl, .int .i64 y.tg, .int .i64 y.ti, .int .i64 y.d.ph, .int .i64 y.d.le, .int .i64 y.d.ru, .bool y.d.he, .bool y.fa] 36)) W.heap.size s ∧ CB (X1.alloc (.cells #[.int .i64 y.fl, .int .i64 y.tg, .int .i64 y.ti, .int .i64 y.d.ph, .int .i64 y.d.le, .int .i64 y.d.ru, .bool y.d.he, .bool y.fa] 36)) cb c ∧ (X1.alloc (.cells #[.int .i64 y.fl, .int .i64 y.tg, .int .i64 y.ti, .int .i64 y.d.ph, .int .i64 y.d.le, .int .i64 y.d.ru, .bool y.d.he, .bool y.fa] 36)).rangeAt gd (od + n * 2) (dcv d)) := ⟨HS1.out.1.below' hal, HS1.out.2.1.below' hal, rng_below HS1.out.2.2 (by have := HGD.out; have := HN6.out.lt; omega) hal⟩
            have HN7 := Hid.intro' (HN6.out.next hal)
            have HY7 : Hid ((X1.alloc (.cells #[.int .i64 y.fl, .int .i64 y.tg, .int .i64 y.ti, .int .i64 y.d.ph, .int .i64 y.d.le, .int .i64 y.d.ru, .bool y.d.he, .bool y.fa] 36)).rangeAt X1.heap.size 0 (ckv y)) := (CB.new X1 y).rng
            have HZ7 : Hid (W.heap.size + 1 ≤ (X1.alloc (.cells #[.int .i64 y.fl, .int .i64 y.tg, .int .i64 y.ti, .int .i64 y.d.ph, .int .i64 y.d.le, .int .i64 y.d.ru, .bool y.d.he, .bool y.fa] 36)).heap.size) := HN7.out.lt
            refine wpOp_val (v := .slice (some ⟨X1.heap.size, 0, none⟩) 1 1) (w' := X1.alloc (.cells #[.int .i64 y.fl, .int .i64 y.tg, .int .i64 y.ti, .int .i64 y.d.ph, .int .i64 y.d.le, .int .i64 y.d.ru, .bool y.d.he, .bool y.fa] 36)) rfl rfl (by go_simp) ⟨HS2.out, ?_⟩
            clear hal HS1 HN6
            generalize X1.alloc (.cells #[.int .i64 y.fl, .int .i64 y.tg, .int .i64 y.ti, .int .i64 y.d.ph, .int .i64 y.d.le, .int .i64 y.d.ru, .bool y.d.he, .bool y.fa] 36) = X2 at HS2 HN7 HY7 HZ7 ⊢
            generalize X1.heap.size = yb at HY7 ⊢
            generalize hKK : wpAnyH Try.prog _ _ _ _ _ _ = KK
            go_simp
            subst hKK
            refine wpAnyH_all (rs := [12]) (by kernel_rfl) (by simp) (fun ii hii => ?_)
            obtain rfl : ii = 12 := by simpa using hii
            clear hii
            have hn6 : n ≤ 1000000 := by omega
            refine wpOp_appCr rfl rfl _ _ rfl (W.heap.size + 1) (.slice ao n co) (SF.stp s a ds k n) rfl HN7.out.ow yb 1 y rfl HY7.out (by rw [HSL.out]; exact hn6) HZ7.out ?_
            intro v8 X3 ho8 hg8
            have HN8 : Hid (Ns s W X3 v8 (SF.stp s a ds k (n + 1))) := by rw [HSN.out]; exact HN7.out.grown hg8 ho8
            have hcbl : cb < X2.heap.size := HS2.out.2.1.lt
            have HS3 : Hid (SB X3 W.heap.size s ∧ CB X3 cb c ∧ X3.rangeAt gd (od + n * 2) (dcv d)) := ⟨HN8.out.sb, (hg8.block cb hcbl (fun e => by have := HOL.out cb e.symm; omega)).trans HS2.out.2.1, fun j u hu => (World.cell?_of_block (a := ⟨gd, od + n * 2 + j, none⟩) (hg8.block gd (by have := HGD.out; have := HN7.out.lt; omega) (fun e => by have := HOL.out gd e.symm; have := HGD.out; omega))).trans (HS2.out.2.2 j u hu)⟩
            refine ⟨HS3.out, ?_⟩
            clear ho8 hg8 hcbl HN7 HS2 HY7 HZ7
            generalize hKK : wpAnyH Try.prog _ _ _ _ _ _ = KK
            go_simp
            subst hKK
            refine wpAnyH_take (i := 13) rfl (by kernel_rfl) (by kernel_rfl) (by kernel_rfl) (fun _ _ _ h => by cases h.1) (.inl ⟨rfl, fun _ _ => rfl⟩) HS3.out ?_
            generalize hKK : wpAnyH Try.prog _ _ _ _ _ _ = KK
            go_simp
            subst hKK
            refine wpAnyH_done (by kernel_rfl) ⟨rfl, ?_⟩ _
            have HRC2 : Hid (∀ (i : Nat) x, i < n + 1 → a[i]? = some x → CM.Rc s x) := fun i x hi hx => by
              by_cases e : i = n
              · subst e; rw [HCC.out] at hx; cases hx; exact HRK.out
              · exact HRC.out i x (by omega) hx
            clear HS3 HOL HGD HRC
            go_wp2
            go_roundw
            case rel => exact ⟨n + 1, by omega, by go_num, HN8, HRC2⟩
            case measure => simp [intOf]; omega
        · have hnz : ¬ ((n : Int) < (na : Int)) := by omega
          obtain rfl : n = na := by omega
          obtain ⟨bb, HBB⟩ : ∃ x, Hid (SF.stp s a ds k n = x) := ⟨_, Hid.intro' rfl⟩
          rw [HBB.out] at HN HSL
          have HSF : Hid (∀ (i : Nat) x y, a[i]? = some x → bb[i]? = some y → sfB s x y = true) := fun i x y hx hy => by
            rw [← HBB.out] at hy
            obtain ⟨o, g, rfl⟩ := SF.stp_at hx (by have := HNA.out; omega) (by have := HND.out; have := HE.out; omega) hy
            have hi := (List.getElem?_eq_some_iff.1 hx).1
            exact SF.sf_step (HRC.out i x (by have := HNA.out; omega) hx) o g k
          have HC0 := Hid.intro' (Cs.new HN.out)
          clear HN HBB hlt hn hj1 hk1 HD HND HE HQ2
          have hj3 : ∀ x : Int, bits BinOp.and IntKind.i64 x 65535 = x % 65536 := i64_and16
          have hmk : ∀ w, (Instr.makeMap 41 none).run Try.prog w = .ok (.map (some w.heap.size)) (w.alloc (.map #[] 0)) := fun w => by simp [Instr.makeMap]
          go_wp2_with fail
          generalize ((wr.alloc (.cells #[] 43)).alloc (.map #[] 0)).alloc (.cells #[] 43) = V5 at HC0 ⊢
          generalize (Value.slice (some ⟨wr.heap.size + 1 + 1, 0, none⟩) 0 0) = vw0 at HC0 ⊢
          generalize wr.heap.size + 1 = mb at HC0 ⊢
          generalize (Value.slice (some ⟨wr.heap.size, 0, none⟩) 0 0) = vo0 at HC0 ⊢
          clear hmk
          rename World => W0
          go_loopw [14, 16, 76] (fun ov wv iv wr => ∃ i : Nat, i ≤ nc ∧ iv = .int .i64 (i : Int) ∧ Hid (Cs s W wr (.slice ao n co) ov wv mb bb ((SF.dd L i).map SF.old) (SF.dd L i) ((SF.dd L i).map SF.kz))) (fun _ _ iv _ => nc - (intOf iv).toNat)
          case atStart => exact ⟨0, Nat.zero_le _, rfl, HC0⟩
          case round =>
            clear HC0
            obtain ⟨i, hi, rfl, HS⟩ := hrel
            obtain ⟨ao1, co1, e⟩ := HS.out.oo.slice
            subst e
            obtain ⟨aw1, cw1, e⟩ := HS.out.ow.slice
            subst e
            rw [List.length_map] at HS ⊢
            obtain ⟨M, hM⟩ : ∃ M, SF.dd L i = M := ⟨_, rfl⟩
            rw [hM] at HS ⊢
            obtain ⟨m, hm⟩ : ∃ m, M.length = m := ⟨_, rfl⟩
            have HMM := Hid.intro' hm
            have hm9 : m ≤ 100 := by have := SF.dd_len L i; rw [hM, hm] at this; omega
            rw [hm] at HS ⊢
            have HM := Hid.intro' hM
            clear hM hm
            by_cases hlt : i < nc
            · have hiz : (i : Int) < (nc : Int) := by omega
              obtain ⟨c, hc⟩ : ∃ c, L[i]? = some c := ⟨_, List.getElem?_eq_getElem (by have := HNC.out; omega)⟩
              obtain ⟨gc, oc, e, hgc, hrc⟩ := (HC.out.below' HS.out.ns.be).rng hc
              subst e
              have hixc : ∀ W : World, (Instr.indexAt 25 (.slice (some ⟨gc, oc, none⟩) nc kc) (.int .i64 (i : Int))).run Try.prog W = .ok (.pointer (some ⟨gc, oc + i * 4, none⟩)) W := fun W => ixCa W hlt
              have HRC2 := Hid.intro' hrc
              have HCI := Hid.intro' hc
              have hal := (Below.refl wr.heap.size wr).alloc (Nat.le_refl _) (.cells #[.int .i64 c.fl, .int .i64 c.ca, .int .i64 c.ag, .bool c.up] 43)
              have HS1 := Hid.intro' (HS.out.next hal)
              have HK1 := Hid.intro' (KB.new wr c)
              have HLT : Hid (∀ g, ((Value.slice aw1 m cw1).ownBlock = some g ∨ (Value.slice ao1 m co1).ownBlock = some g ∨ (Value.slice ao n co).ownBlock = some g ∨ g = mb) → g < wr.heap.size) := HS.out.lt
              have HWB : Hid (W.heap.size + 1 ≤ wr.heap.size) := HS.out.ns.lt
              clear hc hrc hgc hal HS
              go_upto_region 18 with (refine wpList_loadCl rfl _ rfl _ _ rfl HRC2.out ?_)
              generalize wr.alloc (.cells #[.int .i64 c.fl, .int .i64 c.ca, .int .i64 c.ag, .bool c.up] 43) = V6 at HS1 HK1 ⊢
              generalize wr.heap.size = cb at HK1 HLT HWB ⊢
              clear HRC2 hixc
              obtain ⟨g9, hg9⟩ : ∃ g, c.ag % 65536 = g := ⟨_, rfl⟩
              have HG9 : Hid (SF.cut c = ⟨c.fl, c.ca, g9, c.up⟩) := by show _ = _; unfold SF.cut; rw [hg9]
              have hg0 : 0 ≤ g9 ∧ g9 ≤ 65535 := by omega
              have hne : ∀ k, ((Value.slice aw1 m cw1).ownBlock = some k ∨ (Value.slice ao1 m co1).ownBlock = some k ∨ (Value.slice ao n co).ownBlock = some k ∨ k = mb) → k ≠ cb := fun k hk => by have := HLT.out k hk; omega
              have c2 : V6.cell? ⟨cb, 2, none⟩ = some (.int .i64 c.ag) := HK1.out.c2
              have e2 := HK1.out.fr 2
              have HS2 := Hid.intro' (HS1.out.put (j := 2) (.int .i64 g9) hne HWB.out)
              have HK2 := Hid.intro' (HK1.out.set2 g9)
              have HSZ : Hid (cb < V6.heap.size) := HK1.out.lt
              clear HS1 HK1 hne
              go_upto_region 19 with (fail)
              clear c2 e2 hg9
              have HSZ2 : Hid (cb < (V6.setCell ⟨cb, 2, none⟩ (.int .i64 g9)).heap.size) := HK2.out.lt
              generalize V6.setCell ⟨cb, 2, none⟩ (.int .i64 g9) = V7 at HS2 HK2 HSZ2 ⊢
              clear HSZ
              have hal := (Below.refl V7.heap.size V7).alloc (Nat.le_refl _) (.cells #[.int .i64 c.fl, .int .i64 c.ca, .int .i64 g9, .bool c.up] 43)
              have HS3 := Hid.intro' (HS2.out.next hal)
              have HK3 := Hid.intro' (HK2.out.below' hal)
              have HZ3 := Hid.intro' (KB.new V7 ⟨c.fl, c.ca, g9, c.up⟩)
              have HW7 : Hid (W.heap.size + 1 ≤ V7.heap.size) := by have := HWB.out; have := HSZ2.out; show _ ≤ _; omega
              have HR2 := Hid.intro' HK2.out.rng
              clear hal HS2
              go_upto_region 20 with (refine wpList_loadCl (c := ⟨c.fl, c.ca, g9, c.up⟩) rfl _ rfl _ _ rfl HR2.out ?_)
              clear HR2 HK2
              change Hid (KB (V7.alloc (.cells #[.int .i64 c.fl, .int .i64 c.ca, .int .i64 g9, .bool c.up] 43)) V7.heap.size ⟨c.fl, c.ca, g9, c.up⟩) at HZ3
              generalize V7.alloc (.cells #[.int .i64 c.fl, .int .i64 c.ca, .int .i64 g9, .bool c.up] 43) = V8 at HS3 HK3 HZ3 ⊢
              generalize V7.heap.size = kb at HZ3 HSZ2 HW7 ⊢
              have hne : ∀ k, ((Value.slice aw1 m cw1).ownBlock = some k ∨ (Value.slice ao1 m co1).ownBlock = some k ∨ (Value.slice ao n co).ownBlock = some k ∨ k = mb) → k ≠ kb := fun k hk => by have := HLT.out k hk; have := HSZ2.out; omega
              have z2 : V8.cell? ⟨kb, 2, none⟩ = some (.int .i64 g9) := HZ3.out.c2
              have y2 := HZ3.out.fr 2
              have HS4 := Hid.intro' (HS3.out.put (j := 2) (.int .i64 0) hne HW7.out)
              have HK4 := Hid.intro' (HK3.out.other (j := 2) (g := kb) (.int .i64 0) (by have := HSZ2.out; omega))
              have HZ4 := Hid.intro' (HZ3.out.set2 0)
              clear HS3 HK3 HZ3 hne
              go_upto_region 21 with (fail)
              clear z2 y2
              generalize V8.setCell ⟨kb, 2, none⟩ (.int .i64 0) = V9 at HS4 HK4 HZ4 ⊢
              obtain ⟨q, hq⟩ : ∃ q, M.any (fun x => SF.alk x c) = q := ⟨_, rfl⟩
              have hlk : (Instr.lookup 41 (.map (some mb)) (.agg #[.int .i64 c.fl, .int .i64 c.ca, .int .i64 0, .bool c.up]) false).run Try.prog V9 = .ok (.bool q) V9 := by
                have h := HS4.out.ms.look (SF.kz c)
                rw [SF.any_kz, hq] at h
                exact h
              have HRZ := Hid.intro' HZ4.out.rng
              have HDD : Hid (SF.dd L (i + 1) = if q = true then M else M ++ [SF.cut c]) := by
                show (match L[i]? with | some c => if (SF.dd L i).any (fun x => SF.alk x c) then SF.dd L i else SF.dd L i ++ [SF.cut c] | none => SF.dd L i) = _
                rw [HCI.out, HM.out]
                simp only [hq]
              have HQ := Hid.intro' hq
              clear hq
              cases q
              · go_upto_region 22 with (refine wpList_loadCl (c := ⟨c.fl, c.ca, 0, c.up⟩) rfl _ rfl _ _ rfl HRZ.out ?_)
                obtain ⟨V10, hlay, hs10, hz10, hk10⟩ := HS4.out.lay (c := SF.kz c) (by rw [SF.any_kz]; exact HQ.out)
                change (Instr.mapUpdate 41 (.map (some mb)) (.agg #[.int .i64 c.fl, .int .i64 c.ca, .int .i64 0, .bool c.up]) (.bool true)).run Try.prog V9 = .ok () V10 at hlay
                have HKA : Hid (KB V10 cb ⟨c.fl, c.ca, g9, c.up⟩) := (hk10 cb (fun e => by have := HLT.out mb (.inr (.inr (.inr rfl))); omega)).trans HK4.out
                have HSA := Hid.intro' hs10
                have HDE : Hid (SF.dd L (i + 1) = M ++ [SF.cut c]) := HDD.out
                clear hs10 hz10 hk10 HS4 HK4 hlk HDD HQ HM
                go_upto_region 23 with (refine wpList_loadCl (c := ⟨c.fl, c.ca, 0, c.up⟩) rfl _ rfl _ _ rfl HRZ.out ?_)
                clear hlay HRZ HZ4
                have hal := (Below.refl V10.heap.size V10).alloc (Nat.le_refl _) (.cells #[.int .i64 c.fl, .int .i64 c.ca, .int .i64 g9, .bool c.up] 43)
                have HSB := Hid.intro' (HSA.out.next hal)
                have HKB := Hid.intro' (HKA.out.below' hal)
                have HRA := Hid.intro' HKA.out.rng
                have HLB : Hid ((V10.alloc (.cells #[.int .i64 c.fl, .int .i64 c.ca, .int .i64 g9, .bool c.up] 43)).rangeAt V10.heap.size 0 (cav ⟨c.fl, c.ca, g9, c.up⟩)) := (KB.new V10 ⟨c.fl, c.ca, g9, c.up⟩).rng
                have HZB : Hid (W.heap.size + 1 ≤ (V10.alloc (.cells #[.int .i64 c.fl, .int .i64 c.ca, .int .i64 g9, .bool c.up] 43)).heap.size) := HSB.out.ns.lt
                have hm6 : M.length ≤ 1000000 := by rw [HMM.out]; omega
                clear hal
                go_wp2_with (first | (refine wpList_loadCl (c := ⟨c.fl, c.ca, g9, c.up⟩) rfl _ rfl _ _ rfl HRA.out ?_) | (at_builtin; refine wpList_appCa rfl _ _ rfl (W.heap.size + 1) (.slice aw1 m cw1) M rfl HSB.out.ow V10.heap.size 1 ⟨c.fl, c.ca, g9, c.up⟩ rfl HLB.out hm6 HZB.out ?_))
                intro g11 c11 V11 ho11 hg11 hat11 hlt11
                have HSC := Hid.intro' (HSB.out.addW hg11 ho11 (fun g e => by have e2 := own_some e; subst e2; exact hat11.imp id (fun e => by rw [e]; simp)))
                have HKC : Hid (KB V11 cb ⟨c.fl, c.ca, g9, c.up⟩) := (hg11.block cb HKB.out.lt (fun e => by have := HLT.out cb (.inl e.symm); omega)).trans HKB.out
                have hcl : cb < V11.heap.size := HKC.out.lt
                rw [HMM.out] at HSC ⊢
                have hcbV : cb < V10.heap.size := HKA.out.lt
                have hne : ∀ k, ((Value.slice (some ⟨g11, 0, none⟩) (m + 1) c11).ownBlock = some k ∨ (Value.slice ao1 m co1).ownBlock = some k ∨ (Value.slice ao n co).ownBlock = some k ∨ k = mb) → k ≠ cb := fun k hk => by
                  rcases hk with e | hk
                  · have e2 := own_some e
                    subst e2
                    rcases hat11 with e3 | e3
                    · have := HLT.out g11 (.inl e3); omega
                    · omega
                  · have := HLT.out k (.inr hk); omega
                clear ho11 hg11 hat11 HSA HSB HKA HKB HRA HLB HZB hcbV
                have c2 : V11.cell? ⟨cb, 2, none⟩ = some (.int .i64 g9) := HKC.out.c2
                have e2 := HKC.out.fr 2
                have HSD := Hid.intro' (HSC.out.put (j := 2) (.int .i64 (g9 + 1)) hne HWB.out)
                have HKD := Hid.intro' (HKC.out.set2 (g9 + 1))
                clear HSC HKC hne
                go_upto_region 25 with (fail)
                clear c2 e2
                change Hid (KB (V11.setCell ⟨cb, 2, none⟩ (.int .i64 (g9 + 1))) cb ⟨c.fl, c.ca, g9 + 1, c.up⟩) at HKD
                generalize V11.setCell ⟨cb, 2, none⟩ (.int .i64 (g9 + 1)) = V12 at HSD HKD ⊢
                have hal := (Below.refl V12.heap.size V12).alloc (Nat.le_refl _) (.cells #[.int .i64 c.fl, .int .i64 c.ca, .int .i64 (g9 + 1), .bool c.up] 43)
                have HSE := Hid.intro' (HSD.out.next hal)
                have HRE := Hid.intro' HKD.out.rng
                have HLE : Hid ((V12.alloc (.cells #[.int .i64 c.fl, .int .i64 c.ca, .int .i64 (g9 + 1), .bool c.up] 43)).rangeAt V12.heap.size 0 (cav ⟨c.fl, c.ca, g9 + 1, c.up⟩)) := (KB.new V12 ⟨c.fl, c.ca, g9 + 1, c.up⟩).rng
                have HZE : Hid (W.heap.size + 1 ≤ (V12.alloc (.cells #[.int .i64 c.fl, .int .i64 c.ca, .int .i64 (g9 + 1), .bool c.up] 43)).heap.size) := HSE.out.ns.lt
                have hm7 : (M.map SF.old).length ≤ 1000000 := by rw [List.length_map]; exact hm6
                clear hal HSD HKD
                go_wp2_with (first | (refine wpList_loadCl (c := ⟨c.fl, c.ca, g9 + 1, c.up⟩) rfl _ rfl _ _ rfl HRE.out ?_) | (at_builtin; refine wpList_appCa rfl _ _ rfl (W.heap.size + 1) (.slice ao1 m co1) (M.map SF.old) rfl HSE.out.oo V12.heap.size 1 ⟨c.fl, c.ca, g9 + 1, c.up⟩ rfl HLE.out hm7 HZE.out ?_))
                intro g13 c13 V13 ho13 hg13 hat13 hlt13
                have HSG : Hid (Cs s W V13 (.slice ao n co) (.slice (some ⟨g13, 0, none⟩) (M.length + 1) c13) (.slice (some ⟨g11, 0, none⟩) (m + 1) c11) mb bb ((SF.dd L (i + 1)).map SF.old) (SF.dd L (i + 1)) ((SF.dd L (i + 1)).map SF.kz)) := by
                  have h := HSE.out.addO hg13 ho13 (fun g e => by have e2 := own_some e; subst e2; exact hat13.imp id (fun e => by rw [e]; simp))
                  rw [HDE.out, HG9.out, List.map_append, List.map_append]
                  exact h
                clear ho13 hg13 hat13 hlt13 HSE HRE HLE HZE hm7 hm6
                go_wp2
                go_roundw
                case rel => exact ⟨i + 1, by omega, by go_num, HSG⟩
                case measure => simp [intOf]; omega
              · have HD2 : Hid (SF.dd L (i + 1) = M) := HDD.out
                go_wp2_with (refine wpList_loadCl (c := ⟨c.fl, c.ca, 0, c.up⟩) rfl _ rfl _ _ rfl HRZ.out ?_)
                go_roundw
                case rel => exact ⟨i + 1, by omega, by go_num, by rw [HD2.out]; exact HS4⟩
                case measure => simp [intOf]; omega
            · have hiz : ¬ ((i : Int) < (nc : Int)) := by omega
              obtain rfl : i = nc := by omega
              have HDd : Hid (SF.Dd M) := by have h := SF.dd_dd L i; rw [HM.out] at h; exact h
              have hrk := HS.out.ns.ow.rk (D := fun _ => True) (fun _ _ => trivial)
              have hrw := HS.out.ow.rc (D := fun _ => True) (fun _ _ => trivial)
              have hro := HS.out.oo.rc (D := fun _ => True) (fun _ _ => trivial)
              have HT : Hid (Calls Try.prog 8 #[.agg (sv s).toArray, .slice aa n ka, .slice ao n co, .slice aw1 m cw1, .slice ao1 m co1, .bool false] wr fun e w' => ∃ v, e = .returned v ∧ RI (fun _ => True) w' v [] ∧ Below wr.heap.size wr w') := by
                have h := stick_any (fun _ => True) s _ _ _ _ a bb M (M.map SF.old) false wr (HA.out.below' HS.out.ns.be) hrk hrw hro (by have := HNA.out; omega) (by have := HSL.out; omega) (by have := HMM.out; omega) (by rw [List.length_map]; have := HMM.out; omega)
                rwa [SF.tk_right HR.out (by have := HNA.out; have := HQ1.out; omega) (by have := HNA.out; have := HSL.out; omega) HSF.out (SF.aw_false _ _ _) HDd.out] at h
              clear hrk hrw hro HM hlt hi
              go_wp2_with (refine wpList_load23 rfl _ rfl _ s rfl HS.out.ns.sb ?_)
              refine HT.out.mono ?_
              rintro e W9 ⟨v9, rfl, hr9, hb9⟩
              obtain ⟨a9, k9, rfl, -, -⟩ := hr9.form
              have HS9 := Hid.intro' (HS.out.next hb9)
              clear hr9 hb9 HT HS
              obtain ⟨jn, hjn, hjl⟩ : ∃ j : Nat, (ju % 65536).tmod s.ca = (j : Int) ∧ j < n := by
                have h1 := HR.out.ca1
                have h2 := HQ1.out
                have h3 : 0 ≤ ju % 65536 := Int.emod_nonneg _ (by omega)
                rw [Int.tmod_eq_emod_of_nonneg h3]
                have h4 := Int.emod_nonneg (ju % 65536) (show s.ca ≠ 0 by omega)
                have h5 := Int.emod_lt_of_pos (ju % 65536) (show 0 < s.ca by omega)
                exact ⟨((ju % 65536) % s.ca).toNat, by omega, by omega⟩
              have hca : ¬ s.ca = 0 := by have := HR.out.ca1; omega
              have hcb : (s.ca == 0) = false := by simpa using hca
              have hcm : (s.ca == -1) = false := by have := HR.out.ca1; simp; omega
              have m1 : W9.cell? ⟨W.heap.size, 1, none⟩ = some (.int .i64 s.ca) := HS9.out.ns.sb.cell 1
              go_upto_region 30 with (fail)
              clear m1 hca hcb hcm hjn hj3
              obtain ⟨x, hx⟩ : ∃ x, a[jn]? = some x := ⟨_, List.getElem?_eq_getElem (by have := HNA.out; omega)⟩
              obtain ⟨ga, oa, e, hga, hra⟩ := (HA.out.below' HS9.out.ns.be).at hx
              subst e
              have hixa : ∀ W : World, (Instr.indexAt 24 (.slice (some ⟨ga, oa, none⟩) n ka) (.int .i64 (jn : Int))).run Try.prog W = .ok (.pointer (some ⟨ga, oa + jn * 8, none⟩)) W := fun W => ixK W hjl
              have HX := Hid.intro' hx
              have hxc := HRC.out jn x hjl hx
              have HXC := Hid.intro' hxc
              have x2 : W9.cell? ⟨ga, oa + jn * 8 + 2, none⟩ = some (.int .i64 x.ti) := hra 2 _ rfl
              have HX0 : Hid (∀ w', Below W9.drew.heap.size W9.drew w' → w'.cell? ⟨ga, oa + jn * 8, none⟩ = some (.int .i64 x.fl)) := fun w' hw => rng_below hra hga ((Below.refl W9.heap.size W9).drew.trans hw) 0 _ rfl
              clear hx hra hga hxc
              by_cases hti : x.ti = 0
              · have dti : (x.ti != 0) = false := by simp [hti]
                have HTI := Hid.intro' hti
                clear hti
                go_upto_region 32 with (fail)
                clear x2 dti
                obtain ⟨f, hf⟩ : ∃ f, (x.fl + 1).tmod s.fl = f := ⟨_, rfl⟩
                have hx1 := HXC.out.f1
                have hx3 := HXC.out.f2
                have hs2 := HR.out.fl2
                have hs1 := HR.out.fl1
                have HF : Hid (f = (x.fl + 1) % s.fl) := by show _ = _; rw [← hf, Int.tmod_eq_emod_of_nonneg (by omega)]
                have hwr : IntKind.i64.wrap (x.fl + 1) = x.fl + 1 := IntWalk.i64_in _ (by omega)
                have hsf : ¬ s.fl = 0 := by omega
                have hsg : (s.fl == 0) = false := by simpa using hsf
                have hsh : (s.fl == -1) = false := by simp; omega
                have HS0 : Hid (∀ w', Below W9.drew.heap.size W9.drew w' → w'.cell? ⟨W.heap.size, 0, none⟩ = some (.int .i64 s.fl)) := fun w' hw => (HS9.out.ns.sb.below' ((Below.refl W9.heap.size W9).drew.trans hw)).cell 0
                obtain ⟨gb, hgb⟩ : ∃ gb, ao = some ⟨gb, 0, none⟩ := by
                  rcases HS9.out.ns.ow.form with ⟨e, _⟩ | ⟨g, c, e, _⟩
                  · cases e; omega
                  · cases e; exact ⟨g, rfl⟩
                subst hgb
                have hixb : ∀ W : World, (Instr.indexAt 24 (.slice (some ⟨gb, 0, none⟩) n co) (.int .i64 (jn : Int))).run Try.prog W = .ok (.pointer (some ⟨gb, jn * 8, none⟩)) W := fun W => by have h := ixK W (g := gb) (o := 0) (cap := co) hjl; rwa [Nat.zero_add] at h
                refine wp_region_tailS 22 (by kernel_rfl) (by kernel_rfl) ?_
                simp only [List.take_succ_cons, List.take_zero, List.drop_succ_cons, List.drop_zero]
                unfold wpCalm
                generalize hK : wpCalm Try.prog _ _ _ _ = K
                unfold Oper.calm
                go_simp
                refine ⟨_, fun _ _ => rfl, ?_⟩
                subst hK
                unfold wpCalm
                generalize hK : wpCalm Try.prog _ _ _ _ = K
                unfold Oper.calm
                go_simp
                refine ⟨_, fun _ _ => rfl, ?_⟩
                subst hK
                unfold wpCalm
                generalize hK : wpCalm Try.prog _ _ _ _ = K
                unfold Oper.calm
                go_simp
                refine ⟨_, fun _ _ => rfl, ?_⟩
                subst hK
                unfold wpCalm
                generalize hK : wpCalm Try.prog _ _ _ _ = K
                unfold Oper.calm
                go_simp
                refine ⟨_, fun _ _ => rfl, ?_⟩
                subst hK
                unfold wpCalm
                generalize hK : wpCalm Try.prog _ _ _ _ = K
                unfold Oper.calm
                go_simp
                refine ⟨_, fun _ _ => rfl, ?_⟩
                subst hK
                unfold wpCalm
                generalize hK : wpCalm Try.prog _ _ _ _ = K
                unfold Oper.calm
                go_simp
                refine ⟨_, fun _ _ => rfl, ?_⟩
                subst hK
                unfold wpCalm
                generalize hK : wpCalm Try.prog _ _ _ _ = K
                rw [if_pos (by go_simp)]
                refine calm_load3 _ _ _ rfl rfl HX0.out ?_
                go_simp
                subst hK
                unfold wpCalm
                generalize hK : wpCalm Try.prog _ _ _ _ = K
                unfold Oper.calm
                go_simp
                refine ⟨_, fun _ _ => rfl, ?_⟩
                subst hK
                unfold wpCalm
                generalize hK : wpCalm Try.prog _ _ _ _ = K
                unfold Oper.calm
                go_simp
                refine ⟨_, fun _ _ => rfl, ?_⟩
                subst hK
                unfold wpCalm
                generalize hK : wpCalm Try.prog _ _ _ _ = K
                rw [if_pos (by go_simp)]
                refine calm_load3 _ _ _ rfl rfl HS0.out ?_
                go_simp
                subst hK
                unfold wpCalm
                generalize hK : wpCalm Try.prog _ _ _ _ = K
                unfold Oper.calm
                go_simp
                refine ⟨_, fun _ _ => rfl, ?_⟩
                subst hK
                unfold wpCalm
                generalize hK : wpCalm Try.prog _ _ _ _ = K
                unfold Oper.calm
                go_simp
                refine ⟨_, fun _ _ => rfl, ?_⟩
                subst hK
                unfold wpCalm
                generalize hK : wpCalm Try.prog _ _ _ _ = K
                unfold Oper.calm
                go_simp
                refine ⟨_, fun _ _ => rfl, ?_⟩
                subst hK
                unfold wpCalm
                generalize hK : wpCalm Try.prog _ _ _ _ = K
                unfold Oper.calm
                go_simp
                refine ⟨_, fun _ _ => rfl, ?_⟩
                subst hK
                unfold wpCalm
                generalize hK : wpCalm Try.prog _ _ _ _ = K
                unfold Oper.calm
                go_simp
                refine ⟨_, fun _ _ => rfl, ?_⟩
                subst hK
                unfold wpCalm
                generalize hK : wpCalm Try.prog _ _ _ _ = K
                rw [if_pos (by go_simp)]
                refine calm_load3 _ _ _ rfl rfl HX0.out ?_
                go_simp
                subst hK
                unfold wpCalm
                generalize hK : wpCalm Try.prog _ _ _ _ = K
                unfold Oper.calm
                go_simp
                refine ⟨_, fun _ _ => rfl, ?_⟩
                subst hK
                unfold wpCalm
                generalize hK : wpCalm Try.prog _ _ _ _ = K
                unfold Oper.calm
                go_simp
                refine ⟨_, fun _ _ => rfl, ?_⟩
                subst hK
                unfold wpCalm
                generalize hK : wpCalm Try.prog _ _ _ _ = K
                rw [if_pos (by go_simp)]
                refine calm_load3 _ _ _ rfl rfl HS0.out ?_
                go_simp
                subst hK
                unfold wpCalm
                generalize hK : wpCalm Try.prog _ _ _ _ = K
                unfold Oper.calm
                go_simp
                refine ⟨_, fun _ _ => rfl, ?_⟩
                subst hK
                unfold wpCalm
                generalize hK : wpCalm Try.prog _ _ _ _ = K
                unfold Oper.calm
                go_simp
                refine ⟨_, fun _ _ => rfl, ?_⟩
                subst hK
                unfold wpCalm
                generalize hK : wpCalm Try.prog _ _ _ _ = K
                unfold Oper.calm
                go_simp
                refine ⟨_, fun _ _ => rfl, ?_⟩
                subst hK
                refine wpCalm_nil ?_
                intro W10 hb10
                have HS10 := Hid.intro' (HS9.out.next ((Below.refl W9.heap.size W9).drew.trans hb10))
                obtain ⟨y, hy⟩ : ∃ y : Cr, y = ⟨f, f, 0, DM.z, false⟩ := ⟨_, rfl⟩
                have hth := HS10.out.ns.ow.there HSL.out hjl
                have HTH := Hid.intro' hth
                have hgo := HS10.out.ns.ow.lt gb rfl
                have HPT := Hid.intro' (HS10.out.ns.ow.put HSL.out hjl y)
                have hot : ∀ k, k ≠ gb → (W10.setCells gb (jn * 8) (ckv y)).heap[k]? = W10.heap[k]? := fun k hk => setCells_other hk _ _ _
                have HBE : Hid (Below W.heap.size W (W10.setCells gb (jn * 8) (ckv y))) := setCells_below (by omega) _ _ _ HS10.out.ns.be
                have HSB : Hid (SB (W10.setCells gb (jn * 8) (ckv y)) W.heap.size s) := (hot _ (by omega)).trans HS10.out.ns.sb
                have hrw : RC (fun _ => True) (W10.setCells gb (jn * 8) (ckv y)) (.slice aw1 m cw1) M := (HS10.out.ow.keep fun g e => hot g (fun e2 => (HS10.out.d1 g e).2.1 (by rw [e2]; rfl))).rc (fun _ _ => trivial)
                have hro : RC (fun _ => True) (W10.setCells gb (jn * 8) (ckv y)) (.slice ao1 m co1) (M.map SF.old) := (HS10.out.oo.keep fun g e => hot g (fun e2 => (HS10.out.d2 g e).1 (by rw [e2]; rfl))).rc (fun _ _ => trivial)
                have hy0 : y.ti = 0 := by rw [hy]
                have hy1 : y.fl = (x.fl + 1) % s.fl := by rw [hy]; exact HF.out
                have HT : Hid (Calls Try.prog 8 #[.agg (sv s).toArray, .slice (some ⟨ga, oa, none⟩) n ka, .slice (some ⟨gb, 0, none⟩) n co, .slice aw1 m cw1, .slice ao1 m co1, .bool false] (W10.setCells gb (jn * 8) (ckv y)) fun e w' => ∃ v, e = .returned v ∧ RI (fun _ => True) w' v [1] ∧ Below (W10.setCells gb (jn * 8) (ckv y)).heap.size (W10.setCells gb (jn * 8) (ckv y)) w') := by
                  have h := stick_any (fun _ => True) s _ _ _ _ a (bb.set jn y) M (M.map SF.old) false _ (HA.out.below' HBE.out) HPT.out hrw hro (by have := HNA.out; omega) (by rw [List.length_set]; have := HSL.out; omega) (by have := HMM.out; omega) (by rw [List.length_map]; have := HMM.out; omega)
                  rwa [SF.tk_leap HX.out (List.getElem?_set_self (by have := HSL.out; omega)) (SF.sf_leap HR.out HXC.out HTI.out hy0 hy1) HDd.out] at h
                have hcy : (ckv y) = [.int .i64 f, .int .i64 f, .int .i64 0, .int .i64 0, .int .i64 0, .int .i64 0, .bool false, .bool false] := by rw [hy]; rfl
                rw [hcy] at HT HSB HBE
                clear hth hgo hot hrw hro hy0 hy1 hb10 HS9 hcy hy HPT hwr
                refine wpList_store_mid rfl 36 _ _ rfl gb (jn * 8) _ rfl rfl HTH.out infoC (by simp [Value.oneCell']) ?_
                change wpList _ _ _ _ _ (W10.setCells gb (jn * 8) [.int .i64 f, .int .i64 f, .int .i64 0, .int .i64 0, .int .i64 0, .int .i64 0, .bool false, .bool false])
                generalize W10.setCells gb (jn * 8) [.int .i64 f, .int .i64 f, .int .i64 0, .int .i64 0, .int .i64 0, .int .i64 0, .bool false, .bool false] = W11 at HT HSB HBE ⊢
                go_wp2_with (refine wpList_load23 rfl _ rfl _ s rfl HSB.out ?_)
                refine HT.out.mono ?_
                rintro e W12 ⟨v12, rfl, hr12, hb12⟩
                obtain ⟨a12, k12, rfl, -, -⟩ := hr12.form
                have hal := (Below.refl W12.heap.size W12).alloc (Nat.le_refl _) (.cells #[.int .i64 1] 3)
                have ho : OI (W12.alloc (.cells #[.int .i64 1] 3)) 0 (.slice (some ⟨W12.heap.size, 0, none⟩) 1 1) [1] := OI.lit (B := 0) W12 [1] (Nat.zero_le _) (by unfold maxLen; simp)
                have HSM : Hid (Calls Try.prog 7 #[.slice a12 1 k12, .slice (some ⟨W12.heap.size, 0, none⟩) 1 1] (W12.alloc (.cells #[.int .i64 1] 3)) fun e w' => e = .returned (.bool true) ∧ Below (W12.alloc (.cells #[.int .i64 1] 3)).heap.size (W12.alloc (.cells #[.int .i64 1] 3)) w') := by
                  have h := rsame_any (fun _ => True) (fun _ => True) (.slice a12 1 k12) (.slice (some ⟨W12.heap.size, 0, none⟩) 1 1) [1] [1] _ (hr12.below' hal) (ho.ri fun _ _ => trivial) (by simp)
                  rwa [show decide (([1] : List Int) = [1]) = true from rfl] at h
                have HB13 := Hid.intro' (below_class (below_class HBE.out hb12) hal)
                clear hr12 hb12 hal ho HT HSB HBE
                go_wp2_with fail
                refine HSM.out.mono ?_
                rintro e W14 ⟨rfl, hb14⟩
                have HB14 := Hid.intro' (below_class HB13.out hb14)
                clear hb14 HSM HB13
                go_wp2
                go_ret
                exact ⟨rfl, HB14.out⟩
              · have dti : (x.ti != 0) = true := by simp [hti]
                clear hti
                go_wp2
                go_ret
                exact ⟨rfl, HS9.out.ns.be⟩
    · have HN := Hid.intro' q
      clear q
      go_wp2
      all_goals
        first
          | (go_ret; exact ⟨rfl, HB2.out⟩)
          | (exfalso; have := HN.out; omega)
  · have HR := Hid.intro' hr
    go_wp2_with (refine wpList_load23 rfl _ rfl _ s rfl HS1.out ?_)
    refine (rright_f s hr _).mono ?_
    rintro e W2 ⟨rfl, hb2⟩
    have HB2 := Hid.intro' (below_class HB1.out hb2)
    clear hb2 HB1 HS1
    go_wp2
    go_ret
    exact ⟨rfl, HB2.out⟩

end Go.Proofs.Ytjpkekmccbpclaj
