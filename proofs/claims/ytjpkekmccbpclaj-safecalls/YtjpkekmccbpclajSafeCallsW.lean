/- A call that waits no more where nobody stood is told, and one that comes too old. -/
import Derived.Test.YtjpkekmccbpclajSfP
import Derived.Test.YtjpkekmccbpclajPk7
import Derived.Test.YtjpkekmccbpclajPk10
import Derived.Deep.DeepCutAuto
import Derived.Deep.CutBlock
namespace Go.Proofs.Ytjpkekmccbpclaj
open Go.RowKit Go.Shelf

theorem i64_and8 (n : Int) : bits .and .i64 n 255 = n % 256 := by
  have h : (BitVec.ofInt 64 255).toNat = 2 ^ 8 - 1 := by decide
  have key : (BitVec.ofInt 64 n &&& BitVec.ofInt 64 255).toNat = (n % ((2 ^ 64 : Nat) : Int)).toNat % 2 ^ 8 := by
    rw [BitVec.toNat_and, BitVec.toNat_ofInt, h, Nat.and_two_pow_sub_one_eq_mod]
  show IntKind.i64.wrap ((BitVec.ofInt 64 n &&& BitVec.ofInt 64 255).toNat : Nat) = n % 256
  rw [key, IntKind.wrap_i64]
  omega
set_option maxRecDepth 100000 in
set_option maxHeartbeats 8000000 in
theorem SafeCalls_any (s : St) (fl f go age : Int) (W : World) :
    Calls Try.prog 5 #[.agg (sv s).toArray, .int .i64 fl, .int .i64 f, .int .i64 go, .int .i64 age] W fun e w' => e = .returned (.bool true) ∧ Below W.heap.size W w' := by
  have HB0 := Hid.intro' ((Below.refl W.heap.size W).alloc (Nat.le_refl _) (.cells (sv s).toArray 23))
  have HS0 := Hid.intro' (SB.new W s)
  have HSP := Hid.intro' (speaks16_any (W.alloc (.cells (sv s).toArray 23)))
  go_enter Try.func5, Try.ntmps5
  go_wp2_with fail
  generalize W.alloc (.cells (sv s).toArray 23) = V at HB0 HS0 HSP ⊢
  refine HSP.out.mono ?_
  rintro e W1 ⟨rfl, hb1⟩
  have HB1 := Hid.intro' (below_class HB0.out hb1)
  have HS1 := Hid.intro' (HS0.out.below' hb1)
  clear hb1 HB0 HS0 HSP
  by_cases hr : SM.Rt s
  · have HR := Hid.intro' hr
    go_wp2_with (refine wpList_load23 rfl _ rfl _ s rfl HS1.out ?_)
    refine (rright_t s hr _).mono ?_
    rintro e W2 ⟨rfl, hb2⟩
    have HB2 := Hid.intro' (below_class HB1.out hb2)
    have HS2 := Hid.intro' (HS1.out.below' hb2)
    have m0 : W2.cell? ⟨W.heap.size, 0, none⟩ = some (.int .i64 s.fl) := HS2.out.cell 0
    clear hb2 HB1 HS1 hr
    by_cases q : (0 ≤ fl ∧ fl < s.fl) ∧ (0 ≤ f ∧ f < s.fl)
    · obtain ⟨⟨q1, q2⟩, q3, q4⟩ := q
      have p1 : ¬ fl < 0 := by omega
      have p2 : ¬ s.fl ≤ fl := by omega
      have p3 : ¬ f < 0 := by omega
      have p4 : ¬ s.fl ≤ f := by omega
      have HN0 : Hid (Ns s W (W2.alloc (.cells #[] 36)) (.slice (some ⟨W2.heap.size, 0, none⟩) 0 0) (List.replicate 0 (SF.xo f))) := by
        have hlt : W.heap.size < W2.heap.size := (Array.getElem?_eq_some_iff.1 HS2.out).1
        have hal := (Below.refl W2.heap.size W2).alloc (Nat.le_refl _) (.cells #[] 36)
        exact ⟨HS2.out.below' hal, OG.nil ckv 8 W2 (by omega), below_class HB2.out hal⟩
      have HQ : Hid ((0 ≤ fl ∧ fl < s.fl) ∧ (0 ≤ f ∧ f < s.fl)) := ⟨⟨q1, q2⟩, q3, q4⟩
      obtain ⟨nc, hnc⟩ : ∃ n : Nat, (n : Int) = s.ca := ⟨s.ca.toNat, by have := HR.out.ca1; omega⟩
      have hn8 : nc ≤ 8 := by have := HR.out.ca2; omega
      have HNC := Hid.intro' hnc
      clear q1 q2 q3 q4 HB2 HS2 hnc
      go_wp2_with fail
      generalize W2.alloc (.cells #[] 36) = V2 at HN0 ⊢
      generalize (Value.slice (some ⟨W2.heap.size, 0, none⟩) 0 0) = v0 at HN0 ⊢
      clear m0 p1 p2 p3 p4
      go_loopw [11, 12] (fun nv iv wr => ∃ n : Nat, n ≤ nc ∧ iv = .int .i64 (n : Int) ∧ Hid (Ns s W wr nv (List.replicate n (SF.xo f)))) (fun _ iv _ => nc - (intOf iv).toNat)
      case atStart => exact ⟨0, Nat.zero_le _, rfl, HN0⟩
      case round =>
        clear HN0
        obtain ⟨n, hn, rfl, HN⟩ := hrel
        obtain ⟨ao, co, e⟩ := HN.out.ow.slice
        subst e
        rw [List.length_replicate] at HN ⊢
        have m1 : wr.cell? ⟨W.heap.size, 1, none⟩ = some (.int .i64 (nc : Int)) := by rw [HNC.out]; exact HN.out.sb.cell 1
        by_cases hlt : n < nc
        · have hnz : (n : Int) < (nc : Int) := by omega
          have hal := (Below.refl wr.heap.size wr).alloc (Nat.le_refl _) (.cells #[.int .i64 f, .int .i64 f, .int .i64 0, .int .i64 2, .int .i64 1, .int .i64 0, .bool false, .bool false] 36)
          have HN1 := Hid.intro' (HN.out.next hal)
          have HY1 : Hid ((wr.alloc (.cells #[.int .i64 f, .int .i64 f, .int .i64 0, .int .i64 2, .int .i64 1, .int .i64 0, .bool false, .bool false] 36)).rangeAt wr.heap.size 0 (ckv (SF.xo f))) := (CB.new wr (SF.xo f)).rng
          have HZ1 : Hid (W.heap.size + 1 ≤ (wr.alloc (.cells #[.int .i64 f, .int .i64 f, .int .i64 0, .int .i64 2, .int .i64 1, .int .i64 0, .bool false, .bool false] 36)).heap.size) := HN1.out.lt
          have hln : (List.replicate n (SF.xo f)).length ≤ 1000000 := by rw [List.length_replicate]; omega
          clear hal HN
          go_wp2_with (at_builtin; refine wpList_appCr rfl _ _ rfl (W.heap.size + 1) (.slice ao n co) (List.replicate n (SF.xo f)) rfl HN1.out.ow wr.heap.size 1 (SF.xo f) rfl HY1.out hln HZ1.out ?_)
          intro g3 c3 W3 ho3 hg3 hat3 hlt3
          have HN3 : Hid (Ns s W W3 (.slice (some ⟨g3, 0, none⟩) (n + 1) c3) (List.replicate (n + 1) (SF.xo f))) := by
            have h := HN1.out.grown hg3 ho3
            rwa [← List.replicate_succ'] at h
          clear ho3 hg3 hat3 hlt3 HN1 HY1 HZ1 hln m1
          go_wp2
          go_roundw
          case rel => exact ⟨n + 1, by omega, by go_num, HN3⟩
          case measure => simp [intOf]; omega
        · have hnz : ¬ ((n : Int) < (nc : Int)) := by omega
          obtain rfl : n = nc := by omega
          have HE0 := Hid.intro' (Es.new HN.out)
          go_wp2_with fail
          clear m1 HN
          generalize wr.alloc (.cells #[] 36) = V3 at HE0 ⊢
          generalize (Value.slice (some ⟨wr.heap.size, 0, none⟩) 0 0) = v1 at HE0 ⊢
          obtain ⟨y, hy⟩ : ∃ y, CM.step s (SF.xo f) false (-1) false = y := ⟨_, rfl⟩
          have HY := Hid.intro' hy
          have HRX := Hid.intro' (SF.rc_xo HR.out HQ.out.2.1 HQ.out.2.2)
          change Hid (Es s W V3 (.slice ao n co) v1 (List.replicate n (SF.xo f)) (List.replicate 0 y)) at HE0
          clear hy hlt hn
          rename World => W0
          go_loopw [13, 62] (fun nv iv wr => ∃ i : Nat, i ≤ n ∧ iv = .int .i64 (i : Int) ∧ Hid (Es s W wr (.slice ao n co) nv (List.replicate n (SF.xo f)) (List.replicate i y))) (fun _ iv _ => n - (intOf iv).toNat)
          case atStart => exact ⟨0, Nat.zero_le _, rfl, HE0⟩
          case round =>
            clear HE0
            obtain ⟨i, hi, rfl, HE⟩ := hrel
            obtain ⟨ab, cb, e⟩ := HE.out.ob.slice
            subst e
            rw [List.length_replicate] at HE ⊢
            by_cases hlt : i < n
            · have hiz : (i : Int) < (n : Int) := by omega
              obtain ⟨ga, hga⟩ : ∃ g, ao = some ⟨g, 0, none⟩ := by
                rcases HE.out.ns.ow.form with ⟨e, _⟩ | ⟨g, c, e, _⟩
                · cases e; omega
                · rw [List.length_replicate] at e; cases e; exact ⟨g, rfl⟩
              subst hga
              have hra : wr.rangeAt ga (i * 8) (ckv (SF.xo f)) := HE.out.ns.ow.at ckv_len (by rw [List.getElem?_replicate, if_pos hlt])
              have HRA := Hid.intro' hra
              have hixa : ∀ W : World, (Instr.indexAt 24 (.slice (some ⟨ga, 0, none⟩) n co) (.int .i64 (i : Int))).run Try.prog W = .ok (.pointer (some ⟨ga, i * 8, none⟩)) W := fun W => by have h := ixK W (g := ga) (o := 0) (cap := co) hlt; rwa [Nat.zero_add] at h
              have hal := (Below.refl wr.heap.size wr).alloc (Nat.le_refl _) (.cells #[.int .i64 f, .int .i64 f, .int .i64 0, .int .i64 2, .int .i64 1, .int .i64 0, .bool false, .bool false] 36)
              have HE1 := Hid.intro' (HE.out.next hal)
              have HX1 : Hid (CB (wr.alloc (.cells #[.int .i64 f, .int .i64 f, .int .i64 0, .int .i64 2, .int .i64 1, .int .i64 0, .bool false, .bool false] 36)) wr.heap.size (SF.xo f)) := CB.new wr (SF.xo f)
              clear hra hal HE
              go_upto_region 14 with (refine wpList_loadK (c := SF.xo f) rfl _ rfl _ _ rfl HRA.out ?_)
              change Code.wp _ _ _ _ (wr.alloc (.cells #[.int .i64 f, .int .i64 f, .int .i64 0, .int .i64 2, .int .i64 1, .int .i64 0, .bool false, .bool false] 36))
              generalize wr.alloc (.cells #[.int .i64 f, .int .i64 f, .int .i64 0, .int .i64 2, .int .i64 1, .int .i64 0, .bool false, .bool false] 36) = V4 at HE1 HX1 ⊢
              generalize wr.heap.size = xb at HX1 ⊢
              clear HRA hixa
              have HST : Hid (Calls Try.prog 12 #[.agg (sv s).toArray, .agg #[.int .i64 (SF.xo f).fl, .int .i64 (SF.xo f).tg, .int .i64 (SF.xo f).ti, .int .i64 (SF.xo f).d.ph, .int .i64 (SF.xo f).d.le, .int .i64 (SF.xo f).d.ru, .bool (SF.xo f).d.he, .bool (SF.xo f).fa], .agg #[.bool false, .int .i64 (-1)], .bool false] V4 fun e w' => e = .returned (cv y) ∧ Below V4.heap.size V4 w') := by
                have h := rcstep_any s (SF.xo f) HRX.out false (-1) false V4
                rwa [HY.out] at h
              go_wp2_with (first | (refine wpList_load23 rfl _ rfl _ s rfl HE1.out.ns.sb ?_) | (refine wpList_loadC (c := SF.xo f) rfl _ rfl _ rfl HX1.out ?_))
              refine HST.out.mono ?_
              rintro e W5 ⟨rfl, hb5⟩
              have HE5 := Hid.intro' (HE1.out.next hb5)
              clear hb5 HST HE1 HX1
              have hal := (Below.refl W5.heap.size W5).alloc (Nat.le_refl _) (.cells #[.int .i64 y.fl, .int .i64 y.tg, .int .i64 y.ti, .int .i64 y.d.ph, .int .i64 y.d.le, .int .i64 y.d.ru, .bool y.d.he, .bool y.fa] 36)
              have HE6 := Hid.intro' (HE5.out.next hal)
              have HY6 : Hid ((W5.alloc (.cells #[.int .i64 y.fl, .int .i64 y.tg, .int .i64 y.ti, .int .i64 y.d.ph, .int .i64 y.d.le, .int .i64 y.d.ru, .bool y.d.he, .bool y.fa] 36)).rangeAt W5.heap.size 0 (ckv y)) := (CB.new W5 y).rng
              have HZ6 : Hid (W.heap.size + 1 ≤ (W5.alloc (.cells #[.int .i64 y.fl, .int .i64 y.tg, .int .i64 y.ti, .int .i64 y.d.ph, .int .i64 y.d.le, .int .i64 y.d.ru, .bool y.d.he, .bool y.fa] 36)).heap.size) := HE6.out.ns.lt
              have hln : (List.replicate i y).length ≤ 1000000 := by rw [List.length_replicate]; omega
              clear hal HE5
              unfold cv
              go_wp2_with (at_builtin; refine wpList_appCr rfl _ _ rfl (W.heap.size + 1) (.slice ab i cb) (List.replicate i y) rfl HE6.out.ob W5.heap.size 1 y rfl HY6.out hln HZ6.out ?_)
              intro g7 c7 W7 ho7 hg7 hat7 hlt7
              have HE7 : Hid (Es s W W7 (.slice (some ⟨ga, 0, none⟩) n co) (.slice (some ⟨g7, 0, none⟩) (i + 1) c7) (List.replicate n (SF.xo f)) (List.replicate (i + 1) y)) := by
                have h := HE6.out.add hg7 ho7 (fun g e => by have e2 := own_some e; subst e2; exact hat7.imp id (fun e => by rw [e]; simp))
                rwa [← List.replicate_succ'] at h
              clear ho7 hg7 hat7 hlt7 HE6 HY6 HZ6 hln
              go_wp2
              go_roundw
              case rel => exact ⟨i + 1, by omega, by go_num, HE7⟩
              case measure => simp [intOf]; omega
            · have hiz : ¬ ((i : Int) < (n : Int)) := by omega
              obtain rfl : i = n := by omega
              obtain ⟨j1, hj1⟩ : ∃ j, bits BinOp.and IntKind.i64 go 1 = j := ⟨_, rfl⟩
              obtain ⟨up, hup⟩ : ∃ u, (j1 == 1) = u := ⟨_, rfl⟩
              obtain ⟨ag, hag⟩ : ∃ a, bits BinOp.and IntKind.i64 age 255 = a := ⟨_, rfl⟩
              have hg0 : 0 ≤ ag ∧ ag ≤ 255 := by rw [i64_and8] at hag; omega
              have a1 := (Below.refl wr.heap.size wr).alloc (Nat.le_refl _) (.cells #[.int .i64 fl, .int .i64 (-1), .int .i64 ag, .bool up] 43)
              have HE1 := Hid.intro' (HE.out.next a1)
              have HK1 : Hid (KB (wr.alloc (.cells #[.int .i64 fl, .int .i64 (-1), .int .i64 ag, .bool up] 43)) wr.heap.size ⟨fl, -1, ag, up⟩) := KB.new wr ⟨fl, -1, ag, up⟩
              have HW1 : Hid (W.heap.size + 1 ≤ wr.heap.size) := HE.out.ns.lt
              have HL1 : Hid (∀ g, ((Value.slice ao i co).ownBlock = some g ∨ (Value.slice ab i cb).ownBlock = some g) → g < wr.heap.size) := fun g e => by
                rcases e with e | e
                · exact (HE.out.ns.ow.lt g e).2
                · exact (HE.out.ob.lt g e).2
              clear a1 HE
              go_upto_region 17 with (fail)
              clear hag
              generalize wr.alloc (.cells #[.int .i64 fl, .int .i64 (-1), .int .i64 ag, .bool up] 43) = V4 at HE1 HK1 ⊢
              generalize wr.heap.size = c1 at HK1 HW1 HL1 ⊢
              have a2 := (Below.refl V4.heap.size V4).alloc (Nat.le_refl _) (.cells #[.int .i64 fl, .int .i64 (-1), .int .i64 ag, .bool up] 43)
              have HE2 := Hid.intro' (HE1.out.next a2)
              have HK2 := Hid.intro' (HK1.out.below' a2)
              have HO2 : Hid (KB (V4.alloc (.cells #[.int .i64 fl, .int .i64 (-1), .int .i64 ag, .bool up] 43)) V4.heap.size ⟨fl, -1, ag, up⟩) := KB.new V4 ⟨fl, -1, ag, up⟩
              have HC2 : Hid (c1 < V4.heap.size) := HK1.out.lt
              have HR1 := Hid.intro' HK1.out.rng
              clear a2 HE1
              go_upto_region 18 with (refine wpList_loadCl (c := ⟨fl, -1, ag, up⟩) rfl _ rfl _ _ rfl HR1.out ?_)
              clear HR1 HK1
              generalize V4.alloc (.cells #[.int .i64 fl, .int .i64 (-1), .int .i64 ag, .bool up] 43) = V5 at HE2 HK2 HO2 ⊢
              generalize V4.heap.size = c2 at HO2 HC2 ⊢
              have z2 : V5.cell? ⟨c2, 2, none⟩ = some (.int .i64 ag) := HO2.out.c2
              have y2 := HO2.out.fr 2
              have HE3 : Hid (Es s W (V5.setCell ⟨c2, 2, none⟩ (.int .i64 (ag + 1))) (.slice ao i co) (.slice ab i cb) (List.replicate i (SF.xo f)) (List.replicate i y)) := by
                have hot : ∀ k, k ≠ c2 → (V5.setCell ⟨c2, 2, none⟩ (.int .i64 (ag + 1))).heap[k]? = V5.heap[k]? := fun k hk => Below.heap_setCell V5 ⟨c2, 2, none⟩ _ k hk
                have hw := HW1.out
                have hc := HC2.out
                exact ⟨⟨(hot _ (by omega)).trans HE2.out.ns.sb, HE2.out.ns.ow.keep fun g e => hot g (by have := HL1.out g (.inl e); omega), HE2.out.ns.be.setCell (by show _ ≤ c2; omega) _⟩, HE2.out.ob.keep fun g e => hot g (by have := HL1.out g (.inr e); omega), HE2.out.d⟩
              have HK3 := Hid.intro' (HK2.out.other (j := 2) (g := c2) (.int .i64 (ag + 1)) (by have := HC2.out; omega))
              have HO3 : Hid (KB (V5.setCell ⟨c2, 2, none⟩ (.int .i64 (ag + 1))) c2 (SF.old ⟨fl, -1, ag, up⟩)) := HO2.out.set2 (ag + 1)
              clear HE2 HK2 HO2
              go_upto_region 19 with (fail)
              clear z2 y2
              generalize V5.setCell ⟨c2, 2, none⟩ (.int .i64 (ag + 1)) = V6 at HE3 HK3 HO3 ⊢
              have HU : Hid (Us s W V6 (.slice ao i co) (.slice ab i cb) (List.replicate i (SF.xo f)) (List.replicate i y) c1 c2 ⟨fl, -1, ag, up⟩) := ⟨HE3.out, HK3.out, HO3.out⟩
              clear HE3 HK3 HO3 hj1 hup HL1 HW1 HC2 hi hlt hiz hnz
              have HU1 := Hid.intro' (HU.out.next ((Below.refl V6.heap.size V6).alloc (Nat.le_refl _) (.cells #[] 3)))
              have HO1 : Hid (RI (fun _ => True) (V6.alloc (.cells #[] 3)) (.slice (some ⟨V6.heap.size, 0, none⟩) 0 0) []) := (OI.lit (B := 0) V6 [] (Nat.zero_le _) (Nat.zero_le _)).ri (fun _ _ => trivial)
              clear HU
              go_upto_region 20 with (fail)
              generalize V6.alloc (.cells #[] 3) = V7 at HU1 HO1 ⊢
              generalize (Value.slice (some ⟨V6.heap.size, 0, none⟩) 0 0) = v7 at HO1 ⊢
              go_upto_if 89 with (fail)
              go_cut [18] (fun s18 W' => ∃ (v : Value), s18 = v ∧ Hid (RI (fun _ => True) W' v (if fl = f then [] else [2])) ∧ Hid (Us s W W' (.slice ao i co) (.slice ab i cb) (List.replicate i (SF.xo f)) (List.replicate i y) c1 c2 ⟨fl, -1, ag, up⟩))
              case first =>
                by_cases e : fl = f
                · have d : (fl != f) = false := by simp [e]
                  have HO : Hid (RI (fun _ => True) V7 v7 (if fl = f then [] else [2])) := by rw [if_pos e]; exact HO1
                  clear e HO1
                  go_wp2
                  go_meet
                  case rel => exact ⟨v7, rfl, HO, HU1⟩
                · have d : (fl != f) = true := by simp [e]
                  have HO : Hid (RI (fun _ => True) (V7.alloc (.cells #[.int .i64 2] 3)) (.slice (some ⟨V7.heap.size, 0, none⟩) 1 1) (if fl = f then [] else [2])) := by rw [if_neg e]; exact (OI.lit (B := 0) V7 [2] (Nat.zero_le _) (by unfold maxLen; simp)).ri (fun _ _ => trivial)
                  have HU2 := Hid.intro' (HU1.out.next ((Below.refl V7.heap.size V7).alloc (Nat.le_refl _) (.cells #[.int .i64 2] 3)))
                  clear e HO1
                  go_wp2
                  go_meet
                  case rel => exact ⟨_, rfl, HO, HU2⟩
              case rest =>
                obtain ⟨va, hva, HOA, HU2⟩ := hcut
                have hvb := hva.symm
                subst hvb
                clear HO1 HU1
                have al := (Below.refl wc.heap.size wc).alloc (Nat.le_refl _) (.cells #[] 3)
                have HU3 := Hid.intro' (HU2.out.next al)
                have HOB := Hid.intro' (HOA.out.below' al)
                have HO3 : Hid (RI (fun _ => True) (wc.alloc (.cells #[] 3)) (.slice (some ⟨wc.heap.size, 0, none⟩) 0 0) []) := (OI.lit (B := 0) wc [] (Nat.zero_le _) (Nat.zero_le _)).ri (fun _ _ => trivial)
                clear HU2 HOA al
                go_upto_region 23 with (fail)
                generalize wc.alloc (.cells #[] 3) = V8 at HU3 HOB HO3 ⊢
                generalize (Value.slice (some ⟨wc.heap.size, 0, none⟩) 0 0) = v8 at HO3 ⊢
                have g2 : V8.cell? ⟨c1, 2, none⟩ = some (.int .i64 ag) := HU3.out.k1.c2
                go_upto_if 94 with (fail)
                clear g2
                go_cut [19] (fun s19 W' => ∃ (v : Value), s19 = v ∧ Hid (RI (fun _ => True) W' v (if ag = 1 then [] else [4])) ∧ Hid (RI (fun _ => True) W' va (if fl = f then [] else [2])) ∧ Hid (Us s W W' (.slice ao i co) (.slice ab i cb) (List.replicate i (SF.xo f)) (List.replicate i y) c1 c2 ⟨fl, -1, ag, up⟩))
                case first =>
                  by_cases e : ag = 1
                  · have d : (ag != 1) = false := by simp [e]
                    have HO : Hid (RI (fun _ => True) V8 v8 (if ag = 1 then [] else [4])) := by rw [if_pos e]; exact HO3
                    clear e HO3
                    go_wp2
                    go_meet
                    case rel => exact ⟨v8, rfl, HO, HOB, HU3⟩
                  · have d : (ag != 1) = true := by simp [e]
                    have al := (Below.refl V8.heap.size V8).alloc (Nat.le_refl _) (.cells #[.int .i64 4] 3)
                    have HO : Hid (RI (fun _ => True) (V8.alloc (.cells #[.int .i64 4] 3)) (.slice (some ⟨V8.heap.size, 0, none⟩) 1 1) (if ag = 1 then [] else [4])) := by rw [if_neg e]; exact (OI.lit (B := 0) V8 [4] (Nat.zero_le _) (by unfold maxLen; simp)).ri (fun _ _ => trivial)
                    have HU4 := Hid.intro' (HU3.out.next al)
                    have HOC := Hid.intro' (HOB.out.below' al)
                    clear e HO3 al
                    go_wp2
                    go_meet
                    case rel => exact ⟨_, rfl, HO, HOC, HU4⟩
                case rest =>
                  obtain ⟨vb, hva, HOD, HOA, HU⟩ := hcut
                  have hvb := hva.symm
                  subst hvb
                  clear HOB HO3 HU3
                  have HLN : Hid ((List.replicate i (SF.xo f)).length ≤ 20 ∧ (List.replicate i y).length ≤ 20) := by rw [List.length_replicate, List.length_replicate]; exact ⟨by omega, by omega⟩
                  have al := (Below.refl wc.heap.size wc).alloc (Nat.le_refl _) (.cells #[.int .i64 fl, .int .i64 (-1), .int .i64 ag, .bool up] 43)
                  have HU1 := Hid.intro' (HU.out.next al)
                  have HT1 : Hid (Calls Try.prog 8 #[.agg (sv s).toArray, .slice ao i co, .slice ab i cb, .slice (some ⟨wc.heap.size, 0, none⟩) 1 1, .slice none 0 0, .bool false] (wc.alloc (.cells #[.int .i64 fl, .int .i64 (-1), .int .i64 ag, .bool up] 43)) fun e w' => ∃ v, e = .returned v ∧ RI (fun _ => True) w' v (if fl = f then [] else [2]) ∧ Below ((wc.alloc (.cells #[.int .i64 fl, .int .i64 (-1), .int .i64 ag, .bool up] 43))).heap.size ((wc.alloc (.cells #[.int .i64 fl, .int .i64 (-1), .int .i64 ag, .bool up] 43))) w') := by
                    have h := stick_any (fun _ => True) s _ _ _ _ (List.replicate i (SF.xo f)) (List.replicate i y) [⟨fl, -1, ag, up⟩] [] false (wc.alloc (.cells #[.int .i64 fl, .int .i64 (-1), .int .i64 ag, .bool up] 43)) (HU1.out.es.ns.ow.rk fun _ _ => trivial) (HU1.out.es.ob.rk fun _ _ => trivial) (RC.one wc ⟨fl, -1, ag, up⟩) (RC.nil _ _) HLN.out.1 HLN.out.2 (by simp) (by simp)
                    rw [← HY.out, SF.tk_gone HR.out HQ.out.2.1 HQ.out.2.2 HNC.out ⟨fl, -1, ag, up⟩ rfl] at h
                    exact h
                  have HR0 := Hid.intro' HU.out.k1.rng
                  have HSB := Hid.intro' HU.out.es.ns.sb
                  have HOA1 := Hid.intro' (HOA.out.below' al)
                  have HOD1 := Hid.intro' (HOD.out.below' al)
                  clear al HU HOA HOD
                  go_wp2_with (first | (refine wpList_load23 rfl _ rfl _ s rfl HSB.out ?_) | (refine wpList_loadCl (c := ⟨fl, -1, ag, up⟩) rfl _ rfl _ _ rfl HR0.out ?_))
                  refine HT1.out.mono ?_
                  rintro e W3 ⟨v3, rfl, hr3, hb3⟩
                  have HU3 := Hid.intro' (HU1.out.next hb3)
                  have HOD3 := Hid.intro' (HOD1.out.below' hb3)
                  have HSM : Hid (Calls Try.prog 7 #[v3, va] W3 fun e w' => e = .returned (.bool true) ∧ Below W3.heap.size W3 w') := by
                    have h := rsame_any (fun _ => True) (fun _ => True) v3 va _ _ W3 hr3 (HOA1.out.below' hb3) (by split <;> simp)
                    rwa [decide_eq_true rfl] at h
                  clear hr3 hb3 HT1 HU1 HR0 HSB HOA1 HOD1
                  go_wp2_with fail
                  refine HSM.out.mono ?_
                  rintro e W4 ⟨rfl, hb4⟩
                  have HU4 := Hid.intro' (HU3.out.next hb4)
                  have HOD4 := Hid.intro' (HOD3.out.below' hb4)
                  clear hb4 HSM HU3 HOD3
                  have al := (Below.refl W4.heap.size W4).alloc (Nat.le_refl _) (.cells #[.int .i64 fl, .int .i64 (-1), .int .i64 ag, .bool up] 43)
                  have al2 := (Below.refl _ (W4.alloc (.cells #[.int .i64 fl, .int .i64 (-1), .int .i64 ag, .bool up] 43))).alloc (Nat.le_refl _) (.cells #[.int .i64 fl, .int .i64 (-1), .int .i64 (ag + 1), .bool up] 43)
                  have HU5 := Hid.intro' ((HU4.out.next al).next al2)
                  have HOD5 := Hid.intro' ((HOD4.out.below' al).below' al2)
                  have hsz : (W4.alloc (.cells #[.int .i64 fl, .int .i64 (-1), .int .i64 ag, .bool up] 43)).heap.size = W4.heap.size + 1 := by simp
                  have hrc2 : RC (fun _ => True) ((W4.alloc (.cells #[.int .i64 fl, .int .i64 (-1), .int .i64 ag, .bool up] 43)).alloc (.cells #[.int .i64 fl, .int .i64 (-1), .int .i64 (ag + 1), .bool up] 43)) (.slice (some ⟨W4.heap.size + 1, 0, none⟩) 1 1) [SF.old ⟨fl, -1, ag, up⟩] := by have h := RC.one (W4.alloc (.cells #[.int .i64 fl, .int .i64 (-1), .int .i64 ag, .bool up] 43)) (SF.old ⟨fl, -1, ag, up⟩); rw [hsz] at h; exact h
                  have HT2 : Hid (Calls Try.prog 8 #[.agg (sv s).toArray, .slice ao i co, .slice ab i cb, .slice (some ⟨W4.heap.size, 0, none⟩) 1 1, .slice (some ⟨W4.heap.size + 1, 0, none⟩) 1 1, .bool true] ((W4.alloc (.cells #[.int .i64 fl, .int .i64 (-1), .int .i64 ag, .bool up] 43)).alloc (.cells #[.int .i64 fl, .int .i64 (-1), .int .i64 (ag + 1), .bool up] 43)) fun e w' => ∃ v, e = .returned v ∧ RI (fun _ => True) w' v ([]) ∧ Below (((W4.alloc (.cells #[.int .i64 fl, .int .i64 (-1), .int .i64 ag, .bool up] 43)).alloc (.cells #[.int .i64 fl, .int .i64 (-1), .int .i64 (ag + 1), .bool up] 43))).heap.size (((W4.alloc (.cells #[.int .i64 fl, .int .i64 (-1), .int .i64 ag, .bool up] 43)).alloc (.cells #[.int .i64 fl, .int .i64 (-1), .int .i64 (ag + 1), .bool up] 43))) w') := by
                    have h := stick_any (fun _ => True) s _ _ _ _ (List.replicate i (SF.xo f)) (List.replicate i y) [⟨fl, -1, ag, up⟩] [SF.old ⟨fl, -1, ag, up⟩] true ((W4.alloc (.cells #[.int .i64 fl, .int .i64 (-1), .int .i64 ag, .bool up] 43)).alloc (.cells #[.int .i64 fl, .int .i64 (-1), .int .i64 (ag + 1), .bool up] 43)) (HU5.out.es.ns.ow.rk fun _ _ => trivial) (HU5.out.es.ob.rk fun _ _ => trivial) ((RC.one W4 ⟨fl, -1, ag, up⟩).below' al2) hrc2 HLN.out.1 HLN.out.2 (by simp) (by simp)
                    rw [← HY.out, SF.tk_olds HR.out HQ.out.2.1 HQ.out.2.2 HNC.out ⟨fl, -1, ag, up⟩ ⟨hg0.1, by show ag ≤ 65535; omega⟩] at h
                    exact h
                  have HR4 := Hid.intro' HU4.out.k1.rng
                  have HR5 : Hid ((W4.alloc (.cells #[.int .i64 fl, .int .i64 (-1), .int .i64 ag, .bool up] 43)).rangeAt c2 0 (cav ⟨fl, -1, ag + 1, up⟩)) := (HU4.out.next al).k2.rng
                  have HSB := Hid.intro' HU4.out.es.ns.sb
                  clear al al2 hsz hrc2 HU4 HOD4
                  go_wp2_with (first | (refine wpList_load23g rfl _ rfl _ s rfl HSB.out ?_) | (refine wpList_loadClg (c := ⟨fl, -1, ag, up⟩) rfl _ rfl _ _ rfl HR4.out ?_) | (refine wpList_loadClg (c := ⟨fl, -1, ag + 1, up⟩) rfl _ rfl _ _ rfl HR5.out ?_))
                  refine HT2.out.mono ?_
                  rintro e W6 ⟨v6, rfl, hr6, hb6⟩
                  obtain ⟨a6, k6, rfl, -, -⟩ := hr6.form
                  have HU6 := Hid.intro' (HU5.out.next hb6)
                  have HOD6 := Hid.intro' (HOD5.out.below' hb6)
                  clear hr6 hb6 HT2 HU5 HR4 HR5 HSB HOD5
                  have al := (Below.refl W6.heap.size W6).alloc (Nat.le_refl _) (.cells #[.int .i64 fl, .int .i64 (-1), .int .i64 ag, .bool up] 43)
                  have HU7 := Hid.intro' (HU6.out.next al)
                  have HOD7 := Hid.intro' (HOD6.out.below' al)
                  have HT3 : Hid (Calls Try.prog 8 #[.agg (sv s).toArray, .slice ao i co, .slice ab i cb, .slice none 0 0, .slice (some ⟨W6.heap.size, 0, none⟩) 1 1, .bool false] (W6.alloc (.cells #[.int .i64 fl, .int .i64 (-1), .int .i64 ag, .bool up] 43)) fun e w' => ∃ v, e = .returned v ∧ RI (fun _ => True) w' v (if ag = 1 then [] else [4]) ∧ Below ((W6.alloc (.cells #[.int .i64 fl, .int .i64 (-1), .int .i64 ag, .bool up] 43))).heap.size ((W6.alloc (.cells #[.int .i64 fl, .int .i64 (-1), .int .i64 ag, .bool up] 43))) w') := by
                    have h := stick_any (fun _ => True) s _ _ _ _ (List.replicate i (SF.xo f)) (List.replicate i y) [] [⟨fl, -1, ag, up⟩] false (W6.alloc (.cells #[.int .i64 fl, .int .i64 (-1), .int .i64 ag, .bool up] 43)) (HU7.out.es.ns.ow.rk fun _ _ => trivial) (HU7.out.es.ob.rk fun _ _ => trivial) (RC.nil _ _) (RC.one W6 ⟨fl, -1, ag, up⟩) HLN.out.1 HLN.out.2 (by simp) (by simp)
                    rw [← HY.out, SF.tk_come HR.out HQ.out.2.1 HQ.out.2.2 HNC.out ⟨fl, -1, ag, up⟩] at h
                    exact h
                  have HR6 := Hid.intro' HU6.out.k1.rng
                  have HSB := Hid.intro' HU6.out.es.ns.sb
                  clear al HU6 HOD6
                  go_wp2_with (first | (refine wpList_load23g rfl _ rfl _ s rfl HSB.out ?_) | (refine wpList_loadClg (c := ⟨fl, -1, ag, up⟩) rfl _ rfl _ _ rfl HR6.out ?_))
                  refine HT3.out.mono ?_
                  rintro e W8 ⟨v8', rfl, hr8, hb8⟩
                  have HB8 := Hid.intro' (HU7.out.next hb8).es.ns.be
                  have HSM : Hid (Calls Try.prog 7 #[v8', vb] W8 fun e w' => e = .returned (.bool true) ∧ Below W8.heap.size W8 w') := by
                    have h := rsame_any (fun _ => True) (fun _ => True) v8' vb _ _ W8 hr8 (HOD7.out.below' hb8) (by split <;> simp)
                    rwa [decide_eq_true rfl] at h
                  clear hr8 hb8 HT3 HU7 HR6 HSB HOD7
                  go_wp2_with fail
                  refine HSM.out.mono ?_
                  rintro e W9 ⟨rfl, hb9⟩
                  have HB9 := Hid.intro' (below_class HB8.out hb9)
                  clear hb9 HSM HB8
                  go_wp2
                  go_ret
                  exact ⟨rfl, HB9.out⟩
    · have HN := Hid.intro' q
      clear q
      go_wp2
      all_goals
        first
          | (go_ret; exact ⟨rfl, HB2.out⟩)
          | (exfalso; have := HN.out; omega)
  · have HR := Hid.intro' hr
    go_wp2_with (refine wpList_load23 rfl _ rfl _ s rfl HS1.out ?_)
    refine (rright_f s hr _).mono ?_
    rintro e W2 ⟨rfl, hb2⟩
    have HB2 := Hid.intro' (below_class HB1.out hb2)
    clear hb2 HB1 HS1
    go_wp2
    go_ret
    exact ⟨rfl, HB2.out⟩

end Go.Proofs.Ytjpkekmccbpclaj
