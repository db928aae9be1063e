/- RuleNear. -/
import Derived.Test.YtdfdkddjkhcgdaiRuS
import Derived.Test.YtdfdkddjkhcgdaiPk7
import Derived.Test.YtdfdkddjkhcgdaiPk10
namespace Go.Proofs.Ytdfdkddjkhcgdai
open Go.RowKit Go.Shelf

theorem dist_sym (a b : Int) : SM.dist a b = SM.dist b a := by unfold SM.dist; split <;> split <;> omega

set_option maxRecDepth 100000 in
set_option maxHeartbeats 8000000 in
theorem RuleNear_any (s : Sn) (D : Nat → Prop) (vc vw : Value) (w : World) (hc : R2 D w vc s.cs) (hw : R2 D w vw s.ws) :
    Calls Try.prog 4 #[.agg (nv s.st vc vw).toArray] w fun e w' => e = .returned (.bool true) ∧ Below w.heap.size w w' := by
  have hbx := (Below.refl w.heap.size w).alloc (Nat.le_refl _) (.cells (nv s.st vc vw).toArray 36)
  have HN := Hid.intro' (NB.new w s.st vc vw)
  have HB := Hid.intro' hbx
  have HC := Hid.intro' ((hc.mono (D' := fun _ => True) fun _ _ _ _ => trivial).below' hbx)
  have HW := Hid.intro' ((hw.mono (D' := fun _ => True) fun _ _ _ _ => trivial).below' hbx)
  obtain ⟨ac, kc, rfl, _, _⟩ := hc.form
  obtain ⟨aw, kw, rfl, _, _⟩ := hw.form
  clear hc hw hbx
  go_enter Try.func4, Try.ntmps4
  go_wp2_with fail
  refine (speaks14_any _).mono ?_
  rintro e W1 ⟨rfl, hb1⟩
  have HB1 := Hid.intro' (below_class HB.out hb1)
  have HN1 := Hid.intro' (HN.out.below' hb1)
  have HC1 := Hid.intro' (HC.out.below' hb1)
  have HW1 := Hid.intro' (HW.out.below' hb1)
  clear hb1 HN HB HC HW
  go_wp2_with (refine wpList_load27g rfl _ rfl w.heap.size s.st _ _ rfl HN1.out ?_)
  refine (great_any s _ _ _ _ [] W1 HC1.out HW1.out (RL.nil _ _)).mono ?_
  rintro e W2 ⟨⟨g, rfl, hb2, hs⟩⟩
  have HB2 := Hid.intro' (below_class HB1.out hb2)
  have HN2 := Hid.intro' (HN1.out.below' hb2)
  have HC2 := Hid.intro' (HC1.out.below' hb2)
  have HW2 := Hid.intro' (HW1.out.below' hb2)
  clear hb2 hs HN1 HB1 HC1 HW1
  cases g with
  | true =>
    go_wp2
    go_ret
    exact ⟨rfl, HB2.out⟩
  | false =>
    have HRR := Hid.intro' (rsnapRight_any s _ _ _ W2 HC2.out HW2.out)
    go_wp2_with (refine wpList_load27g (by go_simp) _ rfl w.heap.size s.st _ _ rfl HN2.out ?_)
    refine HRR.out.mono ?_
    rintro e W3 ⟨rfl, hb3⟩
    have HB3 := Hid.intro' (below_class HB2.out hb3)
    have HN3 := Hid.intro' (HN2.out.below' hb3)
    have HC3 := Hid.intro' (HC2.out.below' hb3)
    have HW3 := Hid.intro' (HW2.out.below' hb3)
    clear hb3 HRR HB2 HN2 HC2 HW2
    cases hr : rgt s with
    | false =>
      clear hr
      go_wp2
      go_ret
      exact ⟨rfl, HB3.out⟩
    | true =>
      have HR := Hid.intro' hr
      have HZ := Hid.intro' (rgt_rz hr)
      have HAF := Hid.intro' (rgt_after hr)
      obtain ⟨n8, hrs⟩ := rgt_rs hr
      have HRS := Hid.intro' hrs
      have hcl : s.cs.length ≤ 8 := by have := hrs.cl; have := hrs.n8; omega
      have HP := Hid.intro' (ruleplan_yes HC3.out HW3.out hr)
      clear hr hrs
      go_wp2_with (refine wpList_load27g rfl _ rfl w.heap.size s.st _ _ rfl HN3.out ?_)
      refine HP.out.mono ?_
      rintro e W4 ⟨v, rfl, hrl, hb4⟩
      have HB4 := Hid.intro' (below_class HB3.out hb4)
      have HN4 := Hid.intro' (HN3.out.below' hb4)
      have HC4 := Hid.intro' (HC3.out.below' hb4)
      have HW4 := Hid.intro' (HW3.out.below' hb4)
      obtain ⟨av, kv, rfl, _, _⟩ := hrl.form
      rw [rpl_length] at hrl ⊢
      have HL4 := Hid.intro' hrl
      have c13 : W4.cell? ⟨w.heap.size, 13, none⟩ = some (.slice ac s.cs.length kc) := HN4.out.cell 13
      clear hb4 hrl HP HB3 HN3 HC3 HW3
      go_wp2_with fail
      clear c13
      go_loopw [41] (fun cv wr => ∃ c : Nat, c ≤ s.cs.length ∧ cv = .int .i64 (c : Int) ∧ Hid (Below W4.heap.size W4 wr)) (fun cv _ => s.cs.length - (intOf cv).toNat)
      case atStart => exact ⟨0, Nat.zero_le _, rfl, Below.refl _ _⟩
      case round =>
        obtain ⟨c, hcn, rfl, HBL⟩ := hrel
        by_cases hc : c < s.cs.length
        · have hcz : (c : Int) < (s.cs.length : Int) := by omega
          obtain ⟨gp, op, rfl, u, hcu, hru⟩ := (HL4.out.below' HBL.out).at (rpl_get (s := s) hc)
          obtain ⟨au, ku, rfl, _, _⟩ := hru.form
          obtain ⟨r, hr⟩ : ∃ r, s.cs[c]? = some r := ⟨_, List.getElem?_eq_getElem hc⟩
          obtain ⟨r1, r2⟩ := r
          have HFA0 : Hid (∀ i x, 0 ≤ i → (rls s c s.st.fl.toNat)[i]? = some x → 0 ≤ rfa s c x) := fun i x _ hx => by
            obtain ⟨q, rfl, hq, _⟩ := rls_near HR.out (List.mem_of_getElem? hx)
            exact (rfa_bd HR.out hc hq).1
          have HNE : Hid (∀ x ∈ rls s c s.st.fl.toNat, ∃ q : Nat, x = (q : Int) ∧ q < s.ws.length ∧ ∀ d, d < s.cs.length → mayk s d (q : Int) = true → rtm s (q : Int) c ≤ rtm s (q : Int) d) := fun x hx => by
            obtain ⟨q, h1, h2, _, _, h3⟩ := rls_near HR.out hx
            exact ⟨q, h1, h2, h3⟩
          have HPW := Hid.intro' (rls_far (s := s) c s.st.fl.toNat)
          obtain ⟨l, HLL⟩ : ∃ l, Hid (rls s c s.st.fl.toNat = l) := ⟨_, Hid.intro' rfl⟩
          rw [HLL.out] at hru hcu HFA0 HNE HPW
          have hlb : l.length ≤ 1000 := by
            rw [← HLL.out]
            exact (rpl_bd HR.out).2 _ (List.mem_of_getElem? (rpl_get (s := s) hc))
          have HRU : Hid (RI (fun _ => True) wr (.slice au l.length ku) l) := hru
          have HRC := Hid.intro' hr
          have hl0 : 0 ≤ r2 := (HZ.out.cr (r1, r2) (List.mem_of_getElem? hr)).l0
          have haf : r2 ≤ 1000000 := HAF.out (r1, r2) (List.mem_of_getElem? hr)
          have hr0 : 0 ≤ r1 := (HZ.out.cr (r1, r2) (List.mem_of_getElem? hr)).f0
          have hr1 : r1 < s.st.fl := (HZ.out.cr (r1, r2) (List.mem_of_getElem? hr)).f1
          have hfl : s.st.fl ≤ 64 := HZ.out.rt.fl2
          have HBD : Hid (0 ≤ r2 ∧ r2 ≤ 1000000 ∧ 0 ≤ r1 ∧ r1 ≤ 64) := ⟨hl0, haf, hr0, by omega⟩
          clear hru hr hl0 haf hr0 hr1
          go_wp2_with fail
          clear hcu
          have HBM := HBL
          generalize hWr : wr = WM at HRU HBM ⊢
          clear hWr HBL
          clear wr
          go_loopw [7, 48] (fun fv jv wr => ∃ (j : Nat) (fa : Int), j ≤ l.length ∧ jv = .int .i64 (j : Int) ∧ fv = .int .i64 fa ∧ Hid (∀ i x, j ≤ i → l[i]? = some x → fa ≤ rfa s c x) ∧ Hid (Below WM.heap.size WM wr)) (fun _ jv _ => l.length - (intOf jv).toNat)
          case atStart => exact ⟨0, 0, Nat.zero_le _, rfl, rfl, HFA0, Below.refl _ _⟩
          case round =>
            obtain ⟨j, fa, hjn, rfl, rfl, HFA, HBJ⟩ := hrel
            have HBW := Hid.intro' (below_class HBM.out HBJ.out)
            by_cases hj : j < l.length
            · have hjz : (j : Int) < (l.length : Int) := by omega
              obtain ⟨x, hx⟩ : ∃ x, l[j]? = some x := ⟨_, List.getElem?_eq_getElem hj⟩
              obtain ⟨q, rfl, hq, hne⟩ := HNE.out x (List.mem_of_getElem? hx)
              have hqz : (q : Int) < (s.ws.length : Int) := by omega
              obtain ⟨gi, oi, rfl, ci⟩ := (HRU.out.below' HBJ.out).at hx
              obtain ⟨y, hy⟩ : ∃ y, s.ws[q]? = some y := ⟨_, List.getElem?_eq_getElem hq⟩
              obtain ⟨m, hm, hym⟩ := HRS.out.mm.eq q y hy
              obtain ⟨y1, y2⟩ := y
              have hy2 : y2 = (m : Int) := hym
              subst hy2
              have hy0 := HZ.out.wr (y1, (m : Int)) (List.mem_of_getElem? hy)
              have hy1 : 0 ≤ y1 ∧ y1 < s.st.fl := hy0
              have hmk : ∀ d, mayk s d (q : Int) = PM.bt m d := fun d => by unfold mayk; rw [Int.toNat_natCast, hm]; rfl
              have hwf : RM.wf s.ws (q : Int) = y1 := RM.wf_get hy
              obtain ⟨T, HT⟩ : ∃ T, Hid (SM.trav s.st r1 y1 = T) := ⟨_, Hid.intro' rfl⟩
              have htb := SM.trav_bd HZ.out.rt r1 y1
              rw [HT.out] at htb
              have hbd := HBD.out
              have hw1 : IntKind.i64.wrap (r2 + T) = r2 + T := IntWalk.i64_in _ (by omega)
              have HRM : Hid (rtm s (q : Int) c = r2 + T) := by
                show _ = _
                unfold rtm
                rw [HRC.out, hwf, Option.getD_some, HT.out]
              have HNR : Hid (∀ d t, d < s.cs.length → PM.bt m d = true → s.cs[d]? = some t → ¬ (t.2 + SM.trav s.st t.1 y1 < r2 + T)) := fun d t hd hb ht => by
                have h1 := hne d hd (by rw [hmk]; exact hb)
                rw [HRM.out] at h1
                unfold rtm at h1
                rw [ht, hwf, Option.getD_some] at h1
                omega
              have HRA : Hid (rfa s c (q : Int) = SM.dist y1 r1) := by
                show _ = _
                unfold rfa
                rw [HRC.out, hwf, Option.getD_some, dist_sym]
              have hfq := HFA.out j (q : Int) (Nat.le_refl _) hx
              rw [HRA.out] at hfq
              have HFN : Hid (∀ i x, j + 1 ≤ i → l[i]? = some x → SM.dist y1 r1 ≤ rfa s c x) := fun i x hi hx2 => by
                rw [← HRA.out]
                have hil : i < l.length := (List.getElem?_eq_some_iff.1 hx2).1
                have h1 := List.pairwise_iff_getElem.1 HPW.out j i hj hil (by omega)
                have e1 := (List.getElem?_eq_some_iff.1 hx).2
                have e2 := (List.getElem?_eq_some_iff.1 hx2).2
                rwa [e1, e2] at h1
              obtain ⟨A, HA⟩ : ∃ A, Hid (SM.dist y1 r1 = A) := ⟨_, Hid.intro' rfl⟩
              rw [HA.out] at hfq HFN
              have hm8 : m ≤ 100000 := by
                have h1 := HRS.out.lt m (List.mem_of_getElem? hm)
                have h2 : 2 ^ n8 ≤ 2 ^ 8 := Nat.pow_le_pow_right (by omega) HRS.out.n8
                omega
              obtain ⟨gc, oc, rfl, e0, e1⟩ := (HC4.out.below' HBW.out).at HRC.out
              obtain ⟨gw, ow, rfl, f0, f1⟩ := (HW4.out.below' HBW.out).at hy
              have HNW := Hid.intro' (HN4.out.below' HBW.out)
              have c14 : wr.cell? ⟨w.heap.size, 14, none⟩ = some (.slice (some ⟨gw, ow, none⟩) s.ws.length kw) := HNW.out.cell 14
              have HNB : Hid (∀ w', Below wr.heap.size wr w' → NB w' w.heap.size s.st (.slice (some ⟨gc, oc, none⟩) s.cs.length kc) (.slice (some ⟨gw, ow, none⟩) s.ws.length kw)) := fun w' hw => HNW.out.below' hw
              have H13 : Hid (∀ w', Below wr.heap.size wr w' → w'.cell? ⟨w.heap.size, 13, none⟩ = some (.slice (some ⟨gc, oc, none⟩) s.cs.length kc)) := fun w' hw => (HNW.out.below' hw).cell 13
              have E0 : Hid (∀ w', Below wr.heap.size wr w' → w'.cell? ⟨gc, oc + c * 2, none⟩ = some (.int .i64 r1)) := fun w' hw => (hw.cell (p := ⟨gc, oc + c * 2, none⟩) (cell_lt e0)).trans e0
              have E1 : Hid (∀ w', Below wr.heap.size wr w' → w'.cell? ⟨gc, oc + c * 2 + 1, none⟩ = some (.int .i64 r2)) := fun w' hw => (hw.cell (p := ⟨gc, oc + c * 2 + 1, none⟩) (cell_lt e1)).trans e1
              have F1 : Hid (∀ w', Below wr.heap.size wr w' → w'.cell? ⟨gw, ow + q * 2 + 1, none⟩ = some (.int .i64 (m : Int))) := fun w' hw => (hw.cell (p := ⟨gw, ow + q * 2 + 1, none⟩) (cell_lt f1)).trans f1
              have HTR : Hid (∀ w', Below wr.heap.size wr w' → Calls Try.prog 12 #[.agg (sv s.st).toArray, .int .i64 r1, .int .i64 y1] w' fun e w'' => e = .returned (.int .i64 T) ∧ Below w'.heap.size w' w'') := fun w' hw => by
                have h := rtravel_any s.st HZ.out.rt r1 y1 w'
                rw [HT.out] at h
                exact h
              have HYB : Hid (0 ≤ y1 ∧ y1 ≤ 64) := ⟨hy1.1, by omega⟩
              have HTB := Hid.intro' htb
              clear hx hm hym hy0 hy1 hmk hwf htb hbd hne e0 e1 f1 hy HRM HRA
              go_wp2_with fail
              clear ci c14 f0
              refine wp_region_quiet (C := fun w' => Below wr.heap.size wr w') (by kernel_rfl) (by kernel_rfl) ((Below.refl _ _).drew) ?_
              simp only []
              unfold wpQuiet
              generalize hK : wpQuiet Try.prog _ _ _ _ = K
              go_simp
              refine ⟨_, fun _ _ => rfl, ?_⟩
              subst hK
              unfold wpQuiet
              generalize hK : wpQuiet Try.prog _ _ _ _ = K
              rw [if_pos (by go_simp)]
              refine quiet_lR _ _ _ rfl rfl H13.out ?_
              go_simp
              subst hK
              unfold wpQuiet
              generalize hK : wpQuiet Try.prog _ _ _ _ = K
              go_simp
              refine ⟨_, fun _ _ => rfl, ?_⟩
              subst hK
              unfold wpQuiet
              generalize hK : wpQuiet Try.prog _ _ _ _ = K
              rw [if_pos (by go_simp)]
              refine quiet_iR _ _ rfl rfl rfl hc ?_
              go_simp
              subst hK
              unfold wpQuiet
              generalize hK : wpQuiet Try.prog _ _ _ _ = K
              go_simp
              refine ⟨_, fun _ _ => rfl, ?_⟩
              subst hK
              unfold wpQuiet
              generalize hK : wpQuiet Try.prog _ _ _ _ = K
              rw [if_pos (by go_simp)]
              refine quiet_load3 _ _ _ rfl rfl E1.out ?_
              go_simp
              subst hK
              unfold wpQuiet
              generalize hK : wpQuiet Try.prog _ _ _ _ = K
              go_simp
              refine ⟨_, fun _ _ => rfl, ?_⟩
              subst hK
              unfold wpQuiet
              generalize hK : wpQuiet Try.prog _ _ _ _ = K
              rw [if_pos (by go_simp)]
              refine quiet_l23n _ w.heap.size s.st _ _ rfl rfl HNB.out ?_
              go_simp
              subst hK
              unfold wpQuiet
              generalize hK : wpQuiet Try.prog _ _ _ _ = K
              go_simp
              refine ⟨_, fun _ _ => rfl, ?_⟩
              subst hK
              unfold wpQuiet
              generalize hK : wpQuiet Try.prog _ _ _ _ = K
              rw [if_pos (by go_simp)]
              refine quiet_lR _ _ _ rfl rfl H13.out ?_
              go_simp
              subst hK
              unfold wpQuiet
              generalize hK : wpQuiet Try.prog _ _ _ _ = K
              go_simp
              refine ⟨_, fun _ _ => rfl, ?_⟩
              subst hK
              unfold wpQuiet
              generalize hK : wpQuiet Try.prog _ _ _ _ = K
              rw [if_pos (by go_simp)]
              refine quiet_iR _ _ rfl rfl rfl hc ?_
              go_simp
              subst hK
              unfold wpQuiet
              generalize hK : wpQuiet Try.prog _ _ _ _ = K
              go_simp
              refine ⟨_, fun _ _ => rfl, ?_⟩
              subst hK
              unfold wpQuiet
              generalize hK : wpQuiet Try.prog _ _ _ _ = K
              rw [if_pos (by go_simp)]
              refine quiet_load3 _ _ _ rfl rfl E0.out ?_
              go_simp
              subst hK
              unfold wpQuiet
              generalize hK : wpQuiet Try.prog _ _ _ _ = K
              go_simp
              refine ⟨_, fun _ _ => rfl, ?_⟩
              subst hK
              unfold wpQuiet
              generalize hK : wpQuiet Try.prog _ _ _ _ = K
              go_simp
              refine ⟨_, fun w' hw => (HTR.out w' hw).mono fun e w'' hh => ⟨hh.1, below_class hw hh.2⟩, ?_⟩
              subst hK
              unfold wpQuiet
              generalize hK : wpQuiet Try.prog _ _ _ _ = K
              go_simp
              refine ⟨_, fun _ _ => rfl, ?_⟩
              subst hK
              unfold wpQuiet
              generalize hK : wpQuiet Try.prog _ _ _ _ = K
              go_simp
              refine ⟨_, fun _ _ => rfl, ?_⟩
              subst hK
              refine wpQuiet_nil ?_
              intro W5 hb5
              have HBX := Hid.intro' hb5
              have c13 : W5.cell? ⟨w.heap.size, 13, none⟩ = some (.slice (some ⟨gc, oc, none⟩) s.cs.length kc) := H13.out W5 hb5
              clear hb5 HTR
              go_wp2_with fail
              clear c13
              obtain ⟨WJ, rfl⟩ : ∃ X, X = wr := ⟨_, rfl⟩
              go_loopw [87] (fun kv wr => ∃ k : Nat, k ≤ s.cs.length ∧ kv = .int .i64 (k : Int) ∧ Hid (Below WJ.heap.size WJ wr)) (fun kv _ => s.cs.length - (intOf kv).toNat)
              case atStart => exact ⟨0, Nat.zero_le _, rfl, HBX⟩
              case round =>
                clear HBX
                obtain ⟨k, hkn, rfl, HBK⟩ := hrel
                by_cases hk : k < s.cs.length
                · have hkz : (k : Int) < (s.cs.length : Int) := by omega
                  have hk64 : k ≤ 64 := by omega
                  obtain ⟨t, ht⟩ : ∃ t, s.cs[k]? = some t := ⟨_, List.getElem?_eq_getElem hk⟩
                  obtain ⟨gc', oc', e, g0, g1⟩ := (HC4.out.below' (below_class HBW.out HBK.out)).at ht
                  cases e
                  obtain ⟨a1, a2⟩ := t
                  obtain ⟨T2, HT2⟩ : ∃ T, Hid (SM.trav s.st a1 y1 = T) := ⟨_, Hid.intro' rfl⟩
                  have htb2 := SM.trav_bd HZ.out.rt a1 y1
                  rw [HT2.out] at htb2
                  have ha0 : 0 ≤ a2 := (HZ.out.cr (a1, a2) (List.mem_of_getElem? ht)).l0
                  have ha1 : a2 ≤ 1000000 := HAF.out (a1, a2) (List.mem_of_getElem? ht)
                  have hw2 : IntKind.i64.wrap (a2 + T2) = a2 + T2 := IntWalk.i64_in _ (by omega)
                  have HNL : Hid (PM.bt m k = true → ¬ (a2 + T2 < r2 + T)) := fun hb => by
                    have h3 := HNR.out k (a1, a2) hk hb ht
                    rw [show SM.trav s.st (a1, a2).1 y1 = T2 from HT2.out] at h3
                    have h5 : r2 + T ≤ a2 + T2 := by
                      first
                        | exact h3
                        | (have h6 : ¬ (a2 + T2 < r2 + T) := h3; omega)
                    omega
                  have hba := (Below.refl wr.heap.size wr).alloc (Nat.le_refl _) (.cells #[.int .i64 a1, .int .i64 a2] 48)
                  have HBA := Hid.intro' (below_class HBK.out hba)
                  have HRB : Hid ((wr.alloc (.cells #[.int .i64 a1, .int .i64 a2] 48)).heap[wr.heap.size]? = some (.cells #[.int .i64 a1, .int .i64 a2] 48 (0, 0))) := World.alloc_heap_new wr _
                  clear ht ha0 ha1 htb2 hba
                  go_wp2_with fail
                  clear g0 g1
                  generalize wr.alloc (.cells #[.int .i64 a1, .int .i64 a2] 48) = X at HBA HRB ⊢
                  generalize wr.heap.size = rb at HRB ⊢
                  have HRL := Hid.intro' (show rb < X.heap.size from (Array.getElem?_eq_some_iff.1 HRB.out).1)
                  have XNB : Hid (∀ w', Below X.heap.size X w' → NB w' w.heap.size s.st (.slice (some ⟨gc, oc, none⟩) s.cs.length kc) (.slice (some ⟨gw, ow, none⟩) s.ws.length kw)) := fun w' hw => HNB.out w' (below_class HBA.out hw)
                  have X14 : Hid (∀ w', Below X.heap.size X w' → w'.cell? ⟨w.heap.size, 14, none⟩ = some (.slice (some ⟨gw, ow, none⟩) s.ws.length kw)) := fun w' hw => (XNB.out w' hw).cell 14
                  have XF1 : Hid (∀ w', Below X.heap.size X w' → w'.cell? ⟨gw, ow + q * 2 + 1, none⟩ = some (.int .i64 (m : Int))) := fun w' hw => F1.out w' (below_class HBA.out hw)
                  have B0 : Hid (∀ w', Below X.heap.size X w' → w'.cell? ⟨rb, 0, none⟩ = some (.int .i64 a1)) := fun w' hw => blk_cell ((hw.block rb HRL.out).trans HRB.out) 0
                  have B1 : Hid (∀ w', Below X.heap.size X w' → w'.cell? ⟨rb, 1, none⟩ = some (.int .i64 a2)) := fun w' hw => blk_cell ((hw.block rb HRL.out).trans HRB.out) 1
                  have XTR : Hid (∀ w', Below X.heap.size X w' → Calls Try.prog 12 #[.agg (sv s.st).toArray, .int .i64 a1, .int .i64 y1] w' fun e w'' => e = .returned (.int .i64 T2) ∧ Below w'.heap.size w' w'') := fun w' hw => by
                    have h := rtravel_any s.st HZ.out.rt a1 y1 w'
                    rw [HT2.out] at h
                    exact h
                  have hcast : ((m / 2 ^ k : Nat) : Int) = (m : Int) / 2 ^ k := by rw [Int.natCast_ediv, Int.natCast_pow]; rfl
                  cases hbt : PM.bt m k with
                  | true =>
                    have hod : m / 2 ^ k % 2 = 1 := by unfold PM.bt at hbt; simpa using hbt
                    have hb1 : bits .and .i64 ((m / 2 ^ k : Nat) : Int) 1 = 1 := by rw [i64_and1]; omega
                    have hb2 : bits .and .i64 ((m : Int) / 2 ^ k) 1 = 1 := by rw [← hcast]; exact hb1
                    have hnl := HNL.out hbt
                    have hnd : decide (a2 + T2 < r2 + T) = false := decide_eq_false (by omega)
                    clear hbt hod hcast
                    refine wp_region_quiet (C := fun w' => Below X.heap.size X w') (by kernel_rfl) (by kernel_rfl) ((Below.refl _ _).drew) ?_
                    simp only []
                    unfold wpQuiet
                    generalize hK : wpQuiet Try.prog _ _ _ _ = K
                    go_simp
                    refine ⟨_, fun _ _ => rfl, ?_⟩
                    subst hK
                    unfold wpQuiet
                    generalize hK : wpQuiet Try.prog _ _ _ _ = K
                    rw [if_pos (by go_simp)]
                    refine quiet_lW _ _ _ rfl rfl X14.out ?_
                    go_simp
                    subst hK
                    unfold wpQuiet
                    generalize hK : wpQuiet Try.prog _ _ _ _ = K
                    go_simp
                    refine ⟨_, fun _ _ => rfl, ?_⟩
                    subst hK
                    unfold wpQuiet
                    generalize hK : wpQuiet Try.prog _ _ _ _ = K
                    rw [if_pos (by go_simp)]
                    refine quiet_iW _ _ rfl rfl rfl hq ?_
                    go_simp
                    subst hK
                    unfold wpQuiet
                    generalize hK : wpQuiet Try.prog _ _ _ _ = K
                    go_simp
                    refine ⟨_, fun _ _ => rfl, ?_⟩
                    subst hK
                    unfold wpQuiet
                    generalize hK : wpQuiet Try.prog _ _ _ _ = K
                    rw [if_pos (by go_simp)]
                    refine quiet_load3 _ _ _ rfl rfl XF1.out ?_
                    go_simp
                    subst hK
                    unfold wpQuiet
                    generalize hK : wpQuiet Try.prog _ _ _ _ = K
                    go_simp
                    refine ⟨_, fun _ _ => rfl, ?_⟩
                    subst hK
                    unfold wpQuiet
                    generalize hK : wpQuiet Try.prog _ _ _ _ = K
                    rw [if_pos (by go_simp)]
                    refine quiet_shr _ _ rfl rfl rfl hk64 ?_
                    go_simp
                    subst hK
                    unfold wpQuiet
                    generalize hK : wpQuiet Try.prog _ _ _ _ = K
                    go_simp
                    refine ⟨_, fun _ _ => rfl, ?_⟩
                    subst hK
                    unfold wpQuiet
                    generalize hK : wpQuiet Try.prog _ _ _ _ = K
                    go_simp
                    refine ⟨_, fun _ _ => rfl, ?_⟩
                    subst hK
                    unfold wpQuiet
                    generalize hK : wpQuiet Try.prog _ _ _ _ = K
                    go_simp
                    refine ⟨_, fun _ _ => rfl, ?_⟩
                    subst hK
                    unfold wpQuiet
                    generalize hK : wpQuiet Try.prog _ _ _ _ = K
                    go_simp
                    refine ⟨_, fun _ _ => rfl, ?_⟩
                    subst hK
                    unfold wpQuiet
                    generalize hK : wpQuiet Try.prog _ _ _ _ = K
                    rw [if_pos (by go_simp)]
                    refine quiet_load3 _ _ _ rfl rfl B1.out ?_
                    go_simp
                    subst hK
                    unfold wpQuiet
                    generalize hK : wpQuiet Try.prog _ _ _ _ = K
                    go_simp
                    refine ⟨_, fun _ _ => rfl, ?_⟩
                    subst hK
                    unfold wpQuiet
                    generalize hK : wpQuiet Try.prog _ _ _ _ = K
                    rw [if_pos (by go_simp)]
                    refine quiet_l23n _ w.heap.size s.st _ _ rfl rfl XNB.out ?_
                    go_simp
                    subst hK
                    unfold wpQuiet
                    generalize hK : wpQuiet Try.prog _ _ _ _ = K
                    go_simp
                    refine ⟨_, fun _ _ => rfl, ?_⟩
                    subst hK
                    unfold wpQuiet
                    generalize hK : wpQuiet Try.prog _ _ _ _ = K
                    rw [if_pos (by go_simp)]
                    refine quiet_load3 _ _ _ rfl rfl B0.out ?_
                    go_simp
                    subst hK
                    unfold wpQuiet
                    generalize hK : wpQuiet Try.prog _ _ _ _ = K
                    go_simp
                    refine ⟨_, fun _ _ => rfl, ?_⟩
                    subst hK
                    unfold wpQuiet
                    generalize hK : wpQuiet Try.prog _ _ _ _ = K
                    go_simp
                    refine ⟨_, fun w' hw => (XTR.out w' hw).mono fun e w'' hh => ⟨hh.1, below_class hw hh.2⟩, ?_⟩
                    subst hK
                    unfold wpQuiet
                    generalize hK : wpQuiet Try.prog _ _ _ _ = K
                    go_simp
                    refine ⟨_, fun _ _ => rfl, ?_⟩
                    subst hK
                    unfold wpQuiet
                    generalize hK : wpQuiet Try.prog _ _ _ _ = K
                    go_simp
                    refine ⟨_, fun _ _ => rfl, ?_⟩
                    subst hK
                    unfold wpQuiet
                    generalize hK : wpQuiet Try.prog _ _ _ _ = K
                    go_simp
                    refine ⟨_, fun _ _ => rfl, ?_⟩
                    subst hK
                    unfold wpQuiet
                    generalize hK : wpQuiet Try.prog _ _ _ _ = K
                    go_simp
                    refine ⟨_, fun _ _ => rfl, ?_⟩
                    subst hK
                    refine wpQuiet_nil ?_
                    intro W9 hb9
                    have HB9 := Hid.intro' (below_class HBA.out hb9)
                    clear hb9 XNB X14 XF1 B0 B1 XTR HRB HRL HBA HBK hb1 hb2 hnl hnd HNL
                    go_wp2
                    go_roundw
                    case rel => exact ⟨k + 1, by omega, by go_num, HB9⟩
                    case measure => simp [intOf]; omega
                  | false =>
                    have hod : m / 2 ^ k % 2 = 0 := by
                      unfold PM.bt at hbt
                      have : ¬ m / 2 ^ k % 2 = 1 := by simpa using hbt
                      omega
                    have hb1 : bits .and .i64 ((m / 2 ^ k : Nat) : Int) 1 = 0 := by rw [i64_and1]; omega
                    have hb2 : bits .and .i64 ((m : Int) / 2 ^ k) 1 = 0 := by rw [← hcast]; exact hb1
                    clear hbt hod hcast
                    refine wp_region_quiet (C := fun w' => Below X.heap.size X w') (by kernel_rfl) (by kernel_rfl) ((Below.refl _ _).drew) ?_
                    simp only []
                    unfold wpQuiet
                    generalize hK : wpQuiet Try.prog _ _ _ _ = K
                    go_simp
                    refine ⟨_, fun _ _ => rfl, ?_⟩
                    subst hK
                    unfold wpQuiet
                    generalize hK : wpQuiet Try.prog _ _ _ _ = K
                    rw [if_pos (by go_simp)]
                    refine quiet_lW _ _ _ rfl rfl X14.out ?_
                    go_simp
                    subst hK
                    unfold wpQuiet
                    generalize hK : wpQuiet Try.prog _ _ _ _ = K
                    go_simp
                    refine ⟨_, fun _ _ => rfl, ?_⟩
                    subst hK
                    unfold wpQuiet
                    generalize hK : wpQuiet Try.prog _ _ _ _ = K
                    rw [if_pos (by go_simp)]
                    refine quiet_iW _ _ rfl rfl rfl hq ?_
                    go_simp
                    subst hK
                    unfold wpQuiet
                    generalize hK : wpQuiet Try.prog _ _ _ _ = K
                    go_simp
                    refine ⟨_, fun _ _ => rfl, ?_⟩
                    subst hK
                    unfold wpQuiet
                    generalize hK : wpQuiet Try.prog _ _ _ _ = K
                    rw [if_pos (by go_simp)]
                    refine quiet_load3 _ _ _ rfl rfl XF1.out ?_
                    go_simp
                    subst hK
                    unfold wpQuiet
                    generalize hK : wpQuiet Try.prog _ _ _ _ = K
                    go_simp
                    refine ⟨_, fun _ _ => rfl, ?_⟩
                    subst hK
                    unfold wpQuiet
                    generalize hK : wpQuiet Try.prog _ _ _ _ = K
                    rw [if_pos (by go_simp)]
                    refine quiet_shr _ _ rfl rfl rfl hk64 ?_
                    go_simp
                    subst hK
                    unfold wpQuiet
                    generalize hK : wpQuiet Try.prog _ _ _ _ = K
                    go_simp
                    refine ⟨_, fun _ _ => rfl, ?_⟩
                    subst hK
                    unfold wpQuiet
                    generalize hK : wpQuiet Try.prog _ _ _ _ = K
                    go_simp
                    refine ⟨_, fun _ _ => rfl, ?_⟩
                    subst hK
                    unfold wpQuiet
                    generalize hK : wpQuiet Try.prog _ _ _ _ = K
                    go_simp
                    refine ⟨_, fun _ _ => rfl, ?_⟩
                    subst hK
                    unfold wpQuiet
                    generalize hK : wpQuiet Try.prog _ _ _ _ = K
                    go_simp
                    subst hK
                    unfold wpQuiet
                    generalize hK : wpQuiet Try.prog _ _ _ _ = K
                    go_simp
                    subst hK
                    unfold wpQuiet
                    generalize hK : wpQuiet Try.prog _ _ _ _ = K
                    go_simp
                    subst hK
                    unfold wpQuiet
                    generalize hK : wpQuiet Try.prog _ _ _ _ = K
                    go_simp
                    subst hK
                    unfold wpQuiet
                    generalize hK : wpQuiet Try.prog _ _ _ _ = K
                    go_simp
                    subst hK
                    unfold wpQuiet
                    generalize hK : wpQuiet Try.prog _ _ _ _ = K
                    go_simp
                    subst hK
                    unfold wpQuiet
                    generalize hK : wpQuiet Try.prog _ _ _ _ = K
                    go_simp
                    subst hK
                    unfold wpQuiet
                    generalize hK : wpQuiet Try.prog _ _ _ _ = K
                    go_simp
                    subst hK
                    unfold wpQuiet
                    generalize hK : wpQuiet Try.prog _ _ _ _ = K
                    go_simp
                    subst hK
                    unfold wpQuiet
                    generalize hK : wpQuiet Try.prog _ _ _ _ = K
                    go_simp
                    subst hK
                    unfold wpQuiet
                    generalize hK : wpQuiet Try.prog _ _ _ _ = K
                    go_simp
                    subst hK
                    unfold wpQuiet
                    generalize hK : wpQuiet Try.prog _ _ _ _ = K
                    go_simp
                    refine ⟨_, fun _ _ => rfl, ?_⟩
                    subst hK
                    refine wpQuiet_nil ?_
                    intro W9 hb9
                    have HB9 := Hid.intro' (below_class HBA.out hb9)
                    clear hb9 XNB X14 XF1 B0 B1 XTR HRB HRL HBA HBK hb1 hb2 HNL
                    go_wp2
                    go_roundw
                    case rel => exact ⟨k + 1, by omega, by go_num, HB9⟩
                    case measure => simp [intOf]; omega
                · have hkz : ¬ (k : Int) < (s.cs.length : Int) := by omega
                  have c13 : wr.cell? ⟨w.heap.size, 13, none⟩ = some (.slice (some ⟨gc, oc, none⟩) s.cs.length kc) := H13.out wr HBK.out
                  have e0 : wr.cell? ⟨gc, oc + c * 2, none⟩ = some (.int .i64 r1) := E0.out wr HBK.out
                  have hfar := far_any y1 r1 wr (by have := HYB.out; omega) (by have := HBD.out; omega)
                  rw [HA.out] at hfar
                  have HFC := Hid.intro' hfar
                  have hnf : ¬ (A < fa) := by omega
                  clear hfar
                  go_wp2_with fail
                  refine HFC.out.mono ?_
                  rintro e W9 ⟨rfl, hb9⟩
                  have HB9 := Hid.intro' (below_class HBJ.out (below_class HBK.out hb9))
                  clear hb9 c13 e0 HFC
                  go_wp2
                  go_roundw
                  case rel => exact ⟨j + 1, A, by omega, by go_num, rfl, HFN, HB9⟩
                  case measure => simp [intOf]; omega
            · have hjz : ¬ (j : Int) < (l.length : Int) := by omega
              go_wp2
              go_roundw
              case rel => exact ⟨c + 1, by omega, by go_num, HBW⟩
              case measure => simp [intOf]; omega
        · have hcz : ¬ (c : Int) < (s.cs.length : Int) := by omega
          have HBE := Hid.intro' (below_class HB4.out HBL.out)
          go_wp2
          go_ret
          exact ⟨rfl, HBE.out⟩

end Go.Proofs.Ytdfdkddjkhcgdai
