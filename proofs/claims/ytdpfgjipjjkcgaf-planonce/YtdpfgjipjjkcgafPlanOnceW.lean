/- PlanOnce. -/
import Derived.Test.YtdpfgjipjjkcgafPlZ
import Derived.Test.YtdpfgjipjjkcgafPlOc
import Derived.Test.YtdpfgjipjjkcgafPlC
namespace Go.Proofs.Ytdpfgjipjjkcgaf
open Go.RowKit Go.Shelf

set_option maxRecDepth 100000 in
set_option maxHeartbeats 8000000 in
theorem PlanOnce_any (s : Sn) (D : Nat → Prop) (vc vw vp : Value) (p : List (List Int)) (which other : Int) (w : World) (hc : R2 D w vc s.cs) (hw : R2 D w vw s.ws) (hp : RL D w vp p) :
    Calls Try.prog 4 #[.agg (nv s.st vc vw).toArray, vp, .int .i64 which, .int .i64 other] w fun e w' => e = .returned (.bool true) ∧ Below w.heap.size w w' := by
  have hbx := (Below.refl w.heap.size w).alloc (Nat.le_refl _) (.cells (nv s.st vc vw).toArray 27)
  have HN := Hid.intro' (NB.new w s.st vc vw)
  have HB := Hid.intro' hbx
  have HC := Hid.intro' ((hc.mono (D' := fun g => g < w.heap.size) fun g _ h _ => h).below' hbx)
  have HW := Hid.intro' ((hw.mono (D' := fun g => g < w.heap.size) fun g _ h _ => h).below' hbx)
  have HP := Hid.intro' ((hp.mono (D' := fun g => g < w.heap.size) fun g _ h _ => h).below' hbx)
  obtain ⟨ac, kc, rfl, _, _⟩ := hc.form
  obtain ⟨aw, kw, rfl, _, _⟩ := hw.form
  obtain ⟨ap, kp, rfl, _, _⟩ := hp.form
  clear hc hw hp hbx
  go_enter Try.func4, Try.ntmps4
  go_wp2_with fail
  refine (speaks_any _).mono ?_
  rintro e W1 ⟨rfl, hb1⟩
  have HB1 := Hid.intro' (below_class HB.out hb1)
  have HN1 := Hid.intro' (HN.out.below' hb1)
  have HC1 := Hid.intro' (HC.out.below' hb1)
  have HW1 := Hid.intro' (HW.out.below' hb1)
  have HP1 := Hid.intro' (HP.out.below' hb1)
  clear hb1 HN HB HC HW HP
  go_wp2_with (refine wpList_load27g rfl _ rfl w.heap.size s.st _ _ rfl HN1.out ?_)
  refine (great_any s _ _ _ _ p W1 HC1.out HW1.out HP1.out).mono ?_
  rintro e W2 ⟨⟨g, rfl, hb2, hs⟩⟩
  have HB2 := Hid.intro' (below_class HB1.out hb2)
  have HN2 := Hid.intro' (HN1.out.below' hb2)
  have HC2 := Hid.intro' (HC1.out.below' hb2)
  have HW2 := Hid.intro' (HW1.out.below' hb2)
  have HP2 := Hid.intro' (HP1.out.below' hb2)
  clear hb2 HN1 HB1 HC1 HW1 HP1
  cases g with
  | true =>
    clear hs
    go_wp2
    go_ret
    exact ⟨rfl, HB2.out⟩
  | false =>
    have HS := Hid.intro' (hs rfl)
    clear hs
    go_wp2_with (refine wpList_load27g (by go_simp) _ rfl w.heap.size s.st _ _ rfl HN2.out ?_)
    refine (feasible_any s _ _ _ _ p W2 HC2.out HW2.out HP2.out (by have := HS.out.pl; omega) (fun l hl => by have := HS.out.ll l hl; omega)).mono ?_
    rintro e W3 ⟨rfl, hb3⟩
    have HB3 := Hid.intro' (below_class HB2.out hb3)
    have HN3 := Hid.intro' (HN2.out.below' hb3)
    have HC3 := Hid.intro' (HC2.out.below' hb3)
    have HW3 := Hid.intro' (HW2.out.below' hb3)
    have HP3 := Hid.intro' (HP2.out.below' hb3)
    have c14 : W3.cell? ⟨w.heap.size, 14, none⟩ = some (.slice aw s.ws.length kw) := HN3.out.cell 14
    clear hb3 HN2 HB2 HC2 HW2 HP2
    cases hf : fsb s p with
    | false =>
      clear hf
      go_wp2
      go_ret
      exact ⟨rfl, HB3.out⟩
    | true =>
      have HF := Hid.intro' hf
      have hf3 : rgt s = true ∧ p.length = s.cs.length ∧ PM.feas (msk s) p = true := by unfold fsb at hf; simp [Bool.and_eq_true] at hf; exact ⟨hf.1.1, hf.1.2, hf.2⟩
      have HFZ := Hid.intro' (PM.feas_iff.1 hf3.2.2)
      have HRG := Hid.intro' hf3.1
      have HPL := Hid.intro' hf3.2.1
      clear hf hf3
      by_cases h0 : s.ws.length = 0
      · have h0z : (s.ws.length : Int) = 0 := by omega
        clear h0
        go_wp2
        go_ret
        exact ⟨rfl, HB3.out⟩
      · have h0z : ((s.ws.length : Int) == 0) = false := by rw [beq_eq_false_iff_ne]; omega
        obtain ⟨k, hk, hkm⟩ : ∃ k : Nat, k < 65536 ∧ which % 65536 = (k : Int) := ⟨(which % 65536).toNat, by omega, by omega⟩
        have hk16 := i64_andffff which
        rw [hkm] at hk16
        have hrm : (k : Int).tmod (s.ws.length : Int) = ((k % s.ws.length : Nat) : Int) := by rw [Int.tmod_eq_emod_of_nonneg (by omega)]; omega
        obtain ⟨x, hx⟩ : ∃ x, k % s.ws.length = x := ⟨_, rfl⟩
        have HXL : Hid (x < s.ws.length) := by show x < _; rw [← hx]; exact Nat.mod_lt _ (by omega)
        rw [hx] at hrm
        clear hkm hx
        have HXM : Hid (x < (msk s).length) := by show x < _; unfold msk; rw [List.length_map]; exact HXL.out
        have HP0 := Hid.intro' (PM.home_lt HXM.out HFZ.out)
        go_wp2_with fail
        have hbX := (((Below.refl W3.heap.size W3).alloc (Nat.le_refl _) (.cells #[] 38)).alloc (by simp) (.cells #[] 38)).alloc (by simp; omega) (.cells #[] 38)
        have HO0 : Hid (On (((W3.alloc (.cells #[] 38)).alloc (.cells #[] 38)).alloc (.cells #[] 38)) W3.heap.size (x : Int) p 0 0 0 W3.heap.size (W3.heap.size + 1) (W3.heap.size + 1 + 1) 0 0 0 [] [] []) := by
          have a1 := ((OP.nil (B := W3.heap.size) W3 (Nat.le_refl _)).below' ((Below.refl _ _).alloc (Nat.le_refl _) (.cells #[] 38))).below' ((Below.refl _ _).alloc (Nat.le_refl _) (.cells #[] 38))
          have a2 := (OP.nil (B := W3.heap.size) (W3.alloc (.cells #[] 38)) (by simp)).below' ((Below.refl _ _).alloc (Nat.le_refl _) (.cells #[] 38))
          have a3 := OP.nil (B := W3.heap.size) ((W3.alloc (.cells #[] 38)).alloc (.cells #[] 38)) (by simp; omega)
          rw [World.size_alloc] at a2 a3
          rw [World.size_alloc] at a3
          exact ⟨a1, a2, a3, by omega, by omega, by omega, fun i u l h => by simp at h, fun i u l h => by simp at h, fun i u l h => by simp at h, fun i u g h => by simp at h, fun i j u u' g _ h => by simp at h⟩
        have HBX := Hid.intro' hbX
        clear hbX
        generalize (((W3.alloc (.cells #[] 38)).alloc (.cells #[] 38)).alloc (.cells #[] 38)) = X at HO0 HBX ⊢
        go_loopw [10, 11, 12, 13, 53] (fun vt vo vd h i wr => ∃ k hm gt go gd ct co cd : Nat, ∃ ut uo ud : List Value, k ≤ p.length ∧ vt = .slice (some ⟨gt, 0, none⟩) k ct ∧ vo = .slice (some ⟨go, 0, none⟩) k co ∧ vd = .slice (some ⟨gd, 0, none⟩) k cd ∧ h = .int .i64 (hm : Int) ∧ i = .int .i64 (k : Int) ∧ Hid (hm < p.length) ∧ Hid (On wr W3.heap.size (x : Int) p k k k gt go gd ct co cd ut uo ud) ∧ Hid (Below W3.heap.size W3 wr)) (fun _ _ _ _ i _ => p.length - (intOf i).toNat)
        case atStart => exact ⟨0, 0, _, _, _, _, _, _, _, _, _, Nat.zero_le _, rfl, rfl, rfl, rfl, rfl, HP0, HO0, HBX⟩
        case round =>
          obtain ⟨kk, hm, gt, go, gd, ct, co, cd, ut, uo, ud, hkp, rfl, rfl, rfl, rfl, rfl, HHM, HON, HBW⟩ := hrel
          rename World => Wr
          by_cases hlt : kk < p.length
          · have hkz : (kk : Int) < (p.length : Int) := by omega
            obtain ⟨l, hl⟩ : ∃ l, p[kk]? = some l := ⟨_, List.getElem?_eq_getElem hlt⟩
            obtain ⟨g, o, rfl, u, hcu, hru⟩ := (HP3.out.below' HBW.out).at hl
            obtain ⟨au, ku, rfl, _, _⟩ := hru.form
            have hll : l.length ≤ 200 := HS.out.ll l (List.mem_of_getElem? hl)
            have HL := Hid.intro' hl
            have HRU := Hid.intro' hru
            have HRX := Hid.intro' ((hru.below' ((Below.refl _ _).alloc (Nat.le_refl _) (.cells #[] 3))).below' ((Below.refl _ _).alloc (Nat.le_refl _) (.cells #[] 3)))
            have hlit : OI ((Wr.alloc (.cells #[] 3)).alloc (.cells #[] 3)) (Wr.heap.size + 1) (.slice (some ⟨Wr.heap.size + 1, 0, none⟩) 0 0) [] := by
              have := OI.lit (B := Wr.heap.size + 1) (Wr.alloc (.cells #[] 3)) [] (by simp) (Nat.zero_le _)
              rw [World.size_alloc] at this
              exact this
            have hlia : OI ((Wr.alloc (.cells #[] 3)).alloc (.cells #[] 3)) Wr.heap.size (.slice (some ⟨Wr.heap.size, 0, none⟩) 0 0) [] := (OI.lit (B := Wr.heap.size) Wr [] (Nat.le_refl _) (Nat.zero_le _)).alloc (.cells #[] 3)
            have HLB := Hid.intro' hlit
            have HLA := Hid.intro' hlia
            clear hl hru hlit hlia
            go_wp2_with (at_builtin; refine wpList_appendRI rfl _ _ rfl (Wr.heap.size + 1) _ _ [] l _ rfl HLB.out rfl HRX.out ?qc3 ?qc4 ?_)
            case qc3 => simp; omega
            case qc4 => simp
            intro vb W4 hob hg4
            have hb4 : Below Wr.heap.size Wr W4 := (((Below.refl _ Wr).alloc (Nat.le_refl _) (.cells #[] 3)).alloc (by simp) (.cells #[] 3)).grown hg4 (by simp; omega) (fun q hq => by have := own_some hq; omega)
            have HA4 := Hid.intro' (HLA.out.keep (W' := W4) fun q hq => by have := own_some hq; subst this; exact hg4.block _ (by simp; omega) (fun e => by have := own_some e.symm; omega))
            have HB4 := Hid.intro' (hob.mono (B' := Wr.heap.size) (by omega))
            have HD4 : Hid (∀ q, (Value.slice (some ⟨Wr.heap.size, 0, none⟩) 0 0).ownBlock = some q → vb.ownBlock ≠ some q) := fun q hq e => by
              have h7 := own_some hq
              have := (hob.lt _ e).1
              omega
            have HW4 := Hid.intro' hb4
            obtain ⟨ab, kb, rfl⟩ := hob.slice
            clear hob hg4 hb4 HLB HLA HRX
            go_wp2_with fail
            go_loopw [13, 16, 17, 64] (fun h a b i W => ∃ j hm' : Nat, j ≤ l.length ∧ i = .int .i64 (j : Int) ∧ h = .int .i64 (hm' : Int) ∧ Hid (hm' < p.length) ∧ Hid (OI W Wr.heap.size a (PM.fw (x : Int) (l.take j))) ∧ Hid (OI W Wr.heap.size b (l ++ List.replicate ((l.take j).count (x : Int)) (x : Int))) ∧ Hid (∀ q, a.ownBlock = some q → b.ownBlock ≠ some q) ∧ Hid (Below Wr.heap.size Wr W)) (fun _ _ _ i _ => l.length - (intOf i).toNat)
            case atStart => exact ⟨0, hm, Nat.zero_le _, rfl, rfl, HHM, HA4, by simpa using HB4, HD4, HW4⟩
            case round =>
              obtain ⟨j, hm', hj, rfl, rfl, HHM', HA5, HB5, HD5, HW5⟩ := hrel
              have HZ5 := Hid.intro' HW5.out.size
              by_cases hjl : j < l.length
              · have hjz : (j : Int) < (l.length : Int) := by omega
                obtain ⟨y, hy⟩ : ∃ y, l[j]? = some y := ⟨_, List.getElem?_eq_getElem hjl⟩
                obtain ⟨g2, o2, rfl, hcy⟩ := (HRU.out.below' HW5.out).at hy
                have HTK : Hid (l.take (j + 1) = l.take j ++ [y]) := by show _ = _; rw [List.take_add_one, hy]; rfl
                obtain ⟨a5, k5, rfl⟩ := HA5.out.slice
                obtain ⟨b5, k6, rfl⟩ := HB5.out.slice
                have hfl : (PM.fw (x : Int) (l.take j)).length ≤ 200 := by unfold PM.fw; exact Nat.le_trans (List.length_filter_le _ _) (by rw [List.length_take]; omega)
                have hbl : (l ++ List.replicate ((l.take j).count (x : Int)) (x : Int)).length ≤ 400 := by rw [List.length_append, List.length_replicate]; have := List.count_le_length (a := (x : Int)) (l := l.take j); rw [List.length_take] at this; omega
                generalize hfa : PM.fw (x : Int) (l.take j) = fa at HA5 HD5 hfl ⊢
                generalize hfb : l ++ List.replicate ((l.take j).count (x : Int)) (x : Int) = fb at HB5 HD5 hbl ⊢
                have HFA := Hid.intro' hfa
                have HFB := Hid.intro' hfb
                clear hfa hfb hy
                have HCx : Hid (∀ z : Int, (wr.alloc (.cells #[.int .i64 z] 3)).cell? ⟨wr.heap.size, 0, none⟩ = some (.int .i64 z)) := fun z => by rw [cell_of_row _ _ 0 _ _ _ (heap_alloc_new wr _)]; rfl
                by_cases hyx : y = (x : Int)
                · subst hyx
                  have HB5a := Hid.intro' (HB5.out.alloc (.cells #[.int .i64 (x : Int)] 3))
                  go_wp2_with (at_builtin; refine wpList_appI rfl _ _ rfl Wr.heap.size _ fb rfl HB5a.out wr.heap.size 1 (x : Int) rfl (HCx.out _) ?qd3 ?qd4 ?_)
                  case qd3 => omega
                  case qd4 => have := HZ5.out; simp; omega
                  intro g3 c3 W6 ho6 hg6 hat6 hlt6
                  have HB6 := Hid.intro' (((HW5.out.alloc HZ5.out (.cells #[.int .i64 (x : Int)] 3)).grown hg6 (by have := HZ5.out; simp; omega) (fun q hq => (HB5.out.lt q hq).1)))
                  have HA6 : Hid (OI W6 Wr.heap.size (.slice a5 fa.length k5) (PM.fw (x : Int) (l.take (j + 1)))) := by
                    show OI _ _ _ _
                    rw [HTK.out, PM.fw_snoc, if_pos rfl, HFA.out]
                    exact HA5.out.keep fun q hq => (hg6.block q (by have := (HA5.out.lt q hq).2; simp; omega) (fun e => HD5.out q hq e.symm)).trans (Below.heap_alloc _ _ _ (HA5.out.lt q hq).2)
                  have HO6 : Hid (OI W6 Wr.heap.size (.slice (some ⟨g3, 0, none⟩) (fb.length + 1) c3) (l ++ List.replicate ((l.take (j + 1)).count (x : Int)) (x : Int))) := by
                    show OI _ _ _ _
                    rw [HTK.out, List.count_append, show [(x : Int)].count (x : Int) = 1 by simp, List.replicate_succ', ← List.append_assoc, HFB.out]
                    exact ho6
                  have HD6 : Hid (∀ q, (Value.slice a5 fa.length k5).ownBlock = some q → (Value.slice (some ⟨g3, 0, none⟩) (fb.length + 1) c3).ownBlock ≠ some q) := fun q hq e => by
                    have e' : g3 = q := own_some e
                    have h7 := (HA5.out.lt q hq).2
                    rcases hat6 with h8 | h8
                    · exact HD5.out q hq (by rw [← e']; exact h8)
                    · (try simp at h8); omega
                  have HH6 : Hid (kk < p.length) := hlt
                  clear ho6 hg6 hat6 hlt6 HB5a HA5 HB5 HD5
                  go_wp2
                  go_roundw
                  case rel => exact ⟨j + 1, kk, by omega, by go_num, rfl, HH6, HA6, HO6, HD6, HB6⟩
                  case measure => simp [intOf]; omega
                · have HA5a := Hid.intro' (HA5.out.alloc (.cells #[.int .i64 y] 3))
                  have hyz : ¬ y = (x : Int) := hyx
                  go_wp2_with (at_builtin; refine wpList_appI rfl _ _ rfl Wr.heap.size _ fa rfl HA5a.out wr.heap.size 1 y rfl (HCx.out _) ?qd3 ?qd4 ?_)
                  case qd3 => omega
                  case qd4 => have := HZ5.out; simp; omega
                  intro g3 c3 W6 ho6 hg6 hat6 hlt6
                  have HB6 := Hid.intro' (((HW5.out.alloc HZ5.out (.cells #[.int .i64 y] 3)).grown hg6 (by have := HZ5.out; simp; omega) (fun q hq => (HA5.out.lt q hq).1)))
                  have HA6 : Hid (OI W6 Wr.heap.size (.slice (some ⟨g3, 0, none⟩) (fa.length + 1) c3) (PM.fw (x : Int) (l.take (j + 1)))) := by
                    show OI _ _ _ _
                    rw [HTK.out, PM.fw_snoc, if_neg hyx, HFA.out]
                    exact ho6
                  have HO6 : Hid (OI W6 Wr.heap.size (.slice b5 fb.length k6) (l ++ List.replicate ((l.take (j + 1)).count (x : Int)) (x : Int))) := by
                    show OI _ _ _ _
                    rw [HTK.out, List.count_append, show [y].count (x : Int) = 0 by rw [List.count_eq_zero]; simp; exact fun h => hyx h.symm, Nat.add_zero, HFB.out]
                    exact HB5.out.keep fun q hq => (hg6.block q (by have := (HB5.out.lt q hq).2; simp; omega) (fun e => HD5.out q e.symm hq)).trans (Below.heap_alloc _ _ _ (HB5.out.lt q hq).2)
                  have HD6 : Hid (∀ q, (Value.slice (some ⟨g3, 0, none⟩) (fa.length + 1) c3).ownBlock = some q → (Value.slice b5 fb.length k6).ownBlock ≠ some q) := fun q hq e => by
                    have e' : g3 = q := own_some hq
                    have h7 := (HB5.out.lt q e).2
                    rcases hat6 with h8 | h8
                    · exact HD5.out q (by rw [← e']; exact h8) e
                    · (try simp at h8); omega
                  clear ho6 hg6 hat6 hlt6 HA5a HA5 HB5 HD5
                  go_wp2
                  go_roundw
                  case rel => exact ⟨j + 1, hm', by omega, by go_num, rfl, HHM', HA6, HO6, HD6, HB6⟩
                  case measure => simp [intOf]; omega
              · have hjz : ¬ (j : Int) < (l.length : Int) := by omega
                have htk : l.take j = l := List.take_of_length_le (by omega)
                rw [htk] at HA5 HB5
                change Hid (OI wr Wr.heap.size _ (PM.tw (x : Int) l)) at HB5
                have hku : uo.length = kk := HON.out.oo.len.symm
                have hkt : ut.length = kk := HON.out.ot.len.symm
                have hkd : ud.length = kk := HON.out.od.len.symm
                subst hku
                have HHL : Hid (p[uo.length]? = some l) := HL.out
                have HLT : Hid (gt < Wr.heap.size ∧ go < Wr.heap.size ∧ gd < Wr.heap.size ∧ W3.heap.size ≤ Wr.heap.size) := ⟨(HON.out.ot.lt gt rfl).2, (HON.out.oo.lt go rfl).2, (HON.out.od.lt gd rfl).2, HBW.out.size⟩
                obtain ⟨a5, k5, rfl⟩ := HA5.out.slice
                obtain ⟨b5, k6, rfl⟩ := HB5.out.slice
                generalize hn5 : (PM.fw (x : Int) l).length = n5 at HA5 HD5 ⊢
                generalize hn6 : (PM.tw (x : Int) l).length = n6 at HB5 HD5 ⊢
                have HAR : Hid (RI (Far W3.heap.size gt go gd) (wr.alloc (.cells #[.slice a5 n5 k5] 38)) (.slice a5 n5 k5) (PM.fw (x : Int) l)) := (HA5.out.alloc _).ri fun q hq => by
                  have h1 := (HA5.out.lt q hq).1
                  have h2 := HLT.out
                  exact ⟨by omega, by omega, by omega, by omega⟩
                have HO1 := Hid.intro' ((HON.out.below' HW5.out).below' ((Below.refl _ _).alloc (Nat.le_refl _) (.cells #[.slice a5 n5 k5] 38)))
                have hca : (wr.alloc (.cells #[.slice a5 n5 k5] 38)).cell? ⟨wr.heap.size, 0, none⟩ = some (.slice a5 n5 k5) := by rw [cell_of_row _ _ 0 _ _ _ (heap_alloc_new wr _)]; rfl
                have HCA := Hid.intro' hca
                have hkk : uo.length ≤ 20 := by have := HS.out.pl; omega
                clear hca htk hn5 hn6
                go_wp2_with (at_builtin; refine wpList_appP rfl _ _ rfl W3.heap.size _ uo rfl HO1.out.oo wr.heap.size 1 (.slice a5 n5 k5) rfl HCA.out rfl ?qe3 ?qe4 ?_)
                case qe3 => omega
                case qe4 => have := HLT.out; have := HZ5.out; simp; omega
                intro g6 c6 W6 ho6 hg6 hat6 hlt6
                have hat6' : g6 = go ∨ g6 = wr.heap.size + 1 := hat6.imp (fun e => (own_some e).symm) (fun e => by simpa using e)
                have HO2 := Hid.intro' (HO1.out.growO ho6 hg6 (by rw [World.size_alloc]; exact hat6') HAR.out HHL.out)
                have HW6 := Hid.intro' (((below_class HBW.out HW5.out).alloc (below_class HBW.out HW5.out).size (.cells #[.slice a5 n5 k5] 38)).grown hg6 (by have := HZ5.out; have := HLT.out; simp; omega) (fun q hq => (HO1.out.oo.lt q hq).1))
                have HB6 : Hid (OI W6 Wr.heap.size (.slice b5 n6 k6) (PM.tw (x : Int) l)) := HB5.out.keep fun q hq => (hg6.block q (by have := (HB5.out.lt q hq).2; simp; omega) (fun e => by have h1 := own_some e.symm; have h2 := (HB5.out.lt q hq).1; have := HLT.out; omega)).trans (Below.heap_alloc _ _ _ (HB5.out.lt q hq).2)
                have HA6 : Hid (OI W6 Wr.heap.size (.slice a5 n5 k5) (PM.fw (x : Int) l)) := HA5.out.keep fun q hq => (hg6.block q (by have := (HA5.out.lt q hq).2; simp; omega) (fun e => by have h1 := own_some e.symm; have h2 := (HA5.out.lt q hq).1; have := HLT.out; omega)).trans (Below.heap_alloc _ _ _ (HA5.out.lt q hq).2)
                have HBR : Hid (RI (Far W3.heap.size gt g6 gd) (W6.alloc (.cells #[.slice b5 n6 k6] 38)) (.slice b5 n6 k6) (PM.tw (x : Int) l)) := (HB6.out.alloc _).ri fun q hq => by
                  have h1 := (HB5.out.lt q hq).1
                  have h3 := (HB5.out.lt q hq).2
                  have h2 := HLT.out
                  exact ⟨by omega, by omega, by omega, by omega⟩
                have HO3 := Hid.intro' (HO2.out.below' ((Below.refl _ _).alloc (Nat.le_refl _) (.cells #[.slice b5 n6 k6] 38)))
                have hcb : (W6.alloc (.cells #[.slice b5 n6 k6] 38)).cell? ⟨W6.heap.size, 0, none⟩ = some (.slice b5 n6 k6) := by rw [cell_of_row _ _ 0 _ _ _ (heap_alloc_new W6 _)]; rfl
                have HCB := Hid.intro' hcb
                have HZ6 : Hid (wr.heap.size + 1 ≤ W6.heap.size) := by show wr.heap.size + 1 ≤ _; have := hg6.size; simpa using this
                clear hcb ho6 hg6 hat6 hlt6 HO1 HAR HCA HA5 HB5
                go_wp2_with (at_builtin; refine wpList_appP rfl _ _ rfl W3.heap.size _ ut rfl HO3.out.ot W6.heap.size 1 (.slice b5 n6 k6) rfl HCB.out rfl ?qf3 ?qf4 ?_)
                case qf3 => omega
                case qf4 => have := HLT.out; have := HZ5.out; have := HZ6.out; simp; omega
                intro g7 c7 W7 ho7 hg7 hat7 hlt7
                have hat7' : g7 = gt ∨ g7 = W6.heap.size + 1 := hat7.imp (fun e => (own_some e).symm) (fun e => by simpa using e)
                have h4 := HO3.out.growT (by rw [hkt]; exact ho7) hg7 (by rw [World.size_alloc]; exact hat7') HBR.out (by rw [hkt]; exact HHL.out)
                rw [hkt] at h4
                have HO4 := Hid.intro' h4
                clear h4
                have HW7 := Hid.intro' ((HW6.out.alloc HW6.out.size (.cells #[.slice b5 n6 k6] 38)).grown hg7 (by have := HW6.out.size; simp; omega) (fun q hq => (HO3.out.ot.lt q hq).1))
                have HA7 : Hid (OI W7 Wr.heap.size (.slice a5 n5 k5) (PM.fw (x : Int) l)) := HA6.out.keep fun q hq => (hg7.block q (by have := (HA6.out.lt q hq).2; simp; omega) (fun e => by have h1 := own_some e.symm; have h2 := (HA6.out.lt q hq).1; have := HLT.out; omega)).trans (Below.heap_alloc _ _ _ (HA6.out.lt q hq).2)
                clear ho7 hg7 hat7 hlt7 HO3 HBR HCB HA6 HB6 HO2
                have HLC : Hid (OI (W7.alloc (.cells #[] 3)) W7.heap.size (.slice (some ⟨W7.heap.size, 0, none⟩) 0 0) []) := OI.lit (B := W7.heap.size) W7 [] (Nat.le_refl _) (Nat.zero_le _)
                have HAX : Hid (RI (fun _ => True) (W7.alloc (.cells #[] 3)) (.slice a5 n5 k5) (PM.fw (x : Int) l)) := (HA7.out.alloc _).ri fun _ _ => trivial
                have hfl : (PM.fw (x : Int) l).length ≤ 200 := by unfold PM.fw; exact Nat.le_trans (List.length_filter_le _ _) (by omega)
                go_wp2_with (at_builtin; refine wpList_appendRI rfl _ _ rfl W7.heap.size _ _ [] (PM.fw (x : Int) l) (fun _ => True) rfl HLC.out rfl HAX.out ?qg3 ?qg4 ?_)
                case qg3 => simp; omega
                case qg4 => simp
                intro vd8 W8 ho8 hg8
                have HO8 := Hid.intro' ho8
                obtain ⟨a8, k8, rfl⟩ := ho8.slice
                have hb8 : Below W7.heap.size W7 W8 := ((Below.refl _ W7).alloc (Nat.le_refl _) (.cells #[] 3)).grown hg8 (by simp) (fun q hq => by have := own_some hq; omega)
                have HO5 := Hid.intro' ((HO4.out.below' hb8).below' ((Below.refl _ _).alloc (Nat.le_refl _) (.cells #[.slice a8 (PM.fw (x : Int) l).length k8] 38)))
                have hcd : (W8.alloc (.cells #[.slice a8 (PM.fw (x : Int) l).length k8] 38)).cell? ⟨W8.heap.size, 0, none⟩ = some (.slice a8 (PM.fw (x : Int) l).length k8) := by rw [cell_of_row _ _ 0 _ _ _ (heap_alloc_new W8 _)]; rfl
                have HCD := Hid.intro' hcd
                have HW8 := Hid.intro' (below_class HW7.out hb8)
                have HZ8 : Hid (W3.heap.size ≤ W8.heap.size) := HW8.out.size
                have HM : Hid (∀ q, (q = g7 ∨ q = g6 ∨ q = gd ∨ ∃ (i : Nat) (u : Value), ud[i]? = some u ∧ u.ownBlock = some q) → q < W7.heap.size) := fun q hq => by
                  rcases hq with rfl | rfl | rfl | ⟨i, u, hu, hq⟩
                  · exact (HO4.out.ot.lt _ rfl).2
                  · exact (HO4.out.oo.lt _ rfl).2
                  · exact (HO4.out.od.lt _ rfl).2
                  · exact (HO4.out.rf i u q hu hq).2
                have HZ7 : Hid (W3.heap.size ≤ W7.heap.size) := HW7.out.size
                clear hcd ho8 hg8 hb8 HO4 HLC HAX HA7
                generalize hn8 : (PM.fw (x : Int) l).length = n8 at HO8 HO5 HCD ⊢
                clear hn8 hfl
                go_wp2_with (at_builtin; refine wpList_appP rfl _ _ rfl W3.heap.size _ ud rfl HO5.out.od W8.heap.size 1 (.slice a8 n8 k8) rfl HCD.out rfl ?qh3 ?qh4 ?_)
                case qh3 => omega
                case qh4 => have := HZ8.out; simp; omega
                intro g9 c9 W9 ho9 hg9 hat9 hlt9
                have hat9' : g9 = gd ∨ g9 = W8.heap.size + 1 := hat9.imp (fun e => (own_some e).symm) (fun e => by simpa using e)
                have h6 := HO5.out.growD (by rw [hkd]; exact ho9) hg9 (by rw [World.size_alloc]; exact hat9') (HO8.out.alloc _) (by rw [hkd]; exact HHL.out) HM.out HZ7.out
                rw [hkd] at h6
                have HO6 := Hid.intro' h6
                have HW9 := Hid.intro' ((HW8.out.alloc HW8.out.size (.cells #[.slice a8 n8 k8] 38)).grown hg9 (by have := HW8.out.size; simp; omega) (fun q hq => (HO5.out.od.lt q hq).1))
                clear h6 ho9 hg9 hat9 hlt9 HO5 HCD HO8 HM
                go_wp2
                go_roundw
                case rel =>
                  exact ⟨uo.length + 1, hm', g7, g6, g9, c7, c6, c9, _, _, _, by omega, rfl, rfl, rfl, rfl, by go_num, HHM', HO6, HW9⟩
                case measure => simp [intOf]; omega
          · have hkz : ¬ (kk : Int) < (p.length : Int) := by omega
            have HK : Hid (kk = p.length) := by show kk = p.length; omega
            have HN4 := Hid.intro' (HN3.out.below' HBW.out)
            have HC4 := Hid.intro' ((HC3.out.mono (D' := fun _ => True) fun _ _ _ _ => trivial).below' HBW.out)
            have HW4 := Hid.intro' ((HW3.out.mono (D' := fun _ => True) fun _ _ _ _ => trivial).below' HBW.out)
            have HRO := Hid.intro' (HON.out.rlo HK.out)
            have HOF := Hid.intro' (fsb_out (s := s) (p := p) HXL.out)
            have HTF := Hid.intro' (fsb_twice HXL.out HF.out)
            have HLO : Hid (∀ l ∈ p.map (PM.fw (x : Int)), l.length ≤ 1000) := fun l hl => by obtain ⟨q, hq, rfl⟩ := List.mem_map.1 hl; have := HS.out.ll q hq; have := fw_length (x : Int) q; omega
            have HLT : Hid (∀ l ∈ p.map (PM.tw (x : Int)), l.length ≤ 1000) := fun l hl => by obtain ⟨q, hq, rfl⟩ := List.mem_map.1 hl; have := HS.out.ll q hq; have := tw_length (x : Int) q; omega
            have HPN : Hid (p.length ≤ 1000) := by show p.length ≤ 1000; have := HS.out.pl; omega
            clear hkp c14
            go_wp2_with (refine wpList_load27g rfl _ rfl w.heap.size s.st _ _ rfl HN4.out ?_)
            refine (feasible_any s _ _ _ _ (p.map (PM.fw (x : Int))) Wr HC4.out HW4.out HRO.out (by rw [List.length_map]; exact HPN.out) HLO.out).mono ?_
            rintro e W5 ⟨rfl, hb5⟩
            rw [HOF.out]
            have HN5 := Hid.intro' (HN4.out.below' hb5)
            have HC5 := Hid.intro' (HC4.out.below' hb5)
            have HW5 := Hid.intro' (HW4.out.below' hb5)
            have HON5 := Hid.intro' (HON.out.below' hb5)
            have HBW5 := Hid.intro' (below_class HBW.out hb5)
            have HRT := Hid.intro' (HON5.out.rlt HK.out)
            clear hb5 HN4 HC4 HW4 HRO HON HBW
            go_wp2_with (refine wpList_load27g (by go_simp) _ rfl w.heap.size s.st _ _ rfl HN5.out ?_)
            refine (feasible_any s _ _ _ _ (p.map (PM.tw (x : Int))) W5 HC5.out HW5.out HRT.out (by rw [List.length_map]; exact HPN.out) HLT.out).mono ?_
            rintro e W6 ⟨rfl, hb6⟩
            rw [HTF.out]
            have HN6 := Hid.intro' (HN5.out.below' hb6)
            have HC6 := Hid.intro' (HC5.out.below' hb6)
            have HW6 := Hid.intro' (HW5.out.below' hb6)
            have HON6 := Hid.intro' (HON5.out.below' hb6)
            have HBW6 := Hid.intro' (below_class HBW5.out hb6)
            clear hb6 HN5 HC5 HW5 HRT HON5 HBW5
            obtain ⟨k2, hk2, hkm2⟩ : ∃ k : Nat, k < 65536 ∧ other % 65536 = (k : Int) := ⟨(other % 65536).toNat, by omega, by omega⟩
            have hk162 := i64_andffff other
            rw [hkm2] at hk162
            have hp0z : ((p.length : Int) == 0) = false := by rw [beq_eq_false_iff_ne]; have := HP0.out; omega
            have hpe : ¬ p = [] := fun e => by have := HP0.out; rw [e] at this; simp at this
            have hrm2 : (k2 : Int).tmod (p.length : Int) = ((k2 % p.length : Nat) : Int) := by rw [Int.tmod_eq_emod_of_nonneg (by omega)]; omega
            obtain ⟨c, hc⟩ : ∃ c, k2 % p.length = c := ⟨_, rfl⟩
            have HCL : Hid (c < p.length) := by show c < _; rw [← hc]; exact Nat.mod_lt _ HP0.out
            rw [hc] at hrm2
            have hcz : (c : Int) < (kk : Int) := by have := HK.out; have := HCL.out; omega
            obtain ⟨l, hl⟩ : ∃ l, p[c]? = some l := ⟨_, List.getElem?_eq_getElem HCL.out⟩
            obtain ⟨u, hu⟩ : ∃ u, ud[c]? = some u := ⟨_, List.getElem?_eq_getElem (by have := HON6.out.od.len; have := HK.out; have := HCL.out; omega)⟩
            have hll : l.length ≤ 200 := HS.out.ll l (List.mem_of_getElem? hl)
            have hov : OI W6 W3.heap.size u (PM.fw (x : Int) l) := HON6.out.rd c u l hu hl
            have hfl : (PM.fw (x : Int) l).length ≤ 200 := Nat.le_trans (fw_length _ _) hll
            obtain ⟨au, ku, rfl⟩ := hov.slice
            generalize hnf : (PM.fw (x : Int) l).length = nf at hov hu hfl
            have hcu : W6.cell? ⟨gd, c, none⟩ = some (.slice au nf ku) := HON6.out.od.cell hu
            have HU := Hid.intro' hu
            have HL := Hid.intro' hl
            have HNF := Hid.intro' hnf
            have HOV := Hid.intro' (hov.alloc (.cells #[.int .i64 (x : Int)] 3))
            have HCX : Hid ((W6.alloc (.cells #[.int .i64 (x : Int)] 3)).cell? ⟨W6.heap.size, 0, none⟩ = some (.int .i64 (x : Int))) := by
              show _ = _
              rw [cell_of_row _ _ 0 _ _ _ (heap_alloc_new W6 _)]; rfl
            have HZ6 := Hid.intro' HBW6.out.size
            clear hkm2 hc hl hu hll hov hnf
            go_wp2_with (at_builtin; refine wpList_appI rfl _ _ rfl W3.heap.size _ (PM.fw (x : Int) l) rfl HOV.out W6.heap.size 1 (x : Int) rfl HCX.out ?qa3 ?qa4 ?_)
            case qa3 => have := HNF.out; omega
            case qa4 => have := HZ6.out; simp; omega
            intro g' cap' W7 ho7 hg7 hat7 hlt7
            rw [HNF.out] at ho7 ⊢
            have honx := HON6.out.below' ((Below.refl _ _).alloc (Nat.le_refl _) (.cells #[.int .i64 (x : Int)] 3))
            have hng : some gd ≠ (Value.slice au nf ku).ownBlock := fun e => (HON6.out.rf c _ gd HU.out e.symm).1.2.2.2 rfl
            have s7 : W7.cell? ⟨gd, c, none⟩ = some (.slice au nf ku) := hg7.cell (honx.od.cell HU.out) hng
            have t7 : W7.frozen? ⟨gd, c, none⟩ = false := (hg7.frozen_far ⟨gd, c, none⟩ (honx.od.lt gd rfl).2 hng).trans (honx.od.fr c)
            have HRD := Hid.intro' (honx.odd HK.out HU.out hg7 ho7 (by rw [World.size_alloc]; exact hat7))
            have HB8 := Hid.intro' (((HBW6.out.alloc HZ6.out (.cells #[.int .i64 (x : Int)] 3)).grown hg7 (by have := HZ6.out; simp; omega) (fun q hq => (HOV.out.lt q hq).1)).setCell (p := ⟨gd, c, none⟩) (honx.od.lt gd rfl).1 (.slice (some ⟨g', 0, none⟩) (nf + 1) cap'))
            clear ho7 hg7 hat7 hlt7 honx hng HOV HCX hcu HON6 HBW6 HN6 HC6 HW6 HZ6
            go_wp2_with fail
            clear s7 t7
            generalize W7.setCell ⟨gd, c, none⟩ (.slice (some ⟨g', 0, none⟩) (nf + 1) cap') = W8 at HRD HB8 ⊢
            obtain ⟨n8, HRS⟩ := rgt_rs HRG.out
            obtain ⟨y, hy⟩ : ∃ y, s.ws[x]? = some y := ⟨_, List.getElem?_eq_getElem HXL.out⟩
            obtain ⟨m, hm9, hym⟩ := HRS.mm.eq x y hy
            have HC8 := Hid.intro' ((HC3.out.mono (D' := fun _ => True) fun _ _ _ _ => trivial).below' HB8.out)
            have HW8 := Hid.intro' ((HW3.out.mono (D' := fun _ => True) fun _ _ _ _ => trivial).below' HB8.out)
            have HP8 := Hid.intro' (HP3.out.below' HB8.out)
            have HN8 := Hid.intro' (HN3.out.below' HB8.out)
            obtain ⟨gw, ow, rfl, hw1, hw2⟩ := HW8.out.at hy
            rw [hym] at hw2
            have hc64 : c ≤ 64 := by have := HRS.n8; have := HRS.cl; have := HPL.out; have := HCL.out; omega
            have HOD := Hid.intro' (fsb_odd hm9 HF.out HL.out)
            have HLD : Hid (∀ q ∈ (p.map (PM.fw (x : Int))).set c (PM.fw (x : Int) l ++ [(x : Int)]), q.length ≤ 1000) := fun q hq => by
              rcases List.mem_or_eq_of_mem_set hq with h | h
              · exact HLO.out q h
              · rw [h, List.length_append, HNF.out]; simp; omega
            have HNB : Hid (∀ w', Below W8.heap.size W8 w' → NB w' w.heap.size s.st _ _) := fun w' hw => HN8.out.below' hw
            have HC14 : Hid (∀ w', Below W8.heap.size W8 w' → w'.cell? ⟨w.heap.size, 14, none⟩ = some (.slice (some ⟨gw, ow, none⟩) s.ws.length kw)) := fun w' hw => (HN8.out.below' hw).cell 14
            have HYC : Hid (∀ w', Below W8.heap.size W8 w' → w'.cell? ⟨gw, ow + x * 2 + 1, none⟩ = some (.int .i64 (m : Int))) := fun w' hw => by
              obtain ⟨g, o, e, _, h2⟩ := (HW8.out.below' hw).at hy
              cases e
              rw [hym] at h2
              exact h2
            have HFI : Hid (PM.bt m c = (bits .and .i64 ((m : Int) / 2 ^ c) 1 == 1)) := by
              show _ = _
              have h1 : (m : Int) / 2 ^ c = ((m / 2 ^ c : Nat) : Int) := by rw [Int.natCast_ediv, Int.natCast_pow]; rfl
              rw [i64_and1, h1]
              unfold PM.bt
              rw [Bool.eq_iff_iff, beq_iff_eq, beq_iff_eq]
              omega
            have H1 : Hid (∀ w', Below W8.heap.size W8 w' → Calls Try.prog 12 #[.agg (nv s.st (.slice ac s.cs.length kc) (.slice (some ⟨gw, ow, none⟩) s.ws.length kw)).toArray, .slice (some ⟨gd, 0, none⟩) kk cd] w' fun e w'' => e = .returned (.bool (bits .and .i64 ((m : Int) / 2 ^ c) 1 == 1)) ∧ Below w'.heap.size w' w'') := fun w' hw => by
              have := feasible_any s _ _ _ _ _ w' (HC8.out.below' hw) (HW8.out.below' hw) (HRD.out.below' hw) (by rw [List.length_set, List.length_map]; exact HPN.out) HLD.out
              rw [HOD.out, HFI.out] at this
              exact this
            have HXW := HXL.out
            clear hy hym hm9 hw1 hw2
            refine wp_region_quiet (C := fun w' => Below W8.heap.size W8 w') (by kernel_rfl) (by kernel_rfl) ((Below.refl _ _).drew) ?_
            simp only []
            unfold wpQuiet
            generalize hK : wpQuiet Try.prog _ _ _ _ = K
            rw [if_pos (by go_simp)]
            refine quiet_load27 _ w.heap.size s.st _ _ rfl rfl HNB.out ?_
            go_simp
            subst hK
            unfold wpQuiet
            generalize hK : wpQuiet Try.prog _ _ _ _ = K
            go_simp
            refine ⟨_, fun _ _ => rfl, ?_⟩
            subst hK
            unfold wpQuiet
            generalize hK : wpQuiet Try.prog _ _ _ _ = K
            go_simp
            refine ⟨_, fun w' hw => (H1.out w' hw).mono fun e w'' hh => ⟨hh.1, below_class hw hh.2⟩, ?_⟩
            subst hK
            unfold wpQuiet
            generalize hK : wpQuiet Try.prog _ _ _ _ = K
            go_simp
            refine ⟨_, fun _ _ => rfl, ?_⟩
            subst hK
            unfold wpQuiet
            generalize hK : wpQuiet Try.prog _ _ _ _ = K
            rw [if_pos (by go_simp)]
            refine quiet_loadW _ w.heap.size 14 rfl rfl HC14.out ?_
            go_simp
            subst hK
            unfold wpQuiet
            generalize hK : wpQuiet Try.prog _ _ _ _ = K
            go_simp
            refine ⟨_, fun _ _ => rfl, ?_⟩
            subst hK
            unfold wpQuiet
            generalize hK : wpQuiet Try.prog _ _ _ _ = K
            rw [if_pos (by go_simp)]
            refine quiet_ixW _ _ rfl rfl rfl HXW ?_
            go_simp
            subst hK
            unfold wpQuiet
            generalize hK : wpQuiet Try.prog _ _ _ _ = K
            go_simp
            refine ⟨_, fun _ _ => rfl, ?_⟩
            subst hK
            unfold wpQuiet
            generalize hK : wpQuiet Try.prog _ _ _ _ = K
            rw [if_pos (by go_simp)]
            refine quiet_load3 _ _ _ rfl rfl HYC.out ?_
            go_simp
            subst hK
            unfold wpQuiet
            generalize hK : wpQuiet Try.prog _ _ _ _ = K
            go_simp
            refine ⟨_, fun _ _ => rfl, ?_⟩
            subst hK
            unfold wpQuiet
            generalize hK : wpQuiet Try.prog _ _ _ _ = K
            rw [if_pos (by go_simp)]
            refine quiet_shr _ _ rfl rfl rfl hc64 ?_
            go_simp
            subst hK
            unfold wpQuiet
            generalize hK : wpQuiet Try.prog _ _ _ _ = K
            go_simp
            refine ⟨_, fun _ _ => rfl, ?_⟩
            subst hK
            unfold wpQuiet
            generalize hK : wpQuiet Try.prog _ _ _ _ = K
            go_simp
            refine ⟨_, fun _ _ => rfl, ?_⟩
            subst hK
            unfold wpQuiet
            generalize hK : wpQuiet Try.prog _ _ _ _ = K
            go_simp
            refine ⟨_, fun _ _ => rfl, ?_⟩
            subst hK
            refine wpQuiet_nil ?_
            intro W9 hb9
            have HB9 := Hid.intro' (below_class HB8.out hb9)
            have HN9 := Hid.intro' (HN8.out.below' hb9)
            have HC9 := Hid.intro' (HC8.out.below' hb9)
            have HW9 := Hid.intro' (HW8.out.below' hb9)
            have HP9 := Hid.intro' (HP8.out.below' hb9)
            clear hb9 HB8 HN8 HC8 HW8 HP8 HRD HNB HC14 HYC H1 HOD HLD HXW HRS HU HL HNF hfl
            obtain ⟨lh, hlh⟩ : ∃ l, p[hm]? = some l := ⟨_, List.getElem?_eq_getElem HHM.out⟩
            obtain ⟨gp, op, rfl, uh, hcu, hru⟩ := (HP9.out.alloc (.cells #[] 3)).at hlh
            obtain ⟨ah, kh, rfl, _, _⟩ := hru.form
            have hmz : (hm : Int) < (p.length : Int) := by have := HHM.out; omega
            have hlh2 : lh.length ≤ 200 := HS.out.ll lh (List.mem_of_getElem? hlh)
            have HLH := Hid.intro' hlh
            have HRX := Hid.intro' hru
            have HLB : Hid (OI (W9.alloc (.cells #[] 3)) W9.heap.size (.slice (some ⟨W9.heap.size, 0, none⟩) 0 0) []) := OI.lit (B := W9.heap.size) W9 [] (Nat.le_refl _) (Nat.zero_le _)
            clear hlh hru
            go_wp2_with (at_builtin; refine wpList_appendRI rfl _ _ rfl W9.heap.size _ _ [] lh _ rfl HLB.out rfl HRX.out ?qb3 ?qb4 ?_)
            case qb3 => simp; omega
            case qb4 => simp
            intro vt W10 ho10 hg10
            have HO10 : Hid (OI W10 W9.heap.size vt lh) := ho10
            have HB10 := Hid.intro' (((Below.refl _ W9).alloc (Nat.le_refl _) (.cells #[] 3)).grown hg10 (by simp) (fun q hq => by have := own_some hq; omega))
            obtain ⟨at', kt', rfl⟩ := HO10.out.slice
            generalize hn10 : lh.length = n10 at HO10 hlh2 ⊢
            have HNL := Hid.intro' hn10
            clear hn10 ho10 hg10 HRX HLB hcu HFI
            go_wp2_with fail
            have hk10 : IntKind.i64.wrap ((n10 : Int) - 1) = (n10 : Int) - 1 := IntWalk.i64_in _ (by omega)
            go_loopw [22, 23] (fun iv kv W => ∃ (j : Nat) (kq : Int) (l' : List Int), iv = .int .i64 (j : Int) ∧ kv = .int .i64 kq ∧ kq + (j : Int) + 1 = (n10 : Int) ∧ j ≤ n10 ∧ Hid (l'.Perm lh) ∧ Hid (OI W W9.heap.size (.slice at' n10 kt') l') ∧ Hid (Below W9.heap.size W9 W)) (fun iv _ _ => n10 - (intOf iv).toNat)
            case atStart => exact ⟨0, (n10 : Int) - 1, lh, rfl, by go_num, by omega, Nat.zero_le _, List.Perm.refl _, HO10, HB10⟩
            case round =>
              obtain ⟨j, kq, l', rfl, rfl, hjk, hjn, HPE, HOJ, HBJ⟩ := hrel
              by_cases hlt2 : (j : Int) < kq
              · obtain ⟨k', rfl⟩ : ∃ k' : Nat, kq = (k' : Int) := ⟨kq.toNat, by omega⟩
                have hl'n : l'.length = n10 := HPE.out.length_eq.trans HNL.out
                obtain ⟨y1, hy1⟩ : ∃ y, l'[j]? = some y := ⟨_, List.getElem?_eq_getElem (by omega)⟩
                obtain ⟨y2, hy2⟩ : ∃ y, l'[k']? = some y := ⟨_, List.getElem?_eq_getElem (by omega)⟩
                have hform := HOJ.out.form
                obtain ⟨gt', rfl⟩ : ∃ g, at' = some ⟨g, 0, none⟩ := by
                  rcases hform with ⟨h1, h2⟩ | ⟨g, cap, h1, _⟩
                  · rw [h2] at hl'n; simp at hl'n; omega
                  · injection h1 with h1; exact ⟨g, h1⟩
                have c1 : wr.cell? ⟨gt', j, none⟩ = some (.int .i64 y1) := HOJ.out.cell hy1
                have c2 : wr.cell? ⟨gt', k', none⟩ = some (.int .i64 y2) := HOJ.out.cell hy2
                have f1 := HOJ.out.fr j
                have f2 := HOJ.out.fr k'
                have hjz : (j : Int) < (n10 : Int) := by omega
                have hkz2 : (k' : Int) < (n10 : Int) := by omega
                have hjk0 : ¬ j = k' := by omega
                have hjk1 : ¬ k' = j := by omega
                have HPN2 := Hid.intro' ((swap_perm hy1 hy2 (by omega)).trans HPE.out)
                have HGB := Hid.intro' (HOJ.out.lt gt' rfl).1
                clear hy1 hy2 hform
                go_wp2_with fail
                go_region
                have HO2 : Hid (OI ((wr.setCell ⟨gt', j, none⟩ (.int .i64 y2)).setCell ⟨gt', k', none⟩ (.int .i64 y1)).drew W9.heap.size (.slice (some ⟨gt', 0, none⟩) n10 kt') ((l'.set j y2).set k' y1)) := ((HOJ.out.put j y2).put k' y1)
                have HB2 : Hid (Below W9.heap.size W9 ((wr.setCell ⟨gt', j, none⟩ (.int .i64 y2)).setCell ⟨gt', k', none⟩ (.int .i64 y1)).drew) := ((HBJ.out.setCell (p := ⟨gt', j, none⟩) HGB.out _).setCell (p := ⟨gt', k', none⟩) HGB.out _).drew
                generalize ((wr.setCell ⟨gt', j, none⟩ (.int .i64 y2)).setCell ⟨gt', k', none⟩ (.int .i64 y1)).drew = Wn at HO2 HB2 ⊢
                clear c1 c2 f1 f2 HOJ HBJ
                go_wp2
                go_roundw
                case rel => exact ⟨j + 1, (k' : Int) - 1, _, by go_num, by go_num, by omega, by omega, HPN2, HO2, HB2⟩
                case measure => simp [intOf]; omega
              · have hltz : ¬ (j : Int) < kq := hlt2
                have HNX := Hid.intro' (HN9.out.below' HBJ.out)
                have HOP : Hid (OP (wr.alloc (.cells #[] 38)) wr.heap.size (.slice (some ⟨wr.heap.size, 0, none⟩) 0 0) []) := OP.nil wr (Nat.le_refl _)
                have HPX := Hid.intro' ((HP9.out.below' HBJ.out).alloc (.cells #[] 38))
                have hZ := HBJ.out.size
                go_wp2_with (at_builtin; refine wpList_appPs rfl _ _ rfl wr.heap.size _ _ [] p _ rfl HOP.out rfl HPX.out ?qp3 ?qp4 ?_)
                case qp3 => have := HPN.out; omega
                intro vq W12 us' hus hrs hoq hgq
                obtain ⟨gq, cq, rfl, hgb⟩ := hoq.some (by rw [hus]; exact HP0.out)
                rw [hus] at hoq ⊢
                obtain ⟨u9, hu9⟩ : ∃ u, us'[hm]? = some u := ⟨_, List.getElem?_eq_getElem (by rw [hus]; exact HHM.out)⟩
                have s12 : W12.cell? ⟨gq, hm, none⟩ = some u9 := hoq.cell hu9
                have t12 := hoq.fr hm
                have hb12 : Below wr.heap.size wr W12 := ((Below.refl _ wr).alloc (Nat.le_refl _) (.cells #[] 38)).grown hgq (by simp) (fun q hq => by have := own_some hq; omega)
                have HT12 : Hid (OI W12 W9.heap.size (.slice at' n10 kt') l') := HOJ.out.keep fun q hq => hb12.block q (HOJ.out.lt q hq).2
                have HRQ := Hid.intro' (hoq.other hus hrs HHM.out (by have := hgq.size; exact this) (fun q hq hlt => by
                  have h1 := HN3.out.lt
                  have h2 := HB9.out.size
                  refine ⟨hgq.block q hlt (fun e => ?_), ?_⟩
                  · have := own_some e.symm; omega
                  · omega) (HT12.out.ri (D := fun q => q ≠ gq) fun q hq => by have := (HOJ.out.lt q hq).2; omega))
                have HBQ := Hid.intro' (hb12.setCell (p := ⟨gq, hm, none⟩) hgb (.slice at' n10 kt'))
                have HFQ := Hid.intro' (fsb_turned HF.out HLH.out HPE.out)
                have HLQ : Hid (∀ q ∈ p.set hm l', q.length ≤ 1000) := fun q hq => by
                  rcases List.mem_or_eq_of_mem_set hq with h | h
                  · have := HS.out.ll q h; omega
                  · rw [h, HPE.out.length_eq, HNL.out]; omega
                have HCQ := Hid.intro' ((HC9.out.below' HBJ.out).below' HBQ.out)
                have HWQ := Hid.intro' ((HW9.out.below' HBJ.out).below' HBQ.out)
                have HNQ := Hid.intro' (HNX.out.below' HBQ.out)
                have HBZ := Hid.intro' (below_class (below_class HB3.out HB9.out) (below_class HBJ.out HBQ.out))
                clear hus hrs hoq hgq hu9 hb12 HT12 HOP HPX hgb HBQ HNX
                go_wp2_with (refine wpList_load27g rfl _ rfl w.heap.size s.st _ _ rfl HNQ.out ?_)
                refine (feasible_any s _ _ _ _ (p.set hm l') _ HCQ.out HWQ.out HRQ.out (by rw [List.length_set]; exact HPN.out) HLQ.out).mono ?_
                rintro e W14 ⟨rfl, hb14⟩
                rw [HFQ.out]
                have HBE := Hid.intro' (below_class HBZ.out hb14)
                clear hb14 s12 t12
                go_wp2
                go_ret
                exact ⟨rfl, HBE.out⟩

end Go.Proofs.Ytdpfgjipjjkcgaf
