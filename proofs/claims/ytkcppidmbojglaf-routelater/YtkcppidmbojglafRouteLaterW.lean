/- RouteLater. -/
import Derived.Test.YtkcppidmbojglafRtL
import Derived.Test.YtkcppidmbojglafPlY
import Derived.Test.YtkcppidmbojglafPlJ
namespace Go.Proofs.Ytkcppidmbojglaf
open Go.RowKit

set_option maxRecDepth 100000 in
set_option maxHeartbeats 8000000 in
theorem RouteLater_any (s : Sn) (D : Nat → Prop) (vc vw vp : Value) (p : List (List Int)) (car later : Int) (w : World) (hc : R2 D w vc s.cs) (hw : R2 D w vw s.ws) (hp : RL D w vp p) :
    Calls Try.prog 7 #[.agg (nv s.st vc vw).toArray, vp, .int .i64 car, .int .i64 later] w fun e w' => e = .returned (.bool true) ∧ Below w.heap.size w w' := by
  have hbx := (Below.refl w.heap.size w).alloc (Nat.le_refl _) (.cells (nv s.st vc vw).toArray 27)
  have HN := Hid.intro' (NB.new w s.st vc vw)
  have HB := Hid.intro' hbx
  have HC := Hid.intro' ((hc.mono (D' := fun g => g < w.heap.size) fun g _ h _ => h).below' hbx)
  have HW := Hid.intro' ((hw.mono (D' := fun g => g < w.heap.size) fun g _ h _ => h).below' hbx)
  have HP := Hid.intro' ((hp.mono (D' := fun g => g < w.heap.size) fun g _ h _ => h).below' hbx)
  obtain ⟨ac, kc, rfl, _, _⟩ := hc.form
  obtain ⟨aw, kw, rfl, _, _⟩ := hw.form
  obtain ⟨ap, kp, rfl, _, _⟩ := hp.form
  clear hc hw hp hbx
  go_enter Try.func7, Try.ntmps7
  go_wp2_with fail
  refine (speaks10_any _).mono ?_
  rintro e W1 ⟨rfl, hb1⟩
  have HB1 := Hid.intro' (below_class HB.out hb1)
  have HN1 := Hid.intro' (HN.out.below' hb1)
  have HC1 := Hid.intro' (HC.out.below' hb1)
  have HW1 := Hid.intro' (HW.out.below' hb1)
  have HP1 := Hid.intro' (HP.out.below' hb1)
  clear hb1 HN HB HC HW HP
  go_wp2_with (refine wpList_load27g rfl _ rfl w.heap.size s.st _ _ rfl HN1.out ?_)
  refine (great_any s _ _ _ _ p W1 HC1.out HW1.out HP1.out).mono ?_
  rintro e W2 ⟨⟨g, rfl, hb2, hs⟩⟩
  have HB2 := Hid.intro' (below_class HB1.out hb2)
  have HN2 := Hid.intro' (HN1.out.below' hb2)
  have HC2 := Hid.intro' (HC1.out.below' hb2)
  have HW2 := Hid.intro' (HW1.out.below' hb2)
  have HP2 := Hid.intro' (HP1.out.below' hb2)
  clear hb2 HN1 HB1 HC1 HW1 HP1
  cases g with
  | true =>
    clear hs
    go_wp2
    go_ret
    exact ⟨rfl, HB2.out⟩
  | false =>
    have HS := Hid.intro' (hs rfl)
    have HPL : Hid (p.length ≤ 1000) := by show p.length ≤ 1000; have := HS.out.pl; omega
    have HLL : Hid (∀ l ∈ p, l.length ≤ 1000) := fun l hl => by have := HS.out.ll l hl; omega
    clear hs HS
    go_wp2_with (refine wpList_load27g (by go_simp) _ rfl w.heap.size s.st _ _ rfl HN2.out ?_)
    refine (rfeasible_any s _ _ _ _ p W2 HC2.out HW2.out HP2.out HPL.out HLL.out).mono ?_
    rintro e W3 ⟨rfl, hb3⟩
    have HB3 := Hid.intro' (below_class HB2.out hb3)
    have HN3 := Hid.intro' (HN2.out.below' hb3)
    have HC3 := Hid.intro' (HC2.out.below' hb3)
    have HW3 := Hid.intro' (HW2.out.below' hb3)
    have HP3 := Hid.intro' (HP2.out.below' hb3)
    clear hb3 HN2 HB2 HC2 HW2 HP2
    cases hf : fsb s p with
    | false =>
      clear hf
      go_wp2
      go_ret
      exact ⟨rfl, HB3.out⟩
    | true =>
      have HF := Hid.intro' hf
      have HFS := Hid.intro' (fsb_fs hf)
      clear hf
      obtain ⟨k, hk, hkm⟩ : ∃ k : Nat, k < 65536 ∧ car % 65536 = (k : Int) := ⟨(car % 65536).toNat, by omega, by omega⟩
      have hk16 := i64_andffff car
      rw [hkm] at hk16
      obtain ⟨n, hn, hnm⟩ : ∃ n : Nat, n < 256 ∧ later % 256 = (n : Int) := ⟨(later % 256).toNat, by omega, by omega⟩
      have hn8 : bits .and .i64 later 255 = (n : Int) := (i64_mask later 255 8 (by omega) (by decide)).trans hnm
      have hc0 : 0 < s.cs.length := by have := HFS.out.pc; have := HFS.out.p1; omega
      have hce : ¬ s.cs = [] := fun e => by rw [e] at hc0; simp at hc0
      have hrm : (k : Int).tmod (s.cs.length : Int) = ((k % s.cs.length : Nat) : Int) := by rw [Int.tmod_eq_emod_of_nonneg (by omega)]; omega
      obtain ⟨c, hcx⟩ : ∃ c, k % s.cs.length = c := ⟨_, rfl⟩
      have HCL : Hid (c < s.cs.length) := by show c < _; rw [← hcx]; exact Nat.mod_lt _ hc0
      rw [hcx] at hrm
      have hcz : (c : Int) < (s.cs.length : Int) := by have := HCL.out; omega
      obtain ⟨y, hy⟩ : ∃ y, s.cs[c]? = some y := ⟨_, List.getElem?_eq_getElem HCL.out⟩
      have HY := Hid.intro' hy
      have c13 : W3.cell? ⟨w.heap.size, 13, none⟩ = some (.slice ac s.cs.length kc) := HN3.out.cell 13
      obtain ⟨gc, oc, rfl, e1, e2⟩ := HC3.out.at hy
      have HYB := Hid.intro' (HFS.out.af y (List.mem_of_getElem? hy))
      clear hkm hnm hcx hy
      obtain ⟨y1, y2⟩ := y
      simp only at e1 e2 HYB
      by_cases hbig : 999000 < y2
      · go_wp2
        go_ret
        exact ⟨rfl, HB3.out⟩
      · have q1 : decide (999000 < y2) = false := decide_eq_false hbig
        have HY2 := Hid.intro' (show y2 ≤ 999000 by omega)
        clear hbig
        have HZ : Hid ((W3.alloc (.cells #[.int .i64 0, .int .i64 0, .int .i64 0, .int .i64 0, .int .i64 0, .int .i64 0, .int .i64 0, .int .i64 0, .int .i64 0, .int .i64 0, .int .i64 0, .int .i64 0, .int .i64 0, .slice none 0 0, .slice none 0 0] 27)).heap[W3.heap.size]? = some (.cells #[.int .i64 0, .int .i64 0, .int .i64 0, .int .i64 0, .int .i64 0, .int .i64 0, .int .i64 0, .int .i64 0, .int .i64 0, .int .i64 0, .int .i64 0, .int .i64 0, .int .i64 0, .slice none 0 0, .slice none 0 0] 27)) := World.alloc_heap_new W3 _
        have hbA := (Below.refl W3.heap.size W3).alloc (Nat.le_refl _) (.cells #[.int .i64 0, .int .i64 0, .int .i64 0, .int .i64 0, .int .i64 0, .int .i64 0, .int .i64 0, .int .i64 0, .int .i64 0, .int .i64 0, .int .i64 0, .int .i64 0, .int .i64 0, .slice none 0 0, .slice none 0 0] 27)
        go_wp2_with (first | refine wpList_load27g rfl _ rfl w.heap.size s.st _ _ rfl HN3.out ?_ | refine wpList_store27 rfl _ _ rfl W3.heap.size _ rfl rfl rfl rfl HZ.out rfl ?_)
        intro W4 hk4 hn4
        have hb4 : Below W3.heap.size W3 W4 := hk4.below hbA (by simp) (fun i hi => by omega)
        have HT4 := Hid.intro' hn4
        have HB4 := Hid.intro' (below_class HB3.out hb4)
        have HN4 := Hid.intro' (HN3.out.below' hb4)
        have HC4 := Hid.intro' (HC3.out.below' hb4)
        have HW4 := Hid.intro' (HW3.out.below' hb4)
        have HP4 := Hid.intro' (HP3.out.below' hb4)
        have HBS := Hid.intro' (show w.heap.size < W3.heap.size from HN3.out.lt)
        clear hk4 hn4 hb4 hbA HZ HN3 HB3 HC3 HW3 HP3 c13 e1 e2 q1
        generalize W3.heap.size = bt at HT4 HBS ⊢
        have HO : Hid (O2 51 (W4.alloc (.cells #[] 51)) W4.heap.size (.slice (some ⟨W4.heap.size, 0, none⟩) 0 0) []) := O2.nil W4 (Nat.le_refl _)
        have c13 : (W4.alloc (.cells #[] 51)).cell? ⟨w.heap.size, 13, none⟩ = some (.slice (some ⟨gc, oc, none⟩) s.cs.length kc) := (HN4.out.alloc _).cell 13
        have HCA := Hid.intro' (HC4.out.alloc (.cells #[] 51))
        have HCS := Hid.intro' (show s.cs.length ≤ 8 by have := HFS.out.pc; have := HFS.out.p8; omega)
        go_wp2_with (at_builtin; refine wpList_append2 51 24 Try.underlying24 infoR rfl _ _ rfl W4.heap.size _ _ [] s.cs _ rfl HO.out rfl HCA.out ?qa3 ?qa4 ?_)
        case qa3 => have := HCS.out; simp; omega
        case qa4 => simp
        intro vn W5 ho5 hg5
        have ho5' : O2 51 W5 W4.heap.size vn s.cs := ho5
        have hb5 : Below W4.heap.size W4 W5 := ((Below.refl _ W4).alloc (Nat.le_refl _) (.cells #[] 51)).grown hg5 (by simp) (fun q hq => by have := own_some hq; omega)
        obtain ⟨gn, kn, rfl, hgn⟩ := ho5'.some hc0
        have HT5 := Hid.intro' (HT4.out.below' hb5)
        have HBT := Hid.intro' HT4.out.lt
        have t13 : W5.cell? ⟨bt, 13, none⟩ = some (.slice (some ⟨gc, oc, none⟩) s.cs.length kc) := HT5.out.cell 13
        have f13 := HT5.out.fr 13
        have HO5 := Hid.intro' ho5'
        have HB5 := Hid.intro' hb5
        have HGN := Hid.intro' hgn
        have hnz : (n : Int) < 256 := by omega
        have hw1 : IntKind.i64.wrap (y2 + (n : Int)) = y2 + (n : Int) := IntWalk.i64_in _ (by have := HY2.out; have := HFS.out.rz.cr _ (List.mem_of_getElem? HY.out); have := this.l0; simp only [RM.bg] at this; omega)
        clear ho5 ho5' hg5 hb5 hgn HO HCA c13
        have HT6 := Hid.intro' (HT5.out.putc (.slice (some ⟨gn, 0, none⟩) s.cs.length kn))
        have HO6 : Hid (O2 51 (W5.setCell ⟨bt, 13, none⟩ (.slice (some ⟨gn, 0, none⟩) s.cs.length kn)) W4.heap.size (.slice (some ⟨gn, 0, none⟩) s.cs.length kn) s.cs) := HO5.out.keep fun g hg => Below.heap_setCell _ _ _ _ (by have h1 := (HO5.out.lt g hg).1; have := HBT.out; show g ≠ bt; omega)
        have d13 : (W5.setCell ⟨bt, 13, none⟩ (.slice (some ⟨gn, 0, none⟩) s.cs.length kn)).cell? ⟨bt, 13, none⟩ = some (.slice (some ⟨gn, 0, none⟩) s.cs.length kn) := HT6.out.cell 13
        have dc : (W5.setCell ⟨bt, 13, none⟩ (.slice (some ⟨gn, 0, none⟩) s.cs.length kn)).cell? ⟨gn, c * 2 + 1, none⟩ = some (.int .i64 y2) := HO6.out.cell1 HY.out
        have df := HO6.out.fr (c * 2 + 1)
        have HKQ : Hid (Kp (fun k => k = bt) W4 ((W5.setCell ⟨bt, 13, none⟩ (.slice (some ⟨gn, 0, none⟩) s.cs.length kn)).setCell ⟨gn, c * 2 + 1, none⟩ (.int .i64 (y2 + (n : Int))))) := ((Kp.ofBelow (fun k => k = bt) HB5.out).set bt 13 _ (fun _ => rfl)).set gn (c * 2 + 1) _ (fun h => by have := HGN.out; omega)
        have HTQ : Hid (NB ((W5.setCell ⟨bt, 13, none⟩ (.slice (some ⟨gn, 0, none⟩) s.cs.length kn)).setCell ⟨gn, c * 2 + 1, none⟩ (.int .i64 (y2 + (n : Int)))) bt s.st (.slice (some ⟨gn, 0, none⟩) s.cs.length kn) (.slice aw s.ws.length kw)) := (Below.heap_setCell _ _ _ _ (by have := HGN.out; have := HBT.out; show bt ≠ gn; omega)).trans HT6.out
        have HOQ : Hid (O2 51 ((W5.setCell ⟨bt, 13, none⟩ (.slice (some ⟨gn, 0, none⟩) s.cs.length kn)).setCell ⟨gn, c * 2 + 1, none⟩ (.int .i64 (y2 + (n : Int)))) W4.heap.size (.slice (some ⟨gn, 0, none⟩) s.cs.length kn) (s.cs.set c (y1, y2 + (n : Int)))) := HO6.out.put1 HY.out (y2 + (n : Int))
        have HNQ := Hid.intro' (HN4.out.kp HKQ.out (by have := HBS.out; omega))
        have HCQ := Hid.intro' (HC4.out.keep HKQ.out.size fun g hg hlt => HKQ.out.block g hlt (by have := HBS.out; omega))
        have HWQ := Hid.intro' (HW4.out.keep HKQ.out.size fun g hg hlt => HKQ.out.block g hlt (by have := HBS.out; omega))
        have HPQ := Hid.intro' (HP4.out.keep HKQ.out.size fun g hg hlt => HKQ.out.block g hlt (by have := HBS.out; omega))
        have HBQ := Hid.intro' (HKQ.out.below HB4.out HB4.out.size (fun i hi => by have := HBS.out; omega))
        have HF2 := Hid.intro' (latr_fsb (n := (n : Int)) HF.out HY.out (by omega) (by have := HY2.out; show y2 + (n : Int) ≤ 1000000; omega))
        have HFS2 := Hid.intro' (fsb_fs HF2.out)
        clear HKQ HN4 HC4 HW4 HP4 HB4 HO5 HT5 HT6 HO6
        go_wp2_with (refine wpList_load27g rfl _ rfl w.heap.size s.st _ _ rfl HNQ.out ?_)
        refine (waits_yes s _ _ _ _ p _ HCQ.out HWQ.out HPQ.out HF.out HPL.out HLL.out).mono ?_
        rintro e W7 ⟨va, rfl, hva, hb7⟩
        have HVA := Hid.intro' (hva.mono (D' := fun _ => True) fun _ _ _ _ => trivial)
        have HT7 := Hid.intro' (HTQ.out.below' hb7)
        have HC7 := Hid.intro' ((HOQ.out.below' hb7).r2 (D := fun _ => True) fun _ _ => trivial)
        have HW7 := Hid.intro' ((HWQ.out.below' hb7).mono (D' := fun _ => True) fun _ _ _ _ => trivial)
        have HP7 := Hid.intro' ((HPQ.out.below' hb7).mono (D' := fun _ => True) fun _ _ _ _ => trivial)
        have HB7 := Hid.intro' (below_class HBQ.out hb7)
        clear hva hb7 HTQ HOQ HNQ HCQ HWQ HPQ HBQ t13 f13 d13 dc df hw1
        go_wp2_with (refine wpList_load27g rfl _ rfl bt s.st _ _ rfl HT7.out ?_)
        refine (waits_yes (latr s c (y1, y2) (n : Int)) _ _ _ _ p W7 HC7.out HW7.out HP7.out HF2.out HPL.out HLL.out).mono ?_
        rintro e W8 ⟨vb, rfl, hvb, hb8⟩
        have HVA8 := Hid.intro' (HVA.out.below' hb8)
        have HVB8 : Hid (RI (fun _ => True) W8 vb (RM.wts s.st s.ws (s.cs.set c (y1, y2 + (n : Int))) p)) := hvb.mono fun _ _ _ _ => trivial
        have HP8 := Hid.intro' (HP7.out.below' hb8)
        have HB8 := Hid.intro' (below_class HB7.out hb8)
        have HGET : Hid (∀ (i j : Nat) l x, p[i]? = some l → l[j]? = some x → ∃ t, (RM.wts s.st s.ws s.cs p)[x.toNat]? = some t ∧ (RM.wts s.st s.ws (s.cs.set c (y1, y2 + (n : Int))) p)[x.toNat]? = some (t + if i = c then (n : Int) else 0)) := fun i j l x hl hx => latr_get HFS.out HFS2.out HY.out (by omega) hl hx
        have HBD := Hid.intro' (HFS.out.bd HLL.out)
        have HLA : Hid ((RM.wts s.st s.ws s.cs p).length = s.ws.length) := RM.wts_length
        have HLB : Hid ((RM.wts s.st s.ws (s.cs.set c (y1, y2 + (n : Int))) p).length = s.ws.length) := RM.wts_length
        clear hvb hb8 HVA HT7 HC7 HW7 HP7 HB7
        generalize RM.wts s.st s.ws s.cs p = ta at HVA8 HGET HBD HLA
        generalize RM.wts s.st s.ws (s.cs.set c (y1, y2 + (n : Int))) p = tb at HVB8 HGET HLB
        obtain ⟨aa, ka, rfl, _, _⟩ := HVA8.out.form
        obtain ⟨ab, kb, rfl, _, _⟩ := HVB8.out.form
        rw [HLA.out] at HVA8 ⊢
        rw [HLB.out] at HVB8 ⊢
        have hp8 : p.length ≤ 8 := HFS.out.p8
        go_wp2_with fail
        go_loopw [90] (fun iv wr => ∃ i : Nat, i ≤ p.length ∧ iv = .int .i64 (i : Int) ∧ Hid (Below W8.heap.size W8 wr)) (fun iv _ => p.length - (intOf iv).toNat)
        case atStart => exact ⟨0, Nat.zero_le _, rfl, Below.refl _ _⟩
        case round =>
          obtain ⟨i, hi, rfl, HBI⟩ := hrel
          by_cases hil : i < p.length
          · have hiz : (i : Int) < (p.length : Int) := by omega
            obtain ⟨l, hl⟩ : ∃ l, p[i]? = some l := ⟨_, List.getElem?_eq_getElem hil⟩
            obtain ⟨gp, op, rfl, u, hcu, hru⟩ := (HP8.out.below' HBI.out).at hl
            obtain ⟨au, ku, rfl, _, _⟩ := hru.form
            have HL := Hid.intro' hl
            have HRU := Hid.intro' hru
            have hln : l.length ≤ 1000 := HLL.out l (List.mem_of_getElem? hl)
            clear hl hru
            go_wp2_with fail
            clear hcu
            generalize wr = W9 at HBI HRU ⊢
            go_loopw [97] (fun iv wr => ∃ j : Nat, j ≤ l.length ∧ iv = .int .i64 (j : Int) ∧ Hid (Below W9.heap.size W9 wr)) (fun iv _ => l.length - (intOf iv).toNat)
            case atStart => exact ⟨0, Nat.zero_le _, rfl, Below.refl _ _⟩
            case round =>
              obtain ⟨j, hj, rfl, HBJ⟩ := hrel
              by_cases hjl : j < l.length
              · have hjz : (j : Int) < (l.length : Int) := by omega
                obtain ⟨x, hx⟩ : ∃ x, l[j]? = some x := ⟨_, List.getElem?_eq_getElem hjl⟩
                have hxr := HFS.out.fr x (List.mem_flatten.2 ⟨l, List.mem_of_getElem? HL.out, List.mem_of_getElem? hx⟩)
                obtain ⟨q, rfl⟩ : ∃ q : Nat, x = (q : Int) := ⟨x.toNat, by omega⟩
                obtain ⟨t, g1, g2⟩ := HGET.out i j l (q : Int) HL.out hx
                rw [Int.toNat_natCast] at g1 g2
                obtain ⟨gu, ou, rfl, hcx⟩ := (HRU.out.below' HBJ.out).at hx
                have hbb := below_class HBI.out HBJ.out
                obtain ⟨ga, oa, rfl, hca⟩ := (HVA8.out.below' hbb).at g1
                obtain ⟨gb, ob, rfl, hcb⟩ := (HVB8.out.below' hbb).at g2
                have htb := HBD.out t (List.mem_of_getElem? g1)
                have hqz : (q : Int) < (s.ws.length : Int) := by omega
                have HTB := Hid.intro' htb
                clear hx hxr g1 g2 hbb htb
                by_cases hic : i = c
                · have e1 : ((i : Int) == (c : Int)) = true := by simp [hic]
                  rw [if_pos hic] at hcb
                  have hw2 : IntKind.i64.wrap (t + (n : Int)) = t + (n : Int) := IntWalk.i64_in _ (by have := HTB.out; omega)
                  clear hic
                  go_wp2_with fail
                  go_region
                  go_wp2
                  go_roundw
                  case rel => exact ⟨j + 1, by omega, by go_num, HBJ.out.drew⟩
                  case measure => simp [intOf]; omega
                · have e1 : ((i : Int) == (c : Int)) = false := by rw [beq_eq_false_iff_ne]; omega
                  rw [if_neg hic, Int.add_zero] at hcb
                  have hw2 : IntKind.i64.wrap t = t := IntWalk.i64_in _ (by have := HTB.out; omega)
                  clear hic
                  go_wp2_with fail
                  go_region
                  go_wp2
                  go_roundw
                  case rel => exact ⟨j + 1, by omega, by go_num, HBJ.out.drew⟩
                  case measure => simp [intOf]; omega
              · have hjz : ¬ (j : Int) < (l.length : Int) := by omega
                go_wp2
                go_roundw
                case rel => exact ⟨i + 1, by omega, by go_num, below_class HBI.out HBJ.out⟩
                case measure => simp [intOf]; omega
          · have hiz : ¬ (i : Int) < (p.length : Int) := by omega
            have HE := Hid.intro' (below_class HB8.out HBI.out)
            go_wp2
            go_ret
            exact ⟨rfl, HE.out⟩

end Go.Proofs.Ytkcppidmbojglaf
