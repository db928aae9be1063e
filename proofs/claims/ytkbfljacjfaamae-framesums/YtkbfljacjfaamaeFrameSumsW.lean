/- FrameSums: the walk. -/
import Derived.Test.YtkbfljacjfaamaeFrQ
import Derived.Deep.DeepCutAuto
namespace Go.Proofs.Ytkbfljacjfaamae
open Go.RowKit

set_option maxHeartbeats 4000000 in
theorem sums_true (v : Value) (l : List Nat) (at_ : Int) (bu : Nat) (hbu : bu < 65536) (w : World) (h : RD w v l) :
    Calls Try.prog 4 #[v, .int .i64 at_, .int .u16 (bu : Int)] w fun e w' => e = .returned (.bool true) ∧ Below w.heap.size w w' := by
  obtain ⟨K, hK, eK⟩ : ∃ K : Nat, K < 65536 ∧ bits .and .i64 at_ 65535 = (K : Int) := ⟨(at_ % 65536).toNat, by omega, by rw [i64_and65535]; omega⟩
  have HR := Hid.intro' h
  have hBs := Hid.intro' h.bs
  obtain ⟨a, cap, rfl, hc, _, _⟩ := h.form
  clear h
  go_enter Try.func4, Try.ntmps4
  go_wp2_with fail
  refine (speaks_any _).mono ?_
  rintro e W1 ⟨rfl, hb1⟩
  have HB1 := Hid.intro' hb1
  have HR1 := Hid.intro' (HR.out.below' hb1)
  clear hb1
  by_cases hl : 300 < l.length
  · have hz : (300 : Int) < (l.length : Int) := by omega
    go_wp2
    go_ret
    exact ⟨rfl, HB1.out⟩
  · have hz : ¬ (300 : Int) < (l.length : Int) := by omega
    go_wp2_with fail
    refine (sum_any _ _ _ HR1.out).mono ?_
    rintro e W ⟨rfl, hW⟩
    subst hW
    have hn := FC.crc_lt hBs.out
    have HSelf := Hid.intro' (FC.crc_self l)
    generalize hcr : FC.crc l = n at hn HSelf
    have HC := Hid.intro' hcr
    clear hcr
    have hn1 : ¬ (n : Int) < 0 := by omega
    have hn2 : ¬ (65535 : Int) < (n : Int) := by omega
    go_wp2_with (at_builtin; refine wpList_appendRg (by go_simp) _ _ rfl W.heap.size (.slice (some ⟨W.heap.size, 0, none⟩) 0 0) (.slice a l.length cap) [] l rfl ?qc1 rfl ?qc2 ?qc3 ?qc4 ?_)
    case qc1 => exact OW.lit (B := W.heap.size) W [] (Nat.le_refl _) (Nat.zero_le _)
    case qc2 => exact HR1.out.alloc _
    case qc3 => simp; omega
    case qc4 => simp
    intro v2 W2 ho2 hg2
    have hb2 := made_grown hg2 rfl
    have HO2 := Hid.intro' ho2
    have HB2 := Hid.intro' (below_class HB1.out hb2)
    have HL2 := Hid.intro' hb2.size
    clear ho2 hg2 hb2
    go_wp2_with (at_builtin; refine wpList_appendRg (by go_simp) _ _ rfl W.heap.size v2 (.slice (some ⟨W2.heap.size, 0, none⟩) 2 2) l [n / 256, n % 256] rfl ?qd1 rfl ?qd2 ?qd3 ?qd4 ?_)
    case qd1 => exact HO2.out.alloc _
    case qd2 => exact (OW.lit (B := 0) W2 [n / 256, n % 256] (Nat.zero_le _) (by unfold maxLen; simp)).rd (FC.Bs.cons (by omega) (FC.Bs.cons (by omega) FC.Bs.nil))
    case qd3 => simp; omega
    case qd4 => simp; have := HL2.out; omega
    intro v3 W3 ho3 hg3
    have HO3 := Hid.intro' ho3
    have HB3 : Hid (Below w.heap.size w W3) := (HB2.out.alloc HB2.out.size _).grown hg3 (by simp; have := HB2.out.size; omega) (fun k hk => by have := (HO2.out.lt k hk).1; have := HB1.out.size; omega)
    clear ho3 hg3 HO2 HB2 HL2
    have hs3 := sum_any _ _ _ (HO3.out.rd (hBs.out.append (FC.Bs.cons (by omega) (FC.Bs.cons (by omega) FC.Bs.nil))))
    rw [HSelf.out] at hs3
    go_wp2_with fail
    refine hs3.mono ?_
    rintro e W4 ⟨rfl, hW⟩
    subst hW
    clear hs3 HO3
    by_cases hl2 : l.length < 2
    · have hz2 : (l.length : Int) < 2 := by omega
      go_wp2
      go_ret
      exact ⟨rfl, HB3.out⟩
    · have hz2 : ¬ (l.length : Int) < 2 := by omega
      rcases Nat.eq_zero_or_pos bu with hb0 | hb0
      · subst hb0
        go_wp2
        go_ret
        exact ⟨rfl, HB3.out⟩
      · have hbz : ((bu : Int) == 0) = false := by simp; omega
        go_wp2_with (at_builtin; refine wpList_appendR rfl _ _ rfl W4.heap.size _ _ [] l rfl ?qe1 rfl ?qe2 ?qe3 ?qe4 ?_)
        case qe1 => exact OW.lit (B := W4.heap.size) W4 [] (Nat.le_refl _) (Nat.zero_le _)
        case qe2 => exact (HR.out.below' HB3.out).alloc _
        case qe3 => simp; omega
        case qe4 => simp
        intro v5 W5 ho5 hg5
        have hb5 := made_grown hg5 rfl
        have HB5 := Hid.intro' (below_class HB3.out hb5)
        have HO5 := Hid.intro' (ho5.mono HB3.out.size)
        clear ho5 hg5 hb5
        rcases HO5.out.form with ⟨_, he⟩ | ⟨g, c5, rfl, hB, hlt, hc5, hm5⟩
        · exfalso; rw [he] at hl2; simp at hl2
        obtain ⟨k, hk, ek⟩ : ∃ k : Nat, k + 1 < l.length ∧ (K : Int) % ((l.length : Int) - 1) = (k : Int) := by
          refine ⟨K % (l.length - 1), ?_, ?_⟩
          · have := Nat.mod_lt K (show 0 < l.length - 1 by omega); omega
          · rw [show (l.length : Int) - 1 = ((l.length - 1 : Nat) : Int) by omega]; exact (Int.natCast_emod _ _).symm
        obtain ⟨x, hx⟩ : ∃ x, l[k]? = some x := ⟨_, List.getElem?_eq_getElem (by omega)⟩
        obtain ⟨y, hy⟩ : ∃ y, l[k + 1]? = some y := ⟨_, List.getElem?_eq_getElem hk⟩
        have hx8 := hBs.out.get hx
        have hy8 := hBs.out.get hy
        have hp1 : bu / 256 < 256 := by omega
        have hp2 : bu % 256 < 256 := by omega
        have HNE := Hid.intro' (FC.crc_burst hBs.out hx hy hp1 hp2 (by omega))
        have hxr : bits .xor .u8 (x : Int) ((bu : Int) / 256) = ((x ^^^ (bu / 256) : Nat) : Int) := u8_xor_nat x (bu / 256) hx8 hp1
        have hyr : bits .xor .u8 (y : Int) ((bu : Int) % 256) = ((y ^^^ (bu % 256) : Nat) : Int) := u8_xor_nat y (bu % 256) hy8 hp2
        have HX8 := Hid.intro' (FC.xor_lt8 hx8 hp1)
        have HY8 := Hid.intro' (FC.xor_lt8 hy8 hp2)
        generalize x ^^^ (bu / 256) = x' at hxr HX8 HNE
        generalize y ^^^ (bu % 256) = y' at hyr HY8 HNE
        have HX := Hid.intro' hx
        have HY := Hid.intro' hy
        have kz : (k : Int) < (l.length : Int) := by omega
        have c0 := HO5.out.cell hx
        have r0 := HO5.out.fr k
        have HKL := Hid.intro' hk
        clear hx hy hk
        go_upto_region 13 with fail
        rw [ek]
        have HO6 := Hid.intro' (HO5.out.put k x')
        have HB6 := Hid.intro' (HB5.out.setCell (p := ⟨g, k, none⟩) hB (.int .u8 (x' : Int)))
        clear HO5 HB5 c0 r0
        generalize W5.setCell ⟨g, k, none⟩ (.int .u8 (x' : Int)) = W6 at HO6 HB6 ⊢
        have HY6 : Hid ((l.set k x')[k + 1]? = some y) := by
          show (l.set k x')[k + 1]? = some y
          rw [List.getElem?_set_ne (by omega)]; exact HY.out
        have c1 := HO6.out.cell HY6.out
        have r1 := HO6.out.fr (k + 1)
        have kz1 : (k : Int) + 1 < (l.length : Int) := by have := HKL.out; omega
        go_wp2_with fail
        have HO7 := Hid.intro' (HO6.out.put (k + 1) y')
        have HB7 := Hid.intro' (HB6.out.setCell (p := ⟨g, k + 1, none⟩) hB (.int .u8 (y' : Int)))
        clear HO6 HB6 c1 r1
        generalize W6.setCell ⟨g, k + 1, none⟩ (.int .u8 (y' : Int)) = W7 at HO7 HB7 ⊢
        refine (sum_any _ _ _ (HO7.out.rd ((hBs.out.set HX8.out).set HY8.out))).mono ?_
        rintro e W8 ⟨rfl, hW⟩
        subst hW
        have hne : ((FC.crc ((l.set k x').set (k + 1) y') : Nat) : Int) ≠ (n : Int) := by
          have := HNE.out
          rw [HC.out] at this
          omega
        have hneb : ((FC.crc ((l.set k x').set (k + 1) y') : Int) != (n : Int)) = true := by simpa using hne
        clear hne
        generalize FC.crc ((l.set k x').set (k + 1) y') = m at hneb
        go_wp2
        go_ret
        exact ⟨rfl, HB7.out⟩

end Go.Proofs.Ytkbfljacjfaamae
