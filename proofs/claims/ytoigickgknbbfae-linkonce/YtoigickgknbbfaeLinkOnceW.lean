/- LinkOnce: the walk. -/
import Derived.Test.YtoigickgknbbfaeLkW
namespace Go.Proofs.Ytoigickgknbbfae
open Go.RowKit

set_option maxHeartbeats 4000000 in
theorem once_of (fi : Int) (ao : Option Addr) (len cap : Nat) (ro : Option Addr) (rlen rcap : Nat) (w : World) (hA : IS w ao len) (hR : IS w ro rlen) :
    Calls Try.prog 6 #[.int .i64 fi, .slice ao len cap, .slice ro rlen rcap] w fun e w' => e = .returned (.bool true) ∧ Below w.heap.size w w' := by
  obtain ⟨K, hK, eK⟩ := mask_ffff fi
  have HA := Hid.intro' hA
  have HR := Hid.intro' hR
  have HK := Hid.intro' hK
  clear hA hR
  go_enter Try.func6, Try.ntmps6
  go_wp2_with fail
  refine (speaks_any _).mono ?_
  rintro e W1 ⟨rfl, hb1⟩
  have HB1 := Hid.intro' hb1
  clear hb1
  by_cases hl : 60 < len
  · have hz : (60 : Int) < (len : Int) := by omega
    go_wp2
    go_ret
    exact ⟨rfl, HB1.out⟩
  · have hz : ¬ (60 : Int) < (len : Int) := by omega
    by_cases hl2 : 60 < rlen
    · have hz2 : (60 : Int) < (rlen : Int) := by omega
      go_wp2
      go_ret
      exact ⟨rfl, HB1.out⟩
    · have hz2 : ¬ (60 : Int) < (rlen : Int) := by omega
      go_wp2_with fail
      refine (new_any _).mono ?_
      rintro e W2 ⟨rfl, hW⟩
      have H2 : Hid (Ls w W2 W1.heap.size LM.z) := by subst hW; exact Ls.new HB1.out
      have hn : W1.heap.size + 1 ≤ W2.heap.size := by subst hW; simp
      clear hW HB1
      generalize W1.heap.size = b at H2 hn ⊢
      have H3 : Hid (Lo w (W2.alloc (.cells #[.int .i64 (K : Int)] 3)) b LM.z (.slice (some ⟨W2.heap.size, 0, none⟩) 1 1) [(K : Int)]) :=
        ⟨H2.out.next ((Below.refl _ _).alloc (Nat.le_refl _) _), OI.lit W2 K hn⟩
      clear H2 hn
      go_wp2_with fail
      generalize W2.heap.size = g at H3 ⊢
      generalize W2.alloc (.cells #[.int .i64 (K : Int)] 3) = W3 at H3 ⊢
      have ht3 := take_any LM.z K b _ H3.out.ls.lb
      have e3 : LM.err LM.z K = 0 := LM.err_new (by omega) (by omega) (LM.nw_first _ rfl)
      rw [LM.tk_new e3, e3] at ht3
      refine ht3.mono ?_
      rintro e W4 ⟨rfl, hl4, hk4⟩
      have H4 := Hid.intro' (H3.out.upd hl4 hk4)
      have HM : Hid (LM.Bk (K : Int) 0 [(K : Int)]) := LM.bk_first (by omega) (by omega)
      clear hl4 hk4 H3 ht3 e3
      go_wp2
      go_loopw [8, 9, 11, 35] (fun sv v _ i wr => ∃ (k : Nat) (s : Int) (l : List Int), k ≤ len ∧ i = .int .i64 k ∧ sv = .int .i64 s ∧ Hid (Lo w wr b ⟨true, s, 0⟩ v l) ∧ Hid (LM.Bk s k l)) (fun _ _ _ i _ => len - (intOf i).toNat)
      case atStart => exact ⟨0, _, _, Nat.zero_le _, rfl, rfl, H4, HM⟩
      case round =>
        obtain ⟨k, s, l, hk, rfl, rfl, HL, HM⟩ := hrel
        by_cases hlt : k < len
        · have hkz : (k : Int) < (len : Int) := by omega
          obtain ⟨ga, off, x, hao, hcell⟩ := HA.out.at HL.out.ls.bel hlt
          have hix := fun W => ixI W (cap := cap) hao hlt
          obtain ⟨M, hM, eM⟩ := mask_255 x
          have s0 := HM.out.s0
          have s1 := HM.out.s1
          have eS : bits .and .i64 (s + M + 1) 65535 = (s + M + 1) % 65536 := i64_andffff _
          have HE := Hid.intro' (HM.out.new hM)
          have HM2 := Hid.intro' (HM.out.next hM)
          have HLn := Hid.intro' HM.out.len
          clear hao HM
          generalize (s + M + 1) % 65536 = s2 at eS HE HM2
          go_wp2_with fail
          have hv := take_any ⟨true, s, 0⟩ s2 b _ HL.out.ls.lb
          rw [HE.out.1, HE.out.2] at hv
          refine hv.mono ?_
          rintro e W5 ⟨rfl, hl5, hk5⟩
          have H5 := Hid.intro' (HL.out.upd hl5 hk5)
          clear hl5 hk5 HL hv hcell hix
          go_wp2_with (at_builtin; refine wpList_appendI rfl _ _ rfl (b + 1) _ l rfl ?qc1 W5.heap.size 1 s2 rfl ?qc2 ?qc3 ?qc4 ?_)
          case qc1 => exact H5.out.ow.alloc _
          case qc2 => exact (OI.lit (B := 0) W5 s2 (Nat.zero_le _)).cell (i := 0) rfl
          case qc3 => have := HLn.out; omega
          case qc4 => have := H5.out.ls.lb.lt; simp; omega
          intro v6 W6 ho6 hg6
          have H6 := Hid.intro' (H5.out.grow ho6 hg6)
          clear ho6 hg6 H5
          go_wp2
          go_roundw
          case rel => exact ⟨k + 1, s2, _, by omega, by go_num, rfl, H6, HM2⟩
          case measure => simp [intOf]; omega
        · obtain rfl : k = len := by omega
          have hkz : ¬ (k : Int) < (k : Int) := by omega
          have hne : l ≠ [] := fun e => by have := HM.out.len; rw [e] at this; simp at this
          obtain ⟨g5, c5, hv5, _, _, _, _⟩ := HL.out.ow.form hne
          rw [HM.out.len] at hv5
          subst hv5
          clear hne
          go_wp2
          go_loopw [13, 56] (fun _ i wr => ∃ (q : Nat), q ≤ rlen ∧ i = .int .i64 q ∧ Hid (Lo w wr b ⟨true, s, 0⟩ (.slice (some ⟨g5, 0, none⟩) (k + 1) c5) l)) (fun _ i _ => rlen - (intOf i).toNat)
          case atStart => exact ⟨0, Nat.zero_le _, rfl, HL⟩
          case round =>
            obtain ⟨q, hq, rfl, HQ⟩ := hrel
            by_cases hlt2 : q < rlen
            · have hqz : (q : Int) < (rlen : Int) := by omega
              obtain ⟨gr, off, x, hro, hcell⟩ := HR.out.at HQ.out.ls.bel hlt2
              have hix := fun W => ixI W (cap := rcap) hro hlt2
              obtain ⟨M, hM, eM⟩ := mask_ffff x
              obtain ⟨j, hj, ej⟩ : ∃ j : Nat, j < k + 1 ∧ (M : Int) % ((k : Int) + 1) = (j : Int) := ⟨M % (k + 1), Nat.mod_lt _ (by omega), by rw [show (k : Int) + 1 = ((k + 1 : Nat) : Int) by omega]; exact (Int.natCast_emod _ _).symm⟩
              obtain ⟨y, hy⟩ : ∃ y, l[j]? = some y := ⟨_, List.getElem?_eq_getElem (by have := HM.out.len; omega)⟩
              have hc2 := HQ.out.ow.cell hy
              have HE := Hid.intro' (HM.out.old (by omega) (List.mem_of_getElem? hy))
              have hjz : (j : Int) < (k : Int) + 1 := by omega
              have hkn : ((k : Int) + 1 == 0) = false := by simp; omega
              clear hro hy
              go_wp2_with fail
              have hv := take_any ⟨true, s, 0⟩ y b _ HQ.out.ls.lb
              rw [HE.out.1, HE.out.2] at hv
              refine hv.mono ?_
              rintro e W5 ⟨rfl, hl5, hk5⟩
              have H5 := Hid.intro' (HQ.out.upd hl5 hk5)
              clear hl5 hk5 HQ hv hcell hix hc2
              go_wp2
              go_roundw
              case rel => exact ⟨q + 1, by omega, by go_num, H5⟩
              case measure => simp [intOf]; omega
            · have hqz : ¬ (q : Int) < (rlen : Int) := by omega
              go_wp2_with fail
              refine (silent_any ⟨true, s, 0⟩ b _ HQ.out.ls.lb).mono ?_
              rw [show LM.si ⟨true, s, 0⟩ = 0 from rfl]
              rintro e W5 ⟨rfl, hW⟩
              subst hW
              go_wp2
              go_ret
              exact ⟨rfl, HQ.out.ls.bel⟩

end Go.Proofs.Ytoigickgknbbfae
