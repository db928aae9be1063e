/- A beginning: what the plans cost at least that begin so, as the program reckons it. -/
import Derived.Test.YtkcppidmbojglagBdW
namespace Go.Proofs.Ytkcppidmbojglag
open Go.RowKit

/-- the wants that are left -/
def lfm (s : Sn) (st : List Bool) (j : Int) : Option (Int × Int) := if 0 ≤ j ∧ st[j.toNat]? = some false then s.ws[j.toNat]? else none
/-- the least cost, as far as the first j wants are looked at -/
def lsk (s : Sn) (k : Nat) (p : List (List Int)) (st : List Bool) (j : Nat) : Int :=
  if ((lfk st j).all fun x => !(optw s k p x.toNat).isEmpty) = true then RM.cst s.st s.ws s.cs p + ((lfk st j).map fun x => RM.low (optw s k p x.toNat)).sum else 1099511627776
section
variable {s : Sn} {k : Nat} {p : List (List Int)} {st : List Bool}
theorem lsk_zero : lsk s k p st 0 = RM.cst s.st s.ws s.cs p := by unfold lsk lfk; simp
theorem lsk_end : lsk s k p st s.ws.length = lsv s k p st := rfl
theorem lsk_same {j : Nat} (h : st[j]? ≠ some false) : lsk s k p st (j + 1) = lsk s k p st j := by unfold lsk; rw [lfk_succ, if_neg h, List.append_nil]
theorem optw_bd (h : Bs s k p st) (hll : ∀ l ∈ p, l.length ≤ 1000) (w : Nat) : ∀ t ∈ optw s k p w, 0 ≤ t ∧ t ≤ 80000000 := by
  have e : optw s k p w = RM.opk s.st s.ws s.cs p (RM.wf s.ws (w : Int)) ((msk s)[w]?.getD 0) k s.cs.length := by
    unfold optw RM.opt
    rw [RM.opk_end (Nat.le_refl _) (by have := h.pc; omega)]
  rw [e]
  exact RM.ops_bd h.rz h.fr h.af hll
theorem cst_bd (h : Bs s k p st) (hll : ∀ l ∈ p, l.length ≤ 1000) : 0 ≤ RM.cst s.st s.ws s.cs p ∧ RM.cst s.st s.ws s.cs p ≤ 800000000000 := by
  obtain ⟨l, hl⟩ : ∃ l, p[k]? = some l := ⟨_, List.getElem?_eq_getElem h.kl⟩
  obtain ⟨r, hr⟩ : ∃ r, s.cs[k]? = some r := ⟨_, List.getElem?_eq_getElem (by have := h.pc; have := h.kl; omega)⟩
  have := sm2_bd h hll (j := l.length) hr hl
  rw [sm2_end hr hl, sm1_end h] at this
  exact this
theorem lsk_bd (h : Bs s k p st) (hll : ∀ l ∈ p, l.length ≤ 1000) (j : Nat) (hj : j ≤ 128) : 0 ≤ lsk s k p st j ∧ lsk s k p st j ≤ 1099511627776 ∧ (((lfk st j).all fun x => !(optw s k p x.toNat).isEmpty) = true → lsk s k p st j ≤ 900000000000) := by
  have h1 := cst_bd h hll
  unfold lsk
  split
  · rename_i ha
    have h2 := RM.sum_bd (B := 80000000) (l := (lfk st j).map fun x => RM.low (optw s k p x.toNat)) fun t ht => by
      obtain ⟨x, hx, rfl⟩ := List.mem_map.1 ht
      have hne : optw s k p x.toNat ≠ [] := by
        have := List.all_eq_true.1 ha x hx
        intro e
        rw [e] at this
        simp at this
      exact optw_bd h hll _ _ (RM.low_mem hne).1
    rw [List.length_map] at h2
    have h3 := lfk_length st j
    omega
  · rename_i ha
    exact ⟨by decide, by decide, fun g => absurd g ha⟩
theorem lsk_more (h : Bs s k p st) (hll : ∀ l ∈ p, l.length ≤ 1000) {j : Nat} (hj : j < 128) (hs : st[j]? = some false) : NumM.cl (NumM.cl (lsk s k p st j) + NumM.cl (eml (optw s k p j))) = lsk s k p st (j + 1) := by
  have hb := lsk_bd h hll j (by omega)
  have ho := optw_bd h hll j
  have he := eml_bd fun t ht => (ho t ht).1
  rw [NumM.cl_in (a := lsk s k p st j) (by omega) (by omega), NumM.cl_in (a := eml _) (by omega) (by omega)]
  have e1 : lfk st (j + 1) = lfk st j ++ [(j : Int)] := by rw [lfk_succ, if_pos hs]
  by_cases ha : ((lfk st j).all fun x => !(optw s k p x.toNat).isEmpty) = true
  · by_cases hn : optw s k p j = []
    · rw [hn, eml_nil, NumM.cl_ge (by omega)]
      unfold lsk
      rw [e1, if_neg]
      rw [List.all_append]
      simp [hn]
    · have hl := eml_low (fun t ht => by have := (ho t ht).2; omega) hn
      have hlb := ho _ (RM.low_mem hn).1
      rw [hl, NumM.cl_in (by have := hb.2.2 ha; omega) (by have := hb.2.2 ha; omega)]
      unfold lsk
      have ha2 : ((lfk st (j + 1)).all fun x => !(optw s k p x.toNat).isEmpty) = true := by
        rw [e1, List.all_append, ha]
        simp [hn]
      rw [if_pos ha, if_pos ha2, e1, List.map_append, List.sum_append]
      simp
      omega
  · have h1 : lsk s k p st j = 1099511627776 := by unfold lsk; rw [if_neg ha]
    have h2 : lsk s k p st (j + 1) = 1099511627776 := by
      unfold lsk
      rw [e1, if_neg]
      rw [List.all_append]
      simp [ha]
    rw [h1, h2, NumM.cl_ge (by omega)]
end

section
variable {W : World} {b eb mb : Nat} {s : Sn} {vc vw : Value} {p : List (List Int)} {st : List Bool}
set_option maxHeartbeats 4000000 in
theorem leastm_any (k : Nat) (hB : Bs s k p st) (aw : Option Addr) (kw : Nat) (h : Bg W b eb mb s.st vc (.slice aw s.ws.length kw) (asp s s.cs p) (lfm s st) (RM.cst s.st s.ws s.cs p)) (hll : ∀ l ∈ p, l.length ≤ 1000) :
    Calls Try.prog 22 #[.pointer (some ⟨b, 0, none⟩), .int .i64 (k : Int)] W fun e w' => e = .returned (.int .i64 (lsv s k p st)) ∧ Below W.heap.size W w' := by
  have c17 := h.c17
  have c14 := h.c14
  have HG0 : Hid (Bg W b eb mb s.st vc (.slice aw s.ws.length kw) (asp s s.cs p) (lfm s st) (RM.cst s.st s.ws s.cs p) ∧ Below W.heap.size W W) := ⟨h, Below.refl _ _⟩
  have HB := Hid.intro' hB
  have HLL := Hid.intro' hll
  have hwl : s.ws.length ≤ 128 := hB.wl
  generalize hT : lsv s k p st = T
  have HTT := Hid.intro' hT
  obtain ⟨ct, HCT⟩ : ∃ ct, Hid (RM.cst s.st s.ws s.cs p = ct) := ⟨_, Hid.intro' rfl⟩
  rw [HCT.out] at c17 HG0
  clear h hB hll hT
  go_enter Try.func22, Try.ntmps22
  go_wp2_with fail
  clear c17 c14
  go_loopw [5, 19] (fun tv jv wr => ∃ (j : Nat) (t : Int), j ≤ s.ws.length ∧ tv = .int .i64 t ∧ jv = .int .i64 (j : Int) ∧ Hid (t = lsk s k p st j) ∧ Hid (Bg wr b eb mb s.st vc (.slice aw s.ws.length kw) (asp s s.cs p) (lfm s st) ct ∧ Below W.heap.size W wr)) (fun _ jv _ => s.ws.length - (intOf jv).toNat)
  case atStart => exact ⟨0, ct, Nat.zero_le _, rfl, rfl, by show _ = _; rw [lsk_zero, HCT.out], HG0⟩
  case round =>
    clear HG0
    obtain ⟨j, t, hj, rfl, rfl, HT, HG⟩ := hrel
    by_cases hlt : j < s.ws.length
    · have hjz : (j : Int) < (s.ws.length : Int) := by omega
      have c16 := HG.out.1.c16
      obtain ⟨y, hy⟩ : ∃ y, s.ws[j]? = some y := ⟨_, List.getElem?_eq_getElem hlt⟩
      obtain ⟨q, hq⟩ : ∃ q, st[j]? = some q := ⟨_, List.getElem?_eq_getElem (by have := HB.out.sl; omega)⟩
      have hlk := HG.out.1.hm.look (j : Int)
      cases q with
      | true =>
        rw [show lfm s st (j : Int) = none by unfold lfm; rw [if_neg]; rw [Int.toNat_natCast, hq]; simp] at hlk
        have hlk2 : (Instr.lookup 67 (.map (some mb)) (.int .i64 (j : Int)) true).run Try.prog wr = .ok (.tuple #[.agg #[.int .i64 0, .int .i64 0], .bool false]) wr := hlk
        have HT2 : Hid (t = lsk s k p st (j + 1)) := by
          show _ = _
          rw [lsk_same (by rw [hq]; simp), HT.out]
        have hba := (Below.refl wr.heap.size wr).alloc (Nat.le_refl _) (.cells #[.int .i64 0, .int .i64 0] 46)
        have HG2 := Hid.intro' (And.intro (HG.out.1.below' hba) (below_class HG.out.2 hba))
        clear hlk hq hy hba HG
        go_wp2
        go_roundw
        case rel => exact ⟨j + 1, t, by omega, rfl, by go_num, HT2, HG2⟩
        case measure => simp [intOf]; omega
      | false =>
        rw [show lfm s st (j : Int) = some y by unfold lfm; rw [if_pos ⟨by omega, by rw [Int.toNat_natCast]; exact hq⟩, Int.toNat_natCast, hy]] at hlk
        obtain ⟨n8, hrs⟩ := rgt_rs HB.out.rg
        obtain ⟨m, hm, hym⟩ := hrs.mm.eq j y hy
        obtain ⟨g, y2⟩ := y
        simp only at hym
        subst hym
        have hlk2 : (Instr.lookup 67 (.map (some mb)) (.int .i64 (j : Int)) true).run Try.prog wr = .ok (.tuple #[.agg #[.int .i64 g, .int .i64 (m : Int)], .bool true]) wr := hlk
        have hba := (Below.refl wr.heap.size wr).alloc (Nat.le_refl _) (.cells #[.int .i64 g, .int .i64 (m : Int)] 46)
        have HG2 := Hid.intro' (And.intro (HG.out.1.below' hba) (below_class HG.out.2 hba))
        have HEA := Hid.intro' (earliest_any HG2.out.1 HB.out.rz HB.out.pc (by have := HB.out.pc; have := HB.out.p8; omega) HB.out.af HB.out.fr HLL.out k m (by have := HB.out.pc; have := HB.out.kl; omega) g (HB.out.rz.wr _ (List.mem_of_getElem? hy)).1 (HB.out.rz.wr _ (List.mem_of_getElem? hy)).2)
        have HOP : Hid (RM.opk s.st s.ws s.cs p g m k s.cs.length = optw s k p j) := by
          show _ = _
          unfold optw RM.opt
          rw [RM.opk_end (Nat.le_refl _) (by have := HB.out.pc; omega), RM.wf_get hy, hm]; rfl
        rw [HOP.out] at HEA
        have HMO := Hid.intro' (lsk_more HB.out HLL.out (by omega) hq)
        rw [← HT.out] at HMO
        obtain ⟨u, HU⟩ : ∃ u, Hid (u = lsk s k p st (j + 1)) := ⟨_, Hid.intro' rfl⟩
        rw [← HU.out] at HMO
        clear hlk hq hy hba HG hrs hm HOP
        generalize eml (optw s k p j) = e1 at HEA HMO
        have HAD : Hid (∀ w', Calls Try.prog 37 #[.int .i64 t, .int .i64 e1] w' fun e w'' => e = .returned (.int .i64 u) ∧ w'' = w') := fun w' => by have := add_any t e1 w'; rw [HMO.out] at this; exact this
        go_wp2_with fail
        refine HEA.out.mono ?_
        rintro e W2 ⟨rfl, hb2⟩
        have HG3 := Hid.intro' (And.intro (HG2.out.1.below' hb2) (below_class HG2.out.2 hb2))
        clear hb2 HG2 HEA c16 hlk2 HMO
        go_wp2_with (go_at_call 37; refine (HAD.out _).mono ?_; rintro e w' ⟨rfl, rfl⟩)
        go_roundw
        case rel => exact ⟨j + 1, u, by omega, rfl, by go_num, HU, HG3⟩
        case measure => simp [intOf]; omega
    · have hjz : ¬ (j : Int) < (s.ws.length : Int) := by omega
      have HE : Hid (t = T) := by
        show _ = _
        rw [← HTT.out, ← lsk_end, HT.out, show j = s.ws.length by omega]
      go_wp2
      go_ret
      exact ⟨ret_int HE.out, HG.out.2⟩
end

end Go.Proofs.Ytkcppidmbojglag
