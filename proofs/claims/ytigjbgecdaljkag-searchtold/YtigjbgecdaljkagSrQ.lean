/- A search's proof, as the document writes it. -/
import Derived.Test.YtigjbgecdaljkagPk32
import Derived.Test.YtigjbgecdaljkagPk30
namespace Go.Proofs.Ytigjbgecdaljkag
open Go.RowKit Go.Shelf

/-- while the cost is written: k bytes are there -/
structure Pk (w W : World) (v : Value) (o : List Nat) (cb : Nat) (l : List Nat) : Prop where
  bel : Below w.heap.size w W
  row : OY W w.heap.size v o
  arr : W.heap[cb]? = some (.cells (yc l).toArray 89 (0, 0))
  ne : v.ownBlock ≠ some cb
  lt : w.heap.size ≤ cb
theorem Pk.set {w W : World} {v : Value} {o : List Nat} {cb : Nat} {l : List Nat} (h : Pk w W v o cb l) (i y : Nat) : Pk w (W.setCell ⟨cb, i, none⟩ (.int .u8 (y : Int))) v o cb (l.set i y) := by
  refine ⟨h.bel.setCell (p := ⟨cb, i, none⟩) h.lt _, h.row.keep fun g hg => Below.heap_setCell W ⟨cb, i, none⟩ _ g (fun e => h.ne (by rw [hg]; exact congrArg some e)), ?_, h.ne, h.lt⟩
  have := blk_set h.arr i (.int .u8 (y : Int))
  unfold yc at this ⊢
  rw [List.map_set]
  exact this

set_option maxRecDepth 100000 in
set_option maxHeartbeats 2000000 in
theorem rproof_any (s : Sn) (vc vw : Value) (B xb : Nat) (x : Sx) (vp vm : Value) (w : World) (h : XS w xb s vc vw B x vp vm) (hc0 : 0 ≤ x.cost) (hc1 : x.cost ≤ 1000000000000) (hpl : x.plan.length ≤ 8) (hll : ∀ l ∈ x.plan, l.length ≤ 128 ∧ ∀ z ∈ l, 0 ≤ z ∧ z < 128) (hml : x.marks.length ≤ 1000000) :
    Calls Try.prog 25 #[.pointer (some ⟨xb, 0, none⟩)] w fun e w' => ∃ v, e = .returned v ∧ OY w' w.heap.size v (prf x) ∧ Below w.heap.size w w' := by
  have HX := Hid.intro' h
  have hal := (Below.refl w.heap.size w).alloc (Nat.le_refl _) (.cells #[.int .u8 1] 5)
  have HX1 := Hid.intro' (h.next hal)
  have HO1 : Hid (OY (w.alloc (.cells #[.int .u8 1] 5)) w.heap.size (.slice (some ⟨w.heap.size, 0, none⟩) 1 1) [1]) := OY.lit (B := w.heap.size) w [1] (Nat.le_refl _) (by unfold maxLen; simp)
  have HB1 := Hid.intro' hal
  obtain ⟨nd, en, pl, co, ms⟩ := x
  obtain ⟨av, kv, rfl, _, _⟩ := h.pl.form
  clear h hal
  cases en with
  | true =>
    have c19 := HX1.out.cell 19
    have e19 : (xc s.st vc vw B (.slice av pl.length kv) ⟨nd, true, pl, co, ms⟩ vm)[19]? = some (.bool true) := rfl
    rw [e19] at c19
    clear e19
    generalize hW0 : w.alloc (.cells #[.int .u8 1] 5) = W0 at HX1 HO1 HB1 c19
    have d1 : W0.cell? ⟨w.heap.size, 0, none⟩ = some (.int .u8 1) := HO1.out.cell rfl
    have d2 : W0.frozen? ⟨w.heap.size, 0, none⟩ = false := HO1.out.fr 0
    have ho1 : OY (W0.setCell ⟨w.heap.size, 0, none⟩ (.int .u8 0)) w.heap.size (.slice (some ⟨w.heap.size, 0, none⟩) 1 1) [0] := HO1.out.put 0 0
    have hb1 := HB1.out.setCell (p := ⟨w.heap.size, 0, none⟩) (Nat.le_refl _) (.int .u8 0)
    clear HO1 HB1 HX1
    have HO1 := Hid.intro' ho1
    have HB1 := Hid.intro' hb1
    have HX1 := Hid.intro' (HX.out.next hb1)
    clear ho1 hb1
    generalize hW1 : W0.setCell ⟨w.heap.size, 0, none⟩ (.int .u8 0) = W1 at HX1 HO1 HB1
    have c17 : W1.cell? ⟨xb, 17, none⟩ = some (.int .i64 co) := HX1.out.cell 17
    go_enter Try.func25, Try.ntmps25
    go_wp2_with fail
    have HP0 : Hid (Pk w (W1.alloc (.cells #[.int .u8 0, .int .u8 0, .int .u8 0, .int .u8 0, .int .u8 0, .int .u8 0, .int .u8 0, .int .u8 0] 89)) (.slice (some ⟨w.heap.size, 0, none⟩) 1 1) [0] W1.heap.size (ark co 0)) := by
      have hb := (Below.refl W1.heap.size W1).alloc (Nat.le_refl _) (.cells #[.int .u8 0, .int .u8 0, .int .u8 0, .int .u8 0, .int .u8 0, .int .u8 0, .int .u8 0, .int .u8 0] 89)
      have h1 := (HO1.out.lt w.heap.size rfl).2
      exact ⟨below_class HB1.out hb, HO1.out.below' hb, World.alloc_heap_new W1 _, fun e => by have := own_some e; omega, by omega⟩
    clear hW1 hW0 d1 d2 c19 c17 HO1 HB1 HX1
    generalize W1.alloc (.cells #[.int .u8 0, .int .u8 0, .int .u8 0, .int .u8 0, .int .u8 0, .int .u8 0, .int .u8 0, .int .u8 0] 89) = Y at HP0 ⊢
    generalize W1.heap.size = cb at HP0 ⊢
    go_loopw [4, 6] (fun nv iv wr => ∃ k : Nat, k ≤ 8 ∧ iv = .int .i64 (7 - (k : Int)) ∧ nv = .int .i64 (co / 256 ^ k) ∧ Hid (Pk w wr (.slice (some ⟨w.heap.size, 0, none⟩) 1 1) [0] cb (ark co k))) (fun _ iv _ => (intOf iv + 1).toNat)
    case atStart => exact ⟨0, Nat.zero_le _, rfl, by simp, HP0⟩
    case round =>
      clear HP0
      obtain ⟨k, hk, rfl, rfl, HP⟩ := hrel
      by_cases hk8 : k < 8
      · have hkz : (0 : Int) ≤ 7 - (k : Int) := by omega
        have hnn : 0 ≤ co / 256 ^ k := Int.ediv_nonneg hc0 (Int.le_of_lt (Int.pow_pos (by decide)))
        have hcast : (7 - (k : Int)) = ((7 - k : Nat) : Int) := by omega
        obtain ⟨q, HQ⟩ : ∃ q : Int, Hid (co / 256 ^ k = q) := ⟨_, Hid.intro' rfl⟩
        rw [HQ.out] at hnn ⊢
        have hr1 : q.tmod 256 = q % 256 := Int.tmod_eq_emod_of_nonneg hnn
        have hr2 : q.tdiv 256 = q / 256 := Int.tdiv_eq_ediv_of_nonneg hnn
        have hr3 : IntKind.u8.wrap (q % 256) = q % 256 := IntWalk.u8_in _ (by omega)
        obtain ⟨z, hz⟩ : ∃ z, (yc (ark co k))[7 - k]? = some z := ⟨_, List.getElem?_eq_getElem (by rw [yc_length, ark_length co hk]; omega)⟩
        have d1 : wr.cell? ⟨cb, 7 - k, none⟩ = some z := (blk_cell HP.out.arr (7 - k)).trans hz
        have d2 : wr.frozen? ⟨cb, 7 - k, none⟩ = false := blk_fr HP.out.arr (7 - k)
        have hp2 := HP.out.set (7 - k) (q % 256).toNat
        rw [show (q % 256).toNat = ((co / 256 ^ k) % 256).toNat by rw [HQ.out], ark_set co hk8, HQ.out, Int.toNat_of_nonneg (Int.emod_nonneg q (by decide))] at hp2
        have HP2 := Hid.intro' hp2
        have HDV : Hid (q / 256 = co / 256 ^ (k + 1)) := by
          show _ = _
          rw [← HQ.out]; exact div_pow co k
        have hqb : q ≤ 1000000000000 := by
          have := Int.ediv_le_self (256 ^ k) hc0
          have := HQ.out
          omega
        have hr4 : IntKind.i64.wrap (q / 256) = q / 256 := IntWalk.i64_in _ (by omega)
        have hr5 : wrap64 (q / 256) = q / 256 := by unfold wrap64; omega
        clear hp2 hz
        go_wp2
        go_roundw
        case rel => exact ⟨k + 1, by omega, by congr 1; omega, by rw [HDV.out], HP2⟩
        case measure => simp [intOf]; omega
      · have hkz : ¬ (0 : Int) ≤ 7 - (k : Int) := by omega
        have hk9 : k = 8 := by omega
        have hkd : decide ((k : Int) ≤ 7) = false := decide_eq_false (by omega)
        have hke : decide ((0 : Int) ≤ 7 - (k : Int)) = false := decide_eq_false hkz
        have harr := HP.out.arr
        rw [hk9, ark_all] at harr
        have HAR : Hid (∀ (j : Nat) y, (bek co 8)[j]? = some y → wr.cell? ⟨cb, j, none⟩ = some (.int .u8 (y : Int))) := fun j y hy => (blk_cell harr j).trans (yc_some hy)
        have HRW := Hid.intro' HP.out.row
        have HB := Hid.intro' HP.out.bel
        have HSZ : Hid (w.heap.size ≤ wr.heap.size) := HB.out.size
        clear harr HP hk9
        go_wp2_with (at_builtin; refine wpList_appYs rfl _ _ rfl w.heap.size _ [0] rfl HRW.out cb 8 (bek co 8) rfl HAR.out ?qz HSZ.out ?_)
        case qz => rw [bek_length]; simp
        intro v2 W2 ho2 hg2
        have HO2 := Hid.intro' ho2
        have HB2 := Hid.intro' (HB.out.grown hg2 HSZ.out (fun q hq => (HRW.out.lt q hq).1))
        clear ho2 hg2 HAR HRW HB HSZ
        obtain ⟨P0, HP0⟩ : ∃ P, Hid (0 :: bek co 8 = P) := ⟨_, Hid.intro' rfl⟩
        have hP0 : P0.length ≤ 9 := by rw [← HP0.out, List.length_cons, bek_length]; omega
        rw [HP0.out] at HO2
        go_wp2_with fail
        go_loopw [3, 7] (fun ov cv wr => ∃ c : Nat, c ≤ pl.length ∧ cv = .int .i64 (c : Int) ∧ Hid (OY wr w.heap.size ov (P0 ++ prl (pl.take c))) ∧ Hid (Below w.heap.size w wr)) (fun _ cv _ => pl.length - (intOf cv).toNat)
        case atStart => exact ⟨0, Nat.zero_le _, rfl, by rw [List.take_zero]; show Hid (OY _ _ _ (P0 ++ [])); rw [List.append_nil]; exact HO2, HB2⟩
        case round =>
          clear HO2 HB2
          obtain ⟨c, hc, rfl, HO, HBC⟩ := hrel
          have c16 : wr.cell? ⟨xb, 16, none⟩ = some (.slice av pl.length kv) := (HX.out.next HBC.out).cell 16
          by_cases hcc : c < pl.length
          · have hcz : (c : Int) < (pl.length : Int) := by omega
            obtain ⟨l, hl⟩ : ∃ l, pl[c]? = some l := ⟨_, List.getElem?_eq_getElem hcc⟩
            have hlb := hll l (List.mem_of_getElem? hl)
            have hln : l.length ≤ 128 := hlb.1
            have HZB := Hid.intro' hlb.2
            have HL := Hid.intro' hl
            obtain ⟨gp, op, rfl, u, hcu, hru⟩ := HX.out.pl.at hl
            obtain ⟨au, ku, rfl, _, _⟩ := hru.form
            have HRU := Hid.intro' hru
            have HCU : Hid (∀ w', Below w.heap.size w w' → w'.cell? ⟨gp, op + c, none⟩ = some (.slice au l.length ku)) := fun w' hw => (hw.cell (p := ⟨gp, op + c, none⟩) (cell_lt hcu)).trans hcu
            have cu := HCU.out wr HBC.out
            have hcv : IntKind.u8.wrap (l.length : Int) = (l.length : Int) := IntWalk.u8_in _ (by omega)
            have HPR : Hid ((prl (pl.take c)).length ≤ 129 * 8) := by
              show _ ≤ _
              have : ∀ (q : List (List Int)), (∀ l ∈ q, l.length ≤ 128) → (prl q).length ≤ 129 * q.length := fun q => by
                induction q with
                | nil => intro _; exact Nat.le_refl _
                | cons a q ih =>
                  intro hq
                  have h1 := ih fun l hl => hq l (by simp [hl])
                  have h2 := hq a (by simp)
                  show (a.length :: a.map Int.toNat ++ prl q).length ≤ _
                  rw [List.length_append, List.length_cons, List.length_map, List.length_cons]
                  omega
              have h1 := this (pl.take c) fun l hl => (hll l (List.mem_of_mem_take hl)).1
              rw [List.length_take] at h1
              omega
            have HOA := Hid.intro' (HO.out.alloc (.cells #[.int .u8 (l.length : Int)] 5))
            have HCX : Hid ((wr.alloc (.cells #[.int .u8 (l.length : Int)] 5)).cell? ⟨wr.heap.size, 0, none⟩ = some (.int .u8 (l.length : Int))) := (OY.lit (B := 0) wr [l.length] (Nat.zero_le _) (by unfold maxLen; simp)).cell (i := 0) rfl
            have HSZ : Hid (w.heap.size ≤ wr.heap.size) := HBC.out.size
            obtain ⟨P1, HP1⟩ : ∃ P, Hid (P0 ++ prl (pl.take c) = P) := ⟨_, Hid.intro' rfl⟩
            have hP1 : P1.length ≤ 2000 := by have := HPR.out; rw [← HP1.out, List.length_append]; omega
            rw [HP1.out] at HO HOA
            clear hl hlb hcu hru HPR
            go_wp2_with (at_builtin; refine wpList_appY rfl _ _ rfl w.heap.size _ P1 rfl HOA.out wr.heap.size 1 l.length rfl HCX.out ?qy ?qw ?_)
            case qy => omega
            case qw => have := HSZ.out; simp; omega
            intro g5 c5 W5 ho5 hg5 hat5 hlt5
            have HO5 := Hid.intro' ho5
            have HB5 := Hid.intro' ((HBC.out.alloc HSZ.out (.cells #[.int .u8 (l.length : Int)] 5)).grown hg5 (by have := HSZ.out; simp; omega) (fun q hq => (HO.out.lt q hq).1))
            clear ho5 hg5 hat5 hlt5 HOA HCX HSZ HO HBC cu c16
            go_wp2_with fail
            go_loopw [3, 8] (fun ov iv wr => ∃ i : Nat, i ≤ l.length ∧ iv = .int .i64 (i : Int) ∧ Hid (OY wr w.heap.size ov (P1 ++ l.length :: (l.take i).map Int.toNat)) ∧ Hid (Below w.heap.size w wr)) (fun _ iv _ => l.length - (intOf iv).toNat)
            case atStart => exact ⟨0, Nat.zero_le _, rfl, by rw [List.take_zero]; exact HO5, HB5⟩
            case round =>
              clear HO5 HB5
              obtain ⟨i, hi, rfl, HO, HBC⟩ := hrel
              have c16 : wr.cell? ⟨xb, 16, none⟩ = some (.slice (some ⟨gp, op, none⟩) pl.length kv) := (HX.out.next HBC.out).cell 16
              have cu := HCU.out wr HBC.out
              by_cases hil : i < l.length
              · have hiz : (i : Int) < (l.length : Int) := by omega
                obtain ⟨z, hz⟩ : ∃ z, l[i]? = some z := ⟨_, List.getElem?_eq_getElem hil⟩
                have hzb := HZB.out z (List.mem_of_getElem? hz)
                obtain ⟨q, rfl⟩ : ∃ q : Nat, z = (q : Int) := ⟨z.toNat, by omega⟩
                obtain ⟨gi, oi, rfl, hci⟩ := HRU.out.at hz
                have ci : wr.cell? ⟨gi, oi + i, none⟩ = some (.int .i64 (q : Int)) := (HBC.out.cell (p := ⟨gi, oi + i, none⟩) (cell_lt hci)).trans hci
                have hcw : IntKind.u8.wrap (q : Int) = (q : Int) := IntWalk.u8_in _ (by omega)
                have HTS : Hid (P1 ++ l.length :: (l.take (i + 1)).map Int.toNat = P1 ++ l.length :: (l.take i).map Int.toNat ++ [q]) := by
                  show _ = _
                  rw [take_snoc hz, List.map_append]
                  simp
                have HLN : Hid ((P1 ++ l.length :: (l.take i).map Int.toNat).length ≤ 2000000) := by
                  show _ ≤ _
                  rw [List.length_append, List.length_cons, List.length_map, List.length_take]
                  omega
                obtain ⟨P2, HP2⟩ : ∃ P, Hid (P1 ++ l.length :: (l.take i).map Int.toNat = P) := ⟨_, Hid.intro' rfl⟩
                rw [HP2.out] at HO HTS HLN
                have HOA := Hid.intro' (HO.out.alloc (.cells #[.int .u8 (q : Int)] 5))
                have HCX : Hid ((wr.alloc (.cells #[.int .u8 (q : Int)] 5)).cell? ⟨wr.heap.size, 0, none⟩ = some (.int .u8 (q : Int))) := (OY.lit (B := 0) wr [q] (Nat.zero_le _) (by unfold maxLen; simp)).cell (i := 0) rfl
                have HSZ : Hid (w.heap.size ≤ wr.heap.size) := HBC.out.size
                clear hz hzb hci
                go_wp2_with (at_builtin; refine wpList_appY rfl _ _ rfl w.heap.size _ P2 rfl HOA.out wr.heap.size 1 q rfl HCX.out HLN.out ?qw ?_)
                case qw => have := HSZ.out; simp; omega
                intro g5 c5 W5 ho5 hg5 hat5 hlt5
                have HO5 := Hid.intro' ho5
                rw [← HTS.out] at HO5
                have HB5 := Hid.intro' ((HBC.out.alloc HSZ.out (.cells #[.int .u8 (q : Int)] 5)).grown hg5 (by have := HSZ.out; simp; omega) (fun q hq => (HO.out.lt q hq).1))
                clear ho5 hg5 hat5 hlt5 HOA HCX HSZ HO HBC cu c16 ci HTS HLN
                go_wp2
                go_roundw
                case rel => exact ⟨i + 1, by omega, by go_num, HO5, HB5⟩
                case measure => simp [intOf]; omega
              · have hiz : ¬ (i : Int) < (l.length : Int) := by omega
                have HE : Hid (P1 ++ l.length :: (l.take i).map Int.toNat = P0 ++ prl (pl.take (c + 1))) := by
                  show _ = _
                  rw [take_snoc HL.out, prl_snoc, ← List.append_assoc, HP1.out, List.take_of_length_le (by omega)]
                rw [HE.out] at HO
                go_wp2
                go_roundw
                case rel => exact ⟨c + 1, by omega, by go_num, HO, HBC⟩
                case measure => simp [intOf]; omega
          · have hcz : ¬ (c : Int) < (pl.length : Int) := by omega
            have hce : pl.take c = pl := List.take_of_length_le (by omega)
            rw [hce] at HO
            have HXW := Hid.intro' (HX.out.next HBC.out)
            have c19 : wr.cell? ⟨xb, 19, none⟩ = some (.bool true) := HXW.out.cell 19
            clear hce
            go_wp2
            go_ret
            exact ⟨_, rfl, by show OY _ _ _ (0 :: (bek co 8 ++ prl pl ++ [])); rw [← HP0.out] at HO; simpa using HO.out, HBC.out⟩
  | false =>
    have c19 := HX1.out.cell 19
    have c17 := HX1.out.cell 17
    have e19 : (xc s.st vc vw B (.slice av pl.length kv) ⟨nd, false, pl, co, ms⟩ vm)[19]? = some (.bool false) := rfl
    have e17 : (xc s.st vc vw B (.slice av pl.length kv) ⟨nd, false, pl, co, ms⟩ vm)[17]? = some (.int .i64 co) := rfl
    rw [e19] at c19
    rw [e17] at c17
    clear e19 e17
    generalize hW1 : w.alloc (.cells #[.int .u8 1] 5) = W1 at HX1 HO1 HB1 c19 c17
    go_enter Try.func25, Try.ntmps25
    go_wp2_with fail
    have HP0 : Hid (Pk w (W1.alloc (.cells #[.int .u8 0, .int .u8 0, .int .u8 0, .int .u8 0, .int .u8 0, .int .u8 0, .int .u8 0, .int .u8 0] 89)) (.slice (some ⟨w.heap.size, 0, none⟩) 1 1) [1] W1.heap.size (ark co 0)) := by
      have hb := (Below.refl W1.heap.size W1).alloc (Nat.le_refl _) (.cells #[.int .u8 0, .int .u8 0, .int .u8 0, .int .u8 0, .int .u8 0, .int .u8 0, .int .u8 0, .int .u8 0] 89)
      have h1 := (HO1.out.lt w.heap.size rfl).2
      exact ⟨below_class HB1.out hb, HO1.out.below' hb, World.alloc_heap_new W1 _, fun e => by have := own_some e; omega, by omega⟩
    clear hW1 c19 c17 HO1 HB1 HX1
    generalize W1.alloc (.cells #[.int .u8 0, .int .u8 0, .int .u8 0, .int .u8 0, .int .u8 0, .int .u8 0, .int .u8 0, .int .u8 0] 89) = Y at HP0 ⊢
    generalize W1.heap.size = cb at HP0 ⊢
    go_loopw [4, 6] (fun nv iv wr => ∃ k : Nat, k ≤ 8 ∧ iv = .int .i64 (7 - (k : Int)) ∧ nv = .int .i64 (co / 256 ^ k) ∧ Hid (Pk w wr (.slice (some ⟨w.heap.size, 0, none⟩) 1 1) [1] cb (ark co k))) (fun _ iv _ => (intOf iv + 1).toNat)
    case atStart => exact ⟨0, Nat.zero_le _, rfl, by simp, HP0⟩
    case round =>
      clear HP0
      obtain ⟨k, hk, rfl, rfl, HP⟩ := hrel
      by_cases hk8 : k < 8
      · have hkz : (0 : Int) ≤ 7 - (k : Int) := by omega
        have hnn : 0 ≤ co / 256 ^ k := Int.ediv_nonneg hc0 (Int.le_of_lt (Int.pow_pos (by decide)))
        have hcast : (7 - (k : Int)) = ((7 - k : Nat) : Int) := by omega
        obtain ⟨q, HQ⟩ : ∃ q : Int, Hid (co / 256 ^ k = q) := ⟨_, Hid.intro' rfl⟩
        rw [HQ.out] at hnn ⊢
        have hr1 : q.tmod 256 = q % 256 := Int.tmod_eq_emod_of_nonneg hnn
        have hr2 : q.tdiv 256 = q / 256 := Int.tdiv_eq_ediv_of_nonneg hnn
        have hr3 : IntKind.u8.wrap (q % 256) = q % 256 := IntWalk.u8_in _ (by omega)
        obtain ⟨z, hz⟩ : ∃ z, (yc (ark co k))[7 - k]? = some z := ⟨_, List.getElem?_eq_getElem (by rw [yc_length, ark_length co hk]; omega)⟩
        have d1 : wr.cell? ⟨cb, 7 - k, none⟩ = some z := (blk_cell HP.out.arr (7 - k)).trans hz
        have d2 : wr.frozen? ⟨cb, 7 - k, none⟩ = false := blk_fr HP.out.arr (7 - k)
        have hp2 := HP.out.set (7 - k) (q % 256).toNat
        rw [show (q % 256).toNat = ((co / 256 ^ k) % 256).toNat by rw [HQ.out], ark_set co hk8, HQ.out, Int.toNat_of_nonneg (Int.emod_nonneg q (by decide))] at hp2
        have HP2 := Hid.intro' hp2
        have HDV : Hid (q / 256 = co / 256 ^ (k + 1)) := by
          show _ = _
          rw [← HQ.out]; exact div_pow co k
        have hqb : q ≤ 1000000000000 := by
          have := Int.ediv_le_self (256 ^ k) hc0
          have := HQ.out
          omega
        have hr4 : IntKind.i64.wrap (q / 256) = q / 256 := IntWalk.i64_in _ (by omega)
        have hr5 : wrap64 (q / 256) = q / 256 := by unfold wrap64; omega
        clear hp2 hz
        go_wp2
        go_roundw
        case rel => exact ⟨k + 1, by omega, by congr 1; omega, by rw [HDV.out], HP2⟩
        case measure => simp [intOf]; omega
      · have hkz : ¬ (0 : Int) ≤ 7 - (k : Int) := by omega
        have hk9 : k = 8 := by omega
        have hkd : decide ((k : Int) ≤ 7) = false := decide_eq_false (by omega)
        have hke : decide ((0 : Int) ≤ 7 - (k : Int)) = false := decide_eq_false hkz
        have harr := HP.out.arr
        rw [hk9, ark_all] at harr
        have HAR : Hid (∀ (j : Nat) y, (bek co 8)[j]? = some y → wr.cell? ⟨cb, j, none⟩ = some (.int .u8 (y : Int))) := fun j y hy => (blk_cell harr j).trans (yc_some hy)
        have HRW := Hid.intro' HP.out.row
        have HB := Hid.intro' HP.out.bel
        have HSZ : Hid (w.heap.size ≤ wr.heap.size) := HB.out.size
        clear harr HP hk9
        go_wp2_with (at_builtin; refine wpList_appYs rfl _ _ rfl w.heap.size _ [1] rfl HRW.out cb 8 (bek co 8) rfl HAR.out ?qz HSZ.out ?_)
        case qz => rw [bek_length]; simp
        intro v2 W2 ho2 hg2
        have HO2 := Hid.intro' ho2
        have HB2 := Hid.intro' (HB.out.grown hg2 HSZ.out (fun q hq => (HRW.out.lt q hq).1))
        clear ho2 hg2 HAR HRW HB HSZ
        obtain ⟨P0, HP0⟩ : ∃ P, Hid (1 :: bek co 8 = P) := ⟨_, Hid.intro' rfl⟩
        have hP0 : P0.length ≤ 9 := by rw [← HP0.out, List.length_cons, bek_length]; omega
        rw [HP0.out] at HO2
        go_wp2_with fail
        go_loopw [3, 7] (fun ov cv wr => ∃ c : Nat, c ≤ pl.length ∧ cv = .int .i64 (c : Int) ∧ Hid (OY wr w.heap.size ov (P0 ++ prl (pl.take c))) ∧ Hid (Below w.heap.size w wr)) (fun _ cv _ => pl.length - (intOf cv).toNat)
        case atStart => exact ⟨0, Nat.zero_le _, rfl, by rw [List.take_zero]; show Hid (OY _ _ _ (P0 ++ [])); rw [List.append_nil]; exact HO2, HB2⟩
        case round =>
          clear HO2 HB2
          obtain ⟨c, hc, rfl, HO, HBC⟩ := hrel
          have c16 : wr.cell? ⟨xb, 16, none⟩ = some (.slice av pl.length kv) := (HX.out.next HBC.out).cell 16
          by_cases hcc : c < pl.length
          · have hcz : (c : Int) < (pl.length : Int) := by omega
            obtain ⟨l, hl⟩ : ∃ l, pl[c]? = some l := ⟨_, List.getElem?_eq_getElem hcc⟩
            have hlb := hll l (List.mem_of_getElem? hl)
            have hln : l.length ≤ 128 := hlb.1
            have HZB := Hid.intro' hlb.2
            have HL := Hid.intro' hl
            obtain ⟨gp, op, rfl, u, hcu, hru⟩ := HX.out.pl.at hl
            obtain ⟨au, ku, rfl, _, _⟩ := hru.form
            have HRU := Hid.intro' hru
            have HCU : Hid (∀ w', Below w.heap.size w w' → w'.cell? ⟨gp, op + c, none⟩ = some (.slice au l.length ku)) := fun w' hw => (hw.cell (p := ⟨gp, op + c, none⟩) (cell_lt hcu)).trans hcu
            have cu := HCU.out wr HBC.out
            have hcv : IntKind.u8.wrap (l.length : Int) = (l.length : Int) := IntWalk.u8_in _ (by omega)
            have HPR : Hid ((prl (pl.take c)).length ≤ 129 * 8) := by
              show _ ≤ _
              have : ∀ (q : List (List Int)), (∀ l ∈ q, l.length ≤ 128) → (prl q).length ≤ 129 * q.length := fun q => by
                induction q with
                | nil => intro _; exact Nat.le_refl _
                | cons a q ih =>
                  intro hq
                  have h1 := ih fun l hl => hq l (by simp [hl])
                  have h2 := hq a (by simp)
                  show (a.length :: a.map Int.toNat ++ prl q).length ≤ _
                  rw [List.length_append, List.length_cons, List.length_map, List.length_cons]
                  omega
              have h1 := this (pl.take c) fun l hl => (hll l (List.mem_of_mem_take hl)).1
              rw [List.length_take] at h1
              omega
            have HOA := Hid.intro' (HO.out.alloc (.cells #[.int .u8 (l.length : Int)] 5))
            have HCX : Hid ((wr.alloc (.cells #[.int .u8 (l.length : Int)] 5)).cell? ⟨wr.heap.size, 0, none⟩ = some (.int .u8 (l.length : Int))) := (OY.lit (B := 0) wr [l.length] (Nat.zero_le _) (by unfold maxLen; simp)).cell (i := 0) rfl
            have HSZ : Hid (w.heap.size ≤ wr.heap.size) := HBC.out.size
            obtain ⟨P1, HP1⟩ : ∃ P, Hid (P0 ++ prl (pl.take c) = P) := ⟨_, Hid.intro' rfl⟩
            have hP1 : P1.length ≤ 2000 := by have := HPR.out; rw [← HP1.out, List.length_append]; omega
            rw [HP1.out] at HO HOA
            clear hl hlb hcu hru HPR
            go_wp2_with (at_builtin; refine wpList_appY rfl _ _ rfl w.heap.size _ P1 rfl HOA.out wr.heap.size 1 l.length rfl HCX.out ?qy ?qw ?_)
            case qy => omega
            case qw => have := HSZ.out; simp; omega
            intro g5 c5 W5 ho5 hg5 hat5 hlt5
            have HO5 := Hid.intro' ho5
            have HB5 := Hid.intro' ((HBC.out.alloc HSZ.out (.cells #[.int .u8 (l.length : Int)] 5)).grown hg5 (by have := HSZ.out; simp; omega) (fun q hq => (HO.out.lt q hq).1))
            clear ho5 hg5 hat5 hlt5 HOA HCX HSZ HO HBC cu c16
            go_wp2_with fail
            go_loopw [3, 8] (fun ov iv wr => ∃ i : Nat, i ≤ l.length ∧ iv = .int .i64 (i : Int) ∧ Hid (OY wr w.heap.size ov (P1 ++ l.length :: (l.take i).map Int.toNat)) ∧ Hid (Below w.heap.size w wr)) (fun _ iv _ => l.length - (intOf iv).toNat)
            case atStart => exact ⟨0, Nat.zero_le _, rfl, by rw [List.take_zero]; exact HO5, HB5⟩
            case round =>
              clear HO5 HB5
              obtain ⟨i, hi, rfl, HO, HBC⟩ := hrel
              have c16 : wr.cell? ⟨xb, 16, none⟩ = some (.slice (some ⟨gp, op, none⟩) pl.length kv) := (HX.out.next HBC.out).cell 16
              have cu := HCU.out wr HBC.out
              by_cases hil : i < l.length
              · have hiz : (i : Int) < (l.length : Int) := by omega
                obtain ⟨z, hz⟩ : ∃ z, l[i]? = some z := ⟨_, List.getElem?_eq_getElem hil⟩
                have hzb := HZB.out z (List.mem_of_getElem? hz)
                obtain ⟨q, rfl⟩ : ∃ q : Nat, z = (q : Int) := ⟨z.toNat, by omega⟩
                obtain ⟨gi, oi, rfl, hci⟩ := HRU.out.at hz
                have ci : wr.cell? ⟨gi, oi + i, none⟩ = some (.int .i64 (q : Int)) := (HBC.out.cell (p := ⟨gi, oi + i, none⟩) (cell_lt hci)).trans hci
                have hcw : IntKind.u8.wrap (q : Int) = (q : Int) := IntWalk.u8_in _ (by omega)
                have HTS : Hid (P1 ++ l.length :: (l.take (i + 1)).map Int.toNat = P1 ++ l.length :: (l.take i).map Int.toNat ++ [q]) := by
                  show _ = _
                  rw [take_snoc hz, List.map_append]
                  simp
                have HLN : Hid ((P1 ++ l.length :: (l.take i).map Int.toNat).length ≤ 2000000) := by
                  show _ ≤ _
                  rw [List.length_append, List.length_cons, List.length_map, List.length_take]
                  omega
                obtain ⟨P2, HP2⟩ : ∃ P, Hid (P1 ++ l.length :: (l.take i).map Int.toNat = P) := ⟨_, Hid.intro' rfl⟩
                rw [HP2.out] at HO HTS HLN
                have HOA := Hid.intro' (HO.out.alloc (.cells #[.int .u8 (q : Int)] 5))
                have HCX : Hid ((wr.alloc (.cells #[.int .u8 (q : Int)] 5)).cell? ⟨wr.heap.size, 0, none⟩ = some (.int .u8 (q : Int))) := (OY.lit (B := 0) wr [q] (Nat.zero_le _) (by unfold maxLen; simp)).cell (i := 0) rfl
                have HSZ : Hid (w.heap.size ≤ wr.heap.size) := HBC.out.size
                clear hz hzb hci
                go_wp2_with (at_builtin; refine wpList_appY rfl _ _ rfl w.heap.size _ P2 rfl HOA.out wr.heap.size 1 q rfl HCX.out HLN.out ?qw ?_)
                case qw => have := HSZ.out; simp; omega
                intro g5 c5 W5 ho5 hg5 hat5 hlt5
                have HO5 := Hid.intro' ho5
                rw [← HTS.out] at HO5
                have HB5 := Hid.intro' ((HBC.out.alloc HSZ.out (.cells #[.int .u8 (q : Int)] 5)).grown hg5 (by have := HSZ.out; simp; omega) (fun q hq => (HO.out.lt q hq).1))
                clear ho5 hg5 hat5 hlt5 HOA HCX HSZ HO HBC cu c16 ci HTS HLN
                go_wp2
                go_roundw
                case rel => exact ⟨i + 1, by omega, by go_num, HO5, HB5⟩
                case measure => simp [intOf]; omega
              · have hiz : ¬ (i : Int) < (l.length : Int) := by omega
                have HE : Hid (P1 ++ l.length :: (l.take i).map Int.toNat = P0 ++ prl (pl.take (c + 1))) := by
                  show _ = _
                  rw [take_snoc HL.out, prl_snoc, ← List.append_assoc, HP1.out, List.take_of_length_le (by omega)]
                rw [HE.out] at HO
                go_wp2
                go_roundw
                case rel => exact ⟨c + 1, by omega, by go_num, HO, HBC⟩
                case measure => simp [intOf]; omega
          · have hcz : ¬ (c : Int) < (pl.length : Int) := by omega
            have hce : pl.take c = pl := List.take_of_length_le (by omega)
            rw [hce] at HO
            have HXW := Hid.intro' (HX.out.next HBC.out)
            have c19 : wr.cell? ⟨xb, 19, none⟩ = some (.bool false) := HXW.out.cell 19
            have c20 : wr.cell? ⟨xb, 20, none⟩ = some vm := HXW.out.cell 20
            have HSZ : Hid (w.heap.size ≤ wr.heap.size) := HBC.out.size
            have HPR : Hid ((P0 ++ prl pl).length + ms.length ≤ 4000000) := by
              show _ ≤ _
              have : ∀ (q : List (List Int)), (∀ l ∈ q, l.length ≤ 128) → (prl q).length ≤ 129 * q.length := fun q => by
                induction q with
                | nil => intro _; exact Nat.le_refl _
                | cons a q ih =>
                  intro hq
                  have h1 := ih fun l hl => hq l (by simp [hl])
                  have h2 := hq a (by simp)
                  show (a.length :: a.map Int.toNat ++ prl q).length ≤ _
                  rw [List.length_append, List.length_cons, List.length_map, List.length_cons]
                  omega
              have h1 := this pl fun l hl => (hll l hl).1
              rw [List.length_append]
              omega
            have HMS := Hid.intro' HXW.out.ms
            clear hce
            go_wp2_with (at_builtin; refine wpList_appYo rfl _ _ rfl w.heap.size 0 _ _ _ ms rfl HO.out rfl HMS.out HPR.out HSZ.out ?_)
            intro v9 W9 ho9 hg9
            have HO9 := Hid.intro' ho9
            have HB9 := Hid.intro' (HBC.out.grown hg9 HSZ.out (fun q hq => (HO.out.lt q hq).1))
            clear ho9 hg9 HO HBC c19 c20 c16
            go_wp2
            go_ret
            exact ⟨_, rfl, by show OY _ _ _ (1 :: (bek co 8 ++ prl pl ++ ms)); rw [← HP0.out] at HO9; simpa using HO9.out, HB9.out⟩

end Go.Proofs.Ytigjbgecdaljkag
