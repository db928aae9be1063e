/- A search's proof, as the program writes it. -/
import Derived.Test.YtagmidolcdefiahPk12
import Derived.Test.YtagmidolcdefiahSlY
import Derived.Test.YtagmidolcdefiahPk10
import Derived.Test.YtagmidolcdefiahSrO
namespace Go.Proofs.Ytagmidolcdefiah
open Go.RowKit Go.Shelf
theorem bek_get (n : Int) : ∀ (m k : Nat), k < m → (bek n m)[k]? = some ((n / 256 ^ (m - 1 - k)) % 256).toNat
  | m + 1, 0, _ => by show some _ = _; rfl
  | m + 1, k + 1, h => by
    show (bek n m)[k]? = _
    rw [bek_get n m k (by omega), show m + 1 - 1 - (k + 1) = m - 1 - k by omega]
/-- a result that was found, in memory -/
structure Rw (w : World) (rb : Nat) (x : Sx) (vp vm : Value) (M : Nat) : Prop where
  rs : w.heap[rb]? = some (.cells (rcl vp x.cost (!x.ended) (M : Int) (.slice none 0 0)).toArray 35 (0, 0))
  rl : RL (fun _ => True) w vp x.plan
  ms : OY w 0 vm x.marks
section
variable {w w' : World} {rb M : Nat} {x : Sx} {vp vm : Value}
theorem Rw.next (h : Rw w rb x vp vm M) (hb : Below w.heap.size w w') : Rw w' rb x vp vm M := ⟨(hb.block rb (Array.getElem?_eq_some_iff.1 h.rs).1).trans h.rs, h.rl.below' hb, h.ms.below' hb⟩
theorem Rw.cell (h : Rw w rb x vp vm M) (i : Nat) : w.cell? ⟨rb, i, none⟩ = (rcl vp x.cost (!x.ended) (M : Int) (.slice none 0 0))[i]? := blk_cell h.rs i
end
set_option maxRecDepth 100000 in
set_option maxHeartbeats 2000000 in
theorem prove_any {rb M : Nat} {x : Sx} {vp vm : Value} {w : World} (h : Rw w rb x vp vm M) (hc0 : 0 ≤ x.cost) (hc1 : x.cost ≤ 1000000000000) (hpl : x.plan.length ≤ 8) (hll : ∀ l ∈ x.plan, l.length ≤ 128 ∧ ∀ z ∈ l, 0 ≤ z ∧ z < 128) (hml : x.marks.length ≤ 1000000) :
    Calls Try.prog 24 #[.pointer (some ⟨rb, 0, none⟩), vm] w fun e w' => ∃ v, e = .returned v ∧ OY w' w.heap.size v (prf x) ∧ Below w.heap.size w w' := by
  have HX := Hid.intro' h
  have hal := (Below.refl w.heap.size w).alloc (Nat.le_refl _) (.cells #[.int .u8 0] 5)
  have HX1 := Hid.intro' (h.next hal)
  have HO1 : Hid (OY (w.alloc (.cells #[.int .u8 0] 5)) w.heap.size (.slice (some ⟨w.heap.size, 0, none⟩) 1 1) [0]) := OY.lit (B := w.heap.size) w [0] (Nat.le_refl _) (by unfold maxLen; simp)
  have HB1 := Hid.intro' hal
  obtain ⟨nd, en, pl, co, ms⟩ := x
  obtain ⟨av, kv, rfl, _, _⟩ := h.rl.form
  obtain ⟨cn, rfl⟩ : ∃ c : Nat, co = (c : Int) := ⟨co.toNat, by have : 0 ≤ co := hc0; omega⟩
  clear h hal
  cases en with
  | false =>
    have c2 : (w.alloc (.cells #[.int .u8 0] 5)).cell? ⟨rb, 2, none⟩ = some (.bool true) := HX1.out.cell 2
    generalize hW0 : w.alloc (.cells #[.int .u8 0] 5) = W0 at HX1 HO1 HB1 c2
    have d1 : W0.cell? ⟨w.heap.size, 0, none⟩ = some (.int .u8 0) := HO1.out.cell rfl
    have d2 : W0.frozen? ⟨w.heap.size, 0, none⟩ = false := HO1.out.fr 0
    have ho1 : OY (W0.setCell ⟨w.heap.size, 0, none⟩ (.int .u8 1)) w.heap.size (.slice (some ⟨w.heap.size, 0, none⟩) 1 1) [1] := HO1.out.put 0 1
    have hb1 := HB1.out.setCell (p := ⟨w.heap.size, 0, none⟩) (Nat.le_refl _) (.int .u8 1)
    clear HO1 HB1 HX1
    have HO1 := Hid.intro' ho1
    have HB1 := Hid.intro' hb1
    clear ho1 hb1
    generalize hW1 : W0.setCell ⟨w.heap.size, 0, none⟩ (.int .u8 1) = W1 at HO1 HB1
    go_enter Try.func24, Try.ntmps24
    go_wp2_with fail
    clear hW0 hW1 c2 d1 d2
    go_loopw [5, 6] (fun ov iv wr => ∃ k : Nat, k ≤ 8 ∧ iv = .int .i64 (56 - 8 * (k : Int)) ∧ Hid (OY wr w.heap.size ov (1 :: (bek cn 8).take k)) ∧ Hid (Below w.heap.size w wr)) (fun _ iv _ => (intOf iv + 8).toNat)
    case atStart => exact ⟨0, Nat.zero_le _, rfl, HO1, HB1⟩
    case round =>
      clear HO1 HB1
      obtain ⟨k, hk, rfl, HO, HBC⟩ := hrel
      by_cases hk8 : k < 8
      · have hkz : (0 : Int) ≤ 56 - 8 * (k : Int) := by omega
        have c1 : wr.cell? ⟨rb, 1, none⟩ = some (.int .i64 (cn : Int)) := (HX.out.next HBC.out).cell 1
        obtain ⟨q, HQ⟩ : ∃ q : Nat, Hid (cn / 256 ^ (7 - k) = q) := ⟨_, Hid.intro' rfl⟩
        have hcv : (cn : Int) / 2 ^ (56 - 8 * k) % 256 = ((q % 256 : Nat) : Int) := by
          rw [← HQ.out, Int.natCast_emod, Int.natCast_ediv, Int.natCast_pow, show 56 - 8 * k = 8 * (7 - k) by omega, Int.pow_mul]
          rfl
        have HTS : Hid (1 :: (bek cn 8).take (k + 1) = 1 :: (bek cn 8).take k ++ [q % 256]) := by
          show _ = _
          rw [take_snoc (bek_get cn 8 k hk8), show 8 - 1 - k = 7 - k by omega, show (((cn : Int) / 256 ^ (7 - k)) % 256).toNat = q % 256 by
            rw [← HQ.out, show ((cn : Int) / 256 ^ (7 - k)) = ((cn / 256 ^ (7 - k) : Nat) : Int) by rw [Int.natCast_ediv, Int.natCast_pow]; rfl]; omega]
          rfl
        have HLN : Hid ((1 :: (bek cn 8).take k).length ≤ 2000000) := by
          show _ ≤ _
          rw [List.length_cons, List.length_take, bek_length]
          omega
        obtain ⟨P2, HP2⟩ : ∃ P, Hid (1 :: (bek cn 8).take k = P) := ⟨_, Hid.intro' rfl⟩
        rw [HP2.out] at HO HTS HLN
        generalize q % 256 = y at hcv HTS
        have HOA := Hid.intro' (HO.out.alloc (.cells #[.int .u8 (y : Int)] 5))
        have HCX : Hid ((wr.alloc (.cells #[.int .u8 (y : Int)] 5)).cell? ⟨wr.heap.size, 0, none⟩ = some (.int .u8 (y : Int))) := (OY.lit (B := 0) wr [y] (Nat.zero_le _) (by unfold maxLen; simp)).cell (i := 0) rfl
        have HSZ : Hid (w.heap.size ≤ wr.heap.size) := HBC.out.size
        clear HQ
        go_wp2_with (at_builtin; refine wpList_appY rfl _ _ rfl w.heap.size _ P2 rfl HOA.out wr.heap.size 1 y rfl HCX.out HLN.out ?qw ?_)
        case qw => have := HSZ.out; simp; omega
        intro g5 c5 W5 ho5 hg5 hat5 hlt5
        have HO5 := Hid.intro' ho5
        rw [← HTS.out] at HO5
        have HB5 := Hid.intro' ((HBC.out.alloc HSZ.out (.cells #[.int .u8 (y : Int)] 5)).grown hg5 (by have := HSZ.out; simp; omega) (fun q hq => (HO.out.lt q hq).1))
        clear ho5 hg5 hat5 hlt5 HOA HCX HSZ HO HBC c1 HTS HLN
        go_wp2
        go_roundw
        case rel => exact ⟨k + 1, by omega, by go_num, HO5, HB5⟩
        case measure => simp [intOf]; omega
      · have hkz : ¬ (0 : Int) ≤ 56 - 8 * (k : Int) := by omega
        have hk9 : k = 8 := by omega
        have hke : decide ((0 : Int) ≤ 56 - 8 * (k : Int)) = false := decide_eq_false hkz
        have hkd : decide (8 * (k : Int) ≤ 56) = false := decide_eq_false (by omega)
        have ho2 := HO.out
        rw [hk9, List.take_of_length_le (by rw [bek_length]; exact Nat.le_refl _)] at ho2
        have HO2 := Hid.intro' ho2
        have HB2 := HBC
        clear HO HBC hk9 ho2
        obtain ⟨P0, HP0⟩ : ∃ P, Hid (1 :: bek cn 8 = P) := ⟨_, Hid.intro' rfl⟩
        have hP0 : P0.length ≤ 9 := by rw [← HP0.out, List.length_cons, bek_length]; omega
        rw [HP0.out] at HO2
        have c0 : wr.cell? ⟨rb, 0, none⟩ = some (.slice av pl.length kv) := (HX.out.next HB2.out).cell 0
        go_wp2_with fail
        clear c0
        go_loopw [5, 37] (fun ov cv wr => ∃ c : Nat, c ≤ pl.length ∧ cv = .int .i64 (c : Int) ∧ Hid (OY wr w.heap.size ov (P0 ++ prl (pl.take c))) ∧ Hid (Below w.heap.size w wr)) (fun _ cv _ => pl.length - (intOf cv).toNat)
        case atStart => exact ⟨0, Nat.zero_le _, rfl, by rw [List.take_zero]; show Hid (OY _ _ _ (P0 ++ [])); rw [List.append_nil]; exact HO2, HB2⟩
        case round =>
          clear HO2 HB2
          obtain ⟨c, hc, rfl, HO, HBC⟩ := hrel
          by_cases hcc : c < pl.length
          · have hcz : (c : Int) < (pl.length : Int) := by omega
            obtain ⟨l, hl⟩ : ∃ l, pl[c]? = some l := ⟨_, List.getElem?_eq_getElem hcc⟩
            have hlb := hll l (List.mem_of_getElem? hl)
            have hln : l.length ≤ 128 := hlb.1
            have HZB := Hid.intro' hlb.2
            have HL := Hid.intro' hl
            obtain ⟨gp, op, rfl, u, hcu, hru⟩ := HX.out.rl.at hl
            obtain ⟨au, ku, rfl, _, _⟩ := hru.form
            have HRU := Hid.intro' hru
            have cu : wr.cell? ⟨gp, op + c, none⟩ = some (.slice au l.length ku) := (HBC.out.cell (p := ⟨gp, op + c, none⟩) (cell_lt hcu)).trans hcu
            have hcv : IntKind.u8.wrap (l.length : Int) = (l.length : Int) := IntWalk.u8_in _ (by omega)
            have HPR : Hid ((prl (pl.take c)).length ≤ 129 * 8) := by
              show _ ≤ _
              have h1 := prl_len (pl.take c) fun l hl => (hll l (List.mem_of_mem_take hl)).1
              rw [List.length_take] at h1
              omega
            have HOA := Hid.intro' (HO.out.alloc (.cells #[.int .u8 (l.length : Int)] 5))
            have HCX : Hid ((wr.alloc (.cells #[.int .u8 (l.length : Int)] 5)).cell? ⟨wr.heap.size, 0, none⟩ = some (.int .u8 (l.length : Int))) := (OY.lit (B := 0) wr [l.length] (Nat.zero_le _) (by unfold maxLen; simp)).cell (i := 0) rfl
            have HSZ : Hid (w.heap.size ≤ wr.heap.size) := HBC.out.size
            obtain ⟨P1, HP1⟩ : ∃ P, Hid (P0 ++ prl (pl.take c) = P) := ⟨_, Hid.intro' rfl⟩
            have hP1 : P1.length ≤ 2000 := by have := HPR.out; rw [← HP1.out, List.length_append]; omega
            rw [HP1.out] at HO HOA
            clear hl hlb hcu hru HPR
            go_wp2_with (at_builtin; refine wpList_appY rfl _ _ rfl w.heap.size _ P1 rfl HOA.out wr.heap.size 1 l.length rfl HCX.out ?qy ?qw ?_)
            case qy => omega
            case qw => have := HSZ.out; simp; omega
            intro g5 c5 W5 ho5 hg5 hat5 hlt5
            have HO5 := Hid.intro' ho5
            have HB5 := Hid.intro' ((HBC.out.alloc HSZ.out (.cells #[.int .u8 (l.length : Int)] 5)).grown hg5 (by have := HSZ.out; simp; omega) (fun q hq => (HO.out.lt q hq).1))
            clear ho5 hg5 hat5 hlt5 HOA HCX HSZ HO HBC cu
            go_wp2_with fail
            go_loopw [5, 49] (fun ov iv wr => ∃ i : Nat, i ≤ l.length ∧ iv = .int .i64 (i : Int) ∧ Hid (OY wr w.heap.size ov (P1 ++ l.length :: (l.take i).map Int.toNat)) ∧ Hid (Below w.heap.size w wr)) (fun _ iv _ => l.length - (intOf iv).toNat)
            case atStart => exact ⟨0, Nat.zero_le _, rfl, by rw [List.take_zero]; exact HO5, HB5⟩
            case round =>
              clear HO5 HB5
              obtain ⟨i, hi, rfl, HO, HBC⟩ := hrel
              by_cases hil : i < l.length
              · have hiz : (i : Int) < (l.length : Int) := by omega
                obtain ⟨z, hz⟩ : ∃ z, l[i]? = some z := ⟨_, List.getElem?_eq_getElem hil⟩
                have hzb := HZB.out z (List.mem_of_getElem? hz)
                obtain ⟨q, rfl⟩ : ∃ q : Nat, z = (q : Int) := ⟨z.toNat, by omega⟩
                obtain ⟨gi, oi, rfl, hci⟩ := HRU.out.at hz
                have ci : wr.cell? ⟨gi, oi + i, none⟩ = some (.int .i64 (q : Int)) := (HBC.out.cell (p := ⟨gi, oi + i, none⟩) (cell_lt hci)).trans hci
                have hcw : IntKind.u8.wrap (q : Int) = (q : Int) := IntWalk.u8_in _ (by omega)
                have HTS : Hid (P1 ++ l.length :: (l.take (i + 1)).map Int.toNat = P1 ++ l.length :: (l.take i).map Int.toNat ++ [q]) := by
                  show _ = _
                  rw [take_snoc hz, List.map_append]
                  simp
                have HLN : Hid ((P1 ++ l.length :: (l.take i).map Int.toNat).length ≤ 2000000) := by
                  show _ ≤ _
                  rw [List.length_append, List.length_cons, List.length_map, List.length_take]
                  omega
                obtain ⟨P2, HP2⟩ : ∃ P, Hid (P1 ++ l.length :: (l.take i).map Int.toNat = P) := ⟨_, Hid.intro' rfl⟩
                rw [HP2.out] at HO HTS HLN
                have HOA := Hid.intro' (HO.out.alloc (.cells #[.int .u8 (q : Int)] 5))
                have HCX : Hid ((wr.alloc (.cells #[.int .u8 (q : Int)] 5)).cell? ⟨wr.heap.size, 0, none⟩ = some (.int .u8 (q : Int))) := (OY.lit (B := 0) wr [q] (Nat.zero_le _) (by unfold maxLen; simp)).cell (i := 0) rfl
                have HSZ : Hid (w.heap.size ≤ wr.heap.size) := HBC.out.size
                clear hz hzb hci
                go_wp2_with (at_builtin; refine wpList_appY rfl _ _ rfl w.heap.size _ P2 rfl HOA.out wr.heap.size 1 q rfl HCX.out HLN.out ?qw ?_)
                case qw => have := HSZ.out; simp; omega
                intro g5 c5 W5 ho5 hg5 hat5 hlt5
                have HO5 := Hid.intro' ho5
                rw [← HTS.out] at HO5
                have HB5 := Hid.intro' ((HBC.out.alloc HSZ.out (.cells #[.int .u8 (q : Int)] 5)).grown hg5 (by have := HSZ.out; simp; omega) (fun q hq => (HO.out.lt q hq).1))
                clear ho5 hg5 hat5 hlt5 HOA HCX HSZ HO HBC ci HTS HLN
                go_wp2
                go_roundw
                case rel => exact ⟨i + 1, by omega, by go_num, HO5, HB5⟩
                case measure => simp [intOf]; omega
              · have hiz : ¬ (i : Int) < (l.length : Int) := by omega
                have HE : Hid (P1 ++ l.length :: (l.take i).map Int.toNat = P0 ++ prl (pl.take (c + 1))) := by
                  show _ = _
                  rw [take_snoc HL.out, prl_snoc, ← List.append_assoc, HP1.out, List.take_of_length_le (by omega)]
                rw [HE.out] at HO
                go_wp2
                go_roundw
                case rel => exact ⟨c + 1, by omega, by go_num, HO, HBC⟩
                case measure => simp [intOf]; omega
          · have hcz : ¬ (c : Int) < (pl.length : Int) := by omega
            have hce : pl.take c = pl := List.take_of_length_le (by omega)
            rw [hce] at HO
            have HXW := Hid.intro' (HX.out.next HBC.out)
            have HSZ : Hid (w.heap.size ≤ wr.heap.size) := HBC.out.size
            have c2 : wr.cell? ⟨rb, 2, none⟩ = some (.bool true) := HXW.out.cell 2
            have HPR : Hid ((P0 ++ prl pl).length + ms.length ≤ 4000000) := by
              show _ ≤ _
              have h1 := prl_len pl fun l hl => (hll l hl).1
              have h2 : ms.length ≤ 1000000 := hml
              rw [List.length_append]
              omega
            have HMS := Hid.intro' HXW.out.ms
            clear hce HXW
            go_wp2_with (at_builtin; refine wpList_appYo rfl _ _ rfl w.heap.size 0 _ _ _ ms rfl HO.out rfl HMS.out HPR.out HSZ.out ?_)
            intro v9 W9 ho9 hg9
            have HO9 := Hid.intro' ho9
            have HB9 := Hid.intro' (HBC.out.grown hg9 HSZ.out (fun q hq => (HO.out.lt q hq).1))
            clear ho9 hg9 HO HBC c2
            go_wp2
            go_ret
            exact ⟨_, rfl, by show OY _ _ _ (1 :: (bek cn 8 ++ prl pl ++ ms)); rw [← HP0.out] at HO9; simpa using HO9.out, HB9.out⟩
  | true =>
    have c2 : (w.alloc (.cells #[.int .u8 0] 5)).cell? ⟨rb, 2, none⟩ = some (.bool false) := HX1.out.cell 2
    generalize hW1 : w.alloc (.cells #[.int .u8 0] 5) = W1 at HX1 HO1 HB1 c2
    go_enter Try.func24, Try.ntmps24
    go_wp2_with fail
    clear hW1 c2 HX1
    go_loopw [5, 6] (fun ov iv wr => ∃ k : Nat, k ≤ 8 ∧ iv = .int .i64 (56 - 8 * (k : Int)) ∧ Hid (OY wr w.heap.size ov (0 :: (bek cn 8).take k)) ∧ Hid (Below w.heap.size w wr)) (fun _ iv _ => (intOf iv + 8).toNat)
    case atStart => exact ⟨0, Nat.zero_le _, rfl, HO1, HB1⟩
    case round =>
      clear HO1 HB1
      obtain ⟨k, hk, rfl, HO, HBC⟩ := hrel
      by_cases hk8 : k < 8
      · have hkz : (0 : Int) ≤ 56 - 8 * (k : Int) := by omega
        have c1 : wr.cell? ⟨rb, 1, none⟩ = some (.int .i64 (cn : Int)) := (HX.out.next HBC.out).cell 1
        obtain ⟨q, HQ⟩ : ∃ q : Nat, Hid (cn / 256 ^ (7 - k) = q) := ⟨_, Hid.intro' rfl⟩
        have hcv : (cn : Int) / 2 ^ (56 - 8 * k) % 256 = ((q % 256 : Nat) : Int) := by
          rw [← HQ.out, Int.natCast_emod, Int.natCast_ediv, Int.natCast_pow, show 56 - 8 * k = 8 * (7 - k) by omega, Int.pow_mul]
          rfl
        have HTS : Hid (0 :: (bek cn 8).take (k + 1) = 0 :: (bek cn 8).take k ++ [q % 256]) := by
          show _ = _
          rw [take_snoc (bek_get cn 8 k hk8), show 8 - 1 - k = 7 - k by omega, show (((cn : Int) / 256 ^ (7 - k)) % 256).toNat = q % 256 by
            rw [← HQ.out, show ((cn : Int) / 256 ^ (7 - k)) = ((cn / 256 ^ (7 - k) : Nat) : Int) by rw [Int.natCast_ediv, Int.natCast_pow]; rfl]; omega]
          rfl
        have HLN : Hid ((0 :: (bek cn 8).take k).length ≤ 2000000) := by
          show _ ≤ _
          rw [List.length_cons, List.length_take, bek_length]
          omega
        obtain ⟨P2, HP2⟩ : ∃ P, Hid (0 :: (bek cn 8).take k = P) := ⟨_, Hid.intro' rfl⟩
        rw [HP2.out] at HO HTS HLN
        generalize q % 256 = y at hcv HTS
        have HOA := Hid.intro' (HO.out.alloc (.cells #[.int .u8 (y : Int)] 5))
        have HCX : Hid ((wr.alloc (.cells #[.int .u8 (y : Int)] 5)).cell? ⟨wr.heap.size, 0, none⟩ = some (.int .u8 (y : Int))) := (OY.lit (B := 0) wr [y] (Nat.zero_le _) (by unfold maxLen; simp)).cell (i := 0) rfl
        have HSZ : Hid (w.heap.size ≤ wr.heap.size) := HBC.out.size
        clear HQ
        go_wp2_with (at_builtin; refine wpList_appY rfl _ _ rfl w.heap.size _ P2 rfl HOA.out wr.heap.size 1 y rfl HCX.out HLN.out ?qw ?_)
        case qw => have := HSZ.out; simp; omega
        intro g5 c5 W5 ho5 hg5 hat5 hlt5
        have HO5 := Hid.intro' ho5
        rw [← HTS.out] at HO5
        have HB5 := Hid.intro' ((HBC.out.alloc HSZ.out (.cells #[.int .u8 (y : Int)] 5)).grown hg5 (by have := HSZ.out; simp; omega) (fun q hq => (HO.out.lt q hq).1))
        clear ho5 hg5 hat5 hlt5 HOA HCX HSZ HO HBC c1 HTS HLN
        go_wp2
        go_roundw
        case rel => exact ⟨k + 1, by omega, by go_num, HO5, HB5⟩
        case measure => simp [intOf]; omega
      · have hkz : ¬ (0 : Int) ≤ 56 - 8 * (k : Int) := by omega
        have hk9 : k = 8 := by omega
        have hke : decide ((0 : Int) ≤ 56 - 8 * (k : Int)) = false := decide_eq_false hkz
        have hkd : decide (8 * (k : Int) ≤ 56) = false := decide_eq_false (by omega)
        have ho2 := HO.out
        rw [hk9, List.take_of_length_le (by rw [bek_length]; exact Nat.le_refl _)] at ho2
        have HO2 := Hid.intro' ho2
        have HB2 := HBC
        clear HO HBC hk9 ho2
        obtain ⟨P0, HP0⟩ : ∃ P, Hid (0 :: bek cn 8 = P) := ⟨_, Hid.intro' rfl⟩
        have hP0 : P0.length ≤ 9 := by rw [← HP0.out, List.length_cons, bek_length]; omega
        rw [HP0.out] at HO2
        have c0 : wr.cell? ⟨rb, 0, none⟩ = some (.slice av pl.length kv) := (HX.out.next HB2.out).cell 0
        go_wp2_with fail
        clear c0
        go_loopw [5, 37] (fun ov cv wr => ∃ c : Nat, c ≤ pl.length ∧ cv = .int .i64 (c : Int) ∧ Hid (OY wr w.heap.size ov (P0 ++ prl (pl.take c))) ∧ Hid (Below w.heap.size w wr)) (fun _ cv _ => pl.length - (intOf cv).toNat)
        case atStart => exact ⟨0, Nat.zero_le _, rfl, by rw [List.take_zero]; show Hid (OY _ _ _ (P0 ++ [])); rw [List.append_nil]; exact HO2, HB2⟩
        case round =>
          clear HO2 HB2
          obtain ⟨c, hc, rfl, HO, HBC⟩ := hrel
          by_cases hcc : c < pl.length
          · have hcz : (c : Int) < (pl.length : Int) := by omega
            obtain ⟨l, hl⟩ : ∃ l, pl[c]? = some l := ⟨_, List.getElem?_eq_getElem hcc⟩
            have hlb := hll l (List.mem_of_getElem? hl)
            have hln : l.length ≤ 128 := hlb.1
            have HZB := Hid.intro' hlb.2
            have HL := Hid.intro' hl
            obtain ⟨gp, op, rfl, u, hcu, hru⟩ := HX.out.rl.at hl
            obtain ⟨au, ku, rfl, _, _⟩ := hru.form
            have HRU := Hid.intro' hru
            have cu : wr.cell? ⟨gp, op + c, none⟩ = some (.slice au l.length ku) := (HBC.out.cell (p := ⟨gp, op + c, none⟩) (cell_lt hcu)).trans hcu
            have hcv : IntKind.u8.wrap (l.length : Int) = (l.length : Int) := IntWalk.u8_in _ (by omega)
            have HPR : Hid ((prl (pl.take c)).length ≤ 129 * 8) := by
              show _ ≤ _
              have h1 := prl_len (pl.take c) fun l hl => (hll l (List.mem_of_mem_take hl)).1
              rw [List.length_take] at h1
              omega
            have HOA := Hid.intro' (HO.out.alloc (.cells #[.int .u8 (l.length : Int)] 5))
            have HCX : Hid ((wr.alloc (.cells #[.int .u8 (l.length : Int)] 5)).cell? ⟨wr.heap.size, 0, none⟩ = some (.int .u8 (l.length : Int))) := (OY.lit (B := 0) wr [l.length] (Nat.zero_le _) (by unfold maxLen; simp)).cell (i := 0) rfl
            have HSZ : Hid (w.heap.size ≤ wr.heap.size) := HBC.out.size
            obtain ⟨P1, HP1⟩ : ∃ P, Hid (P0 ++ prl (pl.take c) = P) := ⟨_, Hid.intro' rfl⟩
            have hP1 : P1.length ≤ 2000 := by have := HPR.out; rw [← HP1.out, List.length_append]; omega
            rw [HP1.out] at HO HOA
            clear hl hlb hcu hru HPR
            go_wp2_with (at_builtin; refine wpList_appY rfl _ _ rfl w.heap.size _ P1 rfl HOA.out wr.heap.size 1 l.length rfl HCX.out ?qy ?qw ?_)
            case qy => omega
            case qw => have := HSZ.out; simp; omega
            intro g5 c5 W5 ho5 hg5 hat5 hlt5
            have HO5 := Hid.intro' ho5
            have HB5 := Hid.intro' ((HBC.out.alloc HSZ.out (.cells #[.int .u8 (l.length : Int)] 5)).grown hg5 (by have := HSZ.out; simp; omega) (fun q hq => (HO.out.lt q hq).1))
            clear ho5 hg5 hat5 hlt5 HOA HCX HSZ HO HBC cu
            go_wp2_with fail
            go_loopw [5, 49] (fun ov iv wr => ∃ i : Nat, i ≤ l.length ∧ iv = .int .i64 (i : Int) ∧ Hid (OY wr w.heap.size ov (P1 ++ l.length :: (l.take i).map Int.toNat)) ∧ Hid (Below w.heap.size w wr)) (fun _ iv _ => l.length - (intOf iv).toNat)
            case atStart => exact ⟨0, Nat.zero_le _, rfl, by rw [List.take_zero]; exact HO5, HB5⟩
            case round =>
              clear HO5 HB5
              obtain ⟨i, hi, rfl, HO, HBC⟩ := hrel
              by_cases hil : i < l.length
              · have hiz : (i : Int) < (l.length : Int) := by omega
                obtain ⟨z, hz⟩ : ∃ z, l[i]? = some z := ⟨_, List.getElem?_eq_getElem hil⟩
                have hzb := HZB.out z (List.mem_of_getElem? hz)
                obtain ⟨q, rfl⟩ : ∃ q : Nat, z = (q : Int) := ⟨z.toNat, by omega⟩
                obtain ⟨gi, oi, rfl, hci⟩ := HRU.out.at hz
                have ci : wr.cell? ⟨gi, oi + i, none⟩ = some (.int .i64 (q : Int)) := (HBC.out.cell (p := ⟨gi, oi + i, none⟩) (cell_lt hci)).trans hci
                have hcw : IntKind.u8.wrap (q : Int) = (q : Int) := IntWalk.u8_in _ (by omega)
                have HTS : Hid (P1 ++ l.length :: (l.take (i + 1)).map Int.toNat = P1 ++ l.length :: (l.take i).map Int.toNat ++ [q]) := by
                  show _ = _
                  rw [take_snoc hz, List.map_append]
                  simp
                have HLN : Hid ((P1 ++ l.length :: (l.take i).map Int.toNat).length ≤ 2000000) := by
                  show _ ≤ _
                  rw [List.length_append, List.length_cons, List.length_map, List.length_take]
                  omega
                obtain ⟨P2, HP2⟩ : ∃ P, Hid (P1 ++ l.length :: (l.take i).map Int.toNat = P) := ⟨_, Hid.intro' rfl⟩
                rw [HP2.out] at HO HTS HLN
                have HOA := Hid.intro' (HO.out.alloc (.cells #[.int .u8 (q : Int)] 5))
                have HCX : Hid ((wr.alloc (.cells #[.int .u8 (q : Int)] 5)).cell? ⟨wr.heap.size, 0, none⟩ = some (.int .u8 (q : Int))) := (OY.lit (B := 0) wr [q] (Nat.zero_le _) (by unfold maxLen; simp)).cell (i := 0) rfl
                have HSZ : Hid (w.heap.size ≤ wr.heap.size) := HBC.out.size
                clear hz hzb hci
                go_wp2_with (at_builtin; refine wpList_appY rfl _ _ rfl w.heap.size _ P2 rfl HOA.out wr.heap.size 1 q rfl HCX.out HLN.out ?qw ?_)
                case qw => have := HSZ.out; simp; omega
                intro g5 c5 W5 ho5 hg5 hat5 hlt5
                have HO5 := Hid.intro' ho5
                rw [← HTS.out] at HO5
                have HB5 := Hid.intro' ((HBC.out.alloc HSZ.out (.cells #[.int .u8 (q : Int)] 5)).grown hg5 (by have := HSZ.out; simp; omega) (fun q hq => (HO.out.lt q hq).1))
                clear ho5 hg5 hat5 hlt5 HOA HCX HSZ HO HBC ci HTS HLN
                go_wp2
                go_roundw
                case rel => exact ⟨i + 1, by omega, by go_num, HO5, HB5⟩
                case measure => simp [intOf]; omega
              · have hiz : ¬ (i : Int) < (l.length : Int) := by omega
                have HE : Hid (P1 ++ l.length :: (l.take i).map Int.toNat = P0 ++ prl (pl.take (c + 1))) := by
                  show _ = _
                  rw [take_snoc HL.out, prl_snoc, ← List.append_assoc, HP1.out, List.take_of_length_le (by omega)]
                rw [HE.out] at HO
                go_wp2
                go_roundw
                case rel => exact ⟨c + 1, by omega, by go_num, HO, HBC⟩
                case measure => simp [intOf]; omega
          · have hcz : ¬ (c : Int) < (pl.length : Int) := by omega
            have hce : pl.take c = pl := List.take_of_length_le (by omega)
            rw [hce] at HO
            have HXW := Hid.intro' (HX.out.next HBC.out)
            have HSZ : Hid (w.heap.size ≤ wr.heap.size) := HBC.out.size
            have c2 : wr.cell? ⟨rb, 2, none⟩ = some (.bool false) := HXW.out.cell 2
            clear hce HXW
            go_wp2
            go_ret
            exact ⟨_, rfl, by show OY _ _ _ (0 :: (bek cn 8 ++ prl pl ++ [])); rw [← HP0.out] at HO; simpa using HO.out, HBC.out⟩
end Go.Proofs.Ytagmidolcdefiah
