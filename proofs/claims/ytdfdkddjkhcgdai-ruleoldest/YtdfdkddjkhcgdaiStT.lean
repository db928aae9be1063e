/- Two parts in order are made one: where the second one has one alone. -/
import Derived.Test.YtdfdkddjkhcgdaiStS
namespace Go.Proofs.Ytdfdkddjkhcgdai
open Go.RowKit Go.Shelf

set_option maxRecDepth 100000 in
set_option maxHeartbeats 8000000 in
theorem sym_last (w : World) (B g cap n : Nat) (A X D : List Int) (q : Int) (v1 v2 : Value) (k : Int → Int) (ok : Int → Prop) (a m b : Nat) (ha : a = A.length) (hm : m = a + X.length) (hb : b = m + 1) (hX2 : 1 < X.length) (hn : n ≤ 1000) (hX : SO.Sd k X) (hT : SO.Tt k X [q]) (hq : ok q) (ho : ∀ x ∈ X, ok x) (hc : Ck v1 v2 k ok w g) (W : World) (h : Srt w W B g cap n (A ++ X ++ [q] ++ D)) :
    Calls Try.prog 36 #[.slice (some ⟨g, 0, none⟩) n cap, .int .i64 (a : Int), .int .i64 (m : Int), .int .i64 (b : Int), .func (.func 18) #[] #[v1, v2]] W fun e W' => e = .returned (.tuple #[]) ∧ ∃ M, M.Perm (X ++ [q]) ∧ SO.Sd k M ∧ Srt w W' B g cap n (A ++ M ++ D) := by
  have hbn : b ≤ n := by
    have := h.len
    simp only [List.length_append, List.length_singleton] at this
    omega
  have HO := Hid.intro' (And.intro hq ho)
  have HC := Hid.intro' hc
  have HY := Hid.intro' (And.intro hX hT)
  obtain ⟨R, HR⟩ : ∃ R : World → Prop, Hid (R = fun W' => ∃ M, M.Perm (X ++ [q]) ∧ SO.Sd k M ∧ Srt w W' B g cap n (A ++ M ++ D)) := ⟨_, rfl⟩
  have hgoal : (fun (e : Ending) W' => e = .returned (.tuple #[]) ∧ ∃ M, M.Perm (X ++ [q]) ∧ SO.Sd k M ∧ Srt w W' B g cap n (A ++ M ++ D)) = fun e W' => e = .returned (.tuple #[]) ∧ R W' := by rw [HR.out]
  rw [hgoal]
  obtain ⟨L, HL⟩ : ∃ L, Hid (A ++ X ++ [q] ++ D = L) := ⟨_, Hid.intro' rfl⟩
  rw [HL.out] at h
  have HA : Hid (a = A.length ∧ m = a + X.length ∧ b = m + 1) := ⟨ha, hm, hb⟩
  obtain ⟨x0, hx0⟩ : ∃ x0, x0 = X.length := ⟨_, rfl⟩
  have e1 : (m : Int) - (a : Int) = (x0 : Int) := by omega
  have hx1 : ((x0 : Int) == 1) = false := by simp; omega
  have hx2 : ¬ (x0 : Int) = 1 := by omega
  have hx3 : ¬ x0 = 1 := by omega
  have e2 : (b : Int) - (m : Int) = 1 := by omega
  have hmb : m < b := by omega
  have ham : a ≤ m := by omega
  have H0 : Hid (B2 k q X a a m ∧ Srt w W B g cap n L) := ⟨by rw [hm]; exact B2.first, h⟩
  have HLQ : Hid (L[m]? = some q) := by
    show _ = _
    rw [← HL.out, hm, ha]
    exact row_y (t := 0) rfl
  have hx4 : x0 ≤ 1000 := by omega
  clear hgoal ho hc hX hT hq h ha hm hb hX2 hx0
  go_enter Try.func36, Try.ntmps36
  go_wp2_with fail
  clear e1 e2
  go_loopw [14, 15] (fun iv jv wr => ∃ (i j : Nat), iv = .int .i64 (i : Int) ∧ jv = .int .i64 (j : Int) ∧ a ≤ i ∧ i ≤ j ∧ j ≤ m ∧ Hid (B2 k q X a i j ∧ Srt w wr B g cap n L)) (fun iv jv _ => (intOf jv).toNat - (intOf iv).toNat)
  case atStart => exact ⟨a, m, rfl, rfl, Nat.le_refl _, ham, Nat.le_refl _, H0⟩
  case round =>
    clear H0
    obtain ⟨i, j, rfl, rfl, hmi, hij, hjb, HQ⟩ := hrel
    by_cases hlt : i < j
    · have hlz : (i : Int) < (j : Int) := by omega
      obtain ⟨h, hh⟩ : ∃ h, h = (i + j) / 2 := ⟨_, rfl⟩
      have eh : ((i : Int) + (j : Int)) / 2 = (h : Int) := by omega
      have hih : i ≤ h := by omega
      have hhj : h < j := by omega
      have hhn : h < n := by omega
      have han : m < n := by omega
      obtain ⟨z, hz⟩ : ∃ z, X[h - a]? = some z := ⟨_, List.getElem?_eq_getElem (by have := HA.out; omega)⟩
      have HZ := Hid.intro' hz
      have HLZ : Hid (L[h]? = some z) := by
        show _ = _
        have := row_x (A := A) (Y := [q]) (D := D) hz
        rw [HL.out] at this
        rw [← this]
        congr 1
        have := HA.out
        omega
      have CH : Hid (∀ w', Below wr.heap.size wr w' → w'.cell? ⟨g, h, none⟩ = some (.int .i64 z)) := fun w' hw => (HQ.out.2.next hw).cell HLZ.out
      have CA : Hid (∀ w', Below wr.heap.size wr w' → w'.cell? ⟨g, m, none⟩ = some (.int .i64 q)) := fun w' hw => (HQ.out.2.next hw).cell HLQ.out
      have HCL : Hid (∀ w', Below wr.heap.size wr w' → Calls Try.prog 18 #[.int .i64 q, .int .i64 z, v1, v2] w' fun e w'' => e = .returned (.int .i64 (cm3 (k q) (k z))) ∧ Below w'.heap.size w' w'') := fun w' hw =>
        HC.out w' q z (HQ.out.2.kp.thenBelow hw) HO.out.1 (HO.out.2 z (List.mem_of_getElem? hz))
      clear hh hz
      by_cases hlk : k q < k z
      · rw [cm3_lt hlk] at HCL
        have HB2 := Hid.intro' (HQ.out.1.down HY.out.1 HZ.out hlk)
        clear hlk
        go_wp2_with fail
        refine wp_region_quiet (C := fun w' => Below wr.heap.size wr w') (by kernel_rfl) (by kernel_rfl) ((Below.refl _ _).drew) ?_
        simp only []
        unfold wpQuiet
        generalize hK : wpQuiet Try.prog _ _ _ _ = K
        go_simp
        refine ⟨_, fun _ _ => rfl, ?_⟩
        subst hK
        unfold wpQuiet
        generalize hK : wpQuiet Try.prog _ _ _ _ = K
        go_simp
        refine ⟨_, fun _ _ => rfl, ?_⟩
        subst hK
        unfold wpQuiet
        generalize hK : wpQuiet Try.prog _ _ _ _ = K
        go_simp
        refine ⟨_, fun _ _ => rfl, ?_⟩
        subst hK
        unfold wpQuiet
        generalize hK : wpQuiet Try.prog _ _ _ _ = K
        rw [if_pos (by go_simp)]
        refine quiet_ixI _ _ rfl rfl rfl han ?_
        go_simp
        subst hK
        unfold wpQuiet
        generalize hK : wpQuiet Try.prog _ _ _ _ = K
        rw [if_pos (by go_simp)]
        refine quiet_load3 _ _ _ rfl rfl CA.out ?_
        go_simp
        subst hK
        unfold wpQuiet
        generalize hK : wpQuiet Try.prog _ _ _ _ = K
        go_simp
        refine ⟨_, fun _ _ => rfl, ?_⟩
        subst hK
        unfold wpQuiet
        generalize hK : wpQuiet Try.prog _ _ _ _ = K
        go_simp
        refine ⟨_, fun _ _ => rfl, ?_⟩
        subst hK
        unfold wpQuiet
        generalize hK : wpQuiet Try.prog _ _ _ _ = K
        rw [if_pos (by go_simp)]
        refine quiet_ixI _ _ rfl rfl rfl hhn ?_
        go_simp
        subst hK
        unfold wpQuiet
        generalize hK : wpQuiet Try.prog _ _ _ _ = K
        rw [if_pos (by go_simp)]
        refine quiet_load3 _ _ _ rfl rfl CH.out ?_
        go_simp
        subst hK
        unfold wpQuiet
        generalize hK : wpQuiet Try.prog _ _ _ _ = K
        go_simp
        refine ⟨_, fun w' hw => (HCL.out w' hw).mono fun e w'' hh => ⟨hh.1, below_class hw hh.2⟩, ?_⟩
        subst hK
        unfold wpQuiet
        generalize hK : wpQuiet Try.prog _ _ _ _ = K
        go_simp
        refine ⟨_, fun _ _ => rfl, ?_⟩
        subst hK
        unfold wpQuiet
        generalize hK : wpQuiet Try.prog _ _ _ _ = K
        go_simp
        refine ⟨_, fun _ _ => rfl, ?_⟩
        subst hK
        refine wpQuiet_nil ?_
        intro W3 hb3
        have HS3 := Hid.intro' (HQ.out.2.next hb3)
        clear hb3 HQ CH CA HCL HLZ HZ
        go_wp2
        go_roundw
        case rel => exact ⟨i, h, rfl, by go_num, by omega, by omega, by omega, HB2.out, HS3.out⟩
        case measure => simp [intOf]; omega
      · obtain ⟨c, hc1, hc2⟩ := cm3_ge hlk
        rw [hc1] at HCL
        have HB2 := Hid.intro' (HQ.out.1.up HY.out.1 (by omega) HZ.out hlk)
        have hc3 : decide (c < 0) = false := decide_eq_false hc2
        clear hlk hc1
        go_wp2_with fail
        refine wp_region_quiet (C := fun w' => Below wr.heap.size wr w') (by kernel_rfl) (by kernel_rfl) ((Below.refl _ _).drew) ?_
        simp only []
        unfold wpQuiet
        generalize hK : wpQuiet Try.prog _ _ _ _ = K
        go_simp
        refine ⟨_, fun _ _ => rfl, ?_⟩
        subst hK
        unfold wpQuiet
        generalize hK : wpQuiet Try.prog _ _ _ _ = K
        go_simp
        refine ⟨_, fun _ _ => rfl, ?_⟩
        subst hK
        unfold wpQuiet
        generalize hK : wpQuiet Try.prog _ _ _ _ = K
        go_simp
        refine ⟨_, fun _ _ => rfl, ?_⟩
        subst hK
        unfold wpQuiet
        generalize hK : wpQuiet Try.prog _ _ _ _ = K
        rw [if_pos (by go_simp)]
        refine quiet_ixI _ _ rfl rfl rfl han ?_
        go_simp
        subst hK
        unfold wpQuiet
        generalize hK : wpQuiet Try.prog _ _ _ _ = K
        rw [if_pos (by go_simp)]
        refine quiet_load3 _ _ _ rfl rfl CA.out ?_
        go_simp
        subst hK
        unfold wpQuiet
        generalize hK : wpQuiet Try.prog _ _ _ _ = K
        go_simp
        refine ⟨_, fun _ _ => rfl, ?_⟩
        subst hK
        unfold wpQuiet
        generalize hK : wpQuiet Try.prog _ _ _ _ = K
        go_simp
        refine ⟨_, fun _ _ => rfl, ?_⟩
        subst hK
        unfold wpQuiet
        generalize hK : wpQuiet Try.prog _ _ _ _ = K
        rw [if_pos (by go_simp)]
        refine quiet_ixI _ _ rfl rfl rfl hhn ?_
        go_simp
        subst hK
        unfold wpQuiet
        generalize hK : wpQuiet Try.prog _ _ _ _ = K
        rw [if_pos (by go_simp)]
        refine quiet_load3 _ _ _ rfl rfl CH.out ?_
        go_simp
        subst hK
        unfold wpQuiet
        generalize hK : wpQuiet Try.prog _ _ _ _ = K
        go_simp
        refine ⟨_, fun w' hw => (HCL.out w' hw).mono fun e w'' hh => ⟨hh.1, below_class hw hh.2⟩, ?_⟩
        subst hK
        unfold wpQuiet
        generalize hK : wpQuiet Try.prog _ _ _ _ = K
        go_simp
        refine ⟨_, fun _ _ => rfl, ?_⟩
        subst hK
        unfold wpQuiet
        generalize hK : wpQuiet Try.prog _ _ _ _ = K
        go_simp
        refine ⟨_, fun _ _ => rfl, ?_⟩
        subst hK
        refine wpQuiet_nil ?_
        intro W3 hb3
        have HS3 := Hid.intro' (HQ.out.2.next hb3)
        clear hb3 HQ CH CA HCL HLZ HZ
        go_wp2
        go_roundw
        case rel => exact ⟨h + 1, j, by go_num, rfl, by omega, by omega, hjb, HB2.out, HS3.out⟩
        case measure => simp [intOf]; omega
    · have hlz : ¬ (i : Int) < (j : Int) := by omega
      obtain rfl : i = j := by omega
      have HB : Hid (B2 k q X a i i) := HQ.out.1
      have HS : Hid (Srt w wr B g cap n (A ++ SO.ins X X.length q ++ D)) := by
        have := HQ.out.2
        rw [← HL.out] at this
        show Srt w wr B g cap n _
        rw [SO.ins_end]
        simpa using this
      clear HQ
      go_wp2_with fail
      rename World => Wr
      go_loopw [17] (fun kv wr => ∃ (c s : Nat), kv = .int .i64 (c : Int) ∧ c = a + s ∧ i ≤ c ∧ c ≤ m ∧ Hid (Srt w wr B g cap n (A ++ SO.ins X s q ++ D))) (fun kv _ => (intOf kv).toNat)
      case atStart => exact ⟨m, X.length, rfl, HA.out.2.1, by omega, Nat.le_refl _, HS⟩
      case round =>
        clear HS
        obtain ⟨c, s, rfl, hcs, hic, hcm, HS⟩ := hrel
        by_cases hlt2 : i < c
        · have hcz : (i : Int) < (c : Int) := by omega
          obtain ⟨s, rfl⟩ : ∃ s', s = s' + 1 := ⟨s - 1, by omega⟩
          obtain ⟨z, _, htw⟩ := SO.ins_down (A := A) (B := D) (q := q) (t := s) (Z := X) (by have := HA.out; omega)
          obtain ⟨c1, hc1⟩ : ∃ c1, c1 = a + s := ⟨_, rfl⟩
          rw [← HA.out.1, ← hc1, show c1 + 1 = c by omega] at htw
          have HTW := Hid.intro' htw
          have hcn : c < n := by omega
          have ec : (c : Int) - 1 = (c1 : Int) := by omega
          have hwc : IntKind.i64.wrap (c1 : Int) = (c1 : Int) := by rw [IntKind.wrap_i64]; omega
          have hc1n : c1 < n := by omega
          have cp := HS.out.cell HTW.out.hi
          have cq := HS.out.cell HTW.out.hj
          have fp := HS.out.fr c
          have fq := HS.out.fr c1
          have HN := Hid.intro' ((HS.out.tw HTW.out).next (Below.refl _ _).drew)
          have HC1 : Hid (c1 = a + s ∧ i ≤ c1 ∧ c1 ≤ m ∧ c = c1 + 1) := ⟨hc1, by omega, by omega, by omega⟩
          clear HS htw hcs hc1
          go_wp2_with fail
          go_big_region
          all_goals go_wp2
          go_roundw
          case rel => exact ⟨c1, s, by go_num, HC1.out.1, HC1.out.2.1, HC1.out.2.2.1, HN⟩
          case measure => simp [intOf]; have := HC1.out; omega
        · have hcz : ¬ (i : Int) < (c : Int) := by omega
          have H3 : Hid (R wr) := by
            show R wr
            rw [HR.out]
            have hst : s = i - a := by omega
            subst hst
            refine ⟨SO.ins X (i - a) q, SO.ins_perm.trans (List.perm_append_comm (l₁ := [q])), SO.mrg_last HY.out.1 HY.out.2 HB.out.lo HB.out.hi, HS.out⟩
          clear HS hcs
          go_wp2
          refine bodyPost_ret (results_none rfl _ _ _) rfl ?_
          exact ⟨rfl, H3.out⟩

end Go.Proofs.Ytdfdkddjkhcgdai
