/- Two parts in order are made one: where the first one has one alone. -/
import Derived.Test.YtdfdkddjkhcgdahStI
import Derived.Test.YtdfdkddjkhcgdahStR
namespace Go.Proofs.Ytdfdkddjkhcgdah
open Go.RowKit Go.Shelf

section
variable {A X Y D : List Int} {t : Nat} {z : Int}
theorem row_x (h : X[t]? = some z) : (A ++ X ++ Y ++ D)[A.length + t]? = some z := by
  have ht := (List.getElem?_eq_some_iff.1 h).1
  rw [List.append_assoc, List.append_assoc, List.getElem?_append_right (by omega), show A.length + t - A.length = t by omega, List.getElem?_append_left ht, h]
theorem row_y (h : Y[t]? = some z) : (A ++ X ++ Y ++ D)[A.length + X.length + t]? = some z := by
  have ht := (List.getElem?_eq_some_iff.1 h).1
  rw [List.append_assoc, List.getElem?_append_right (by rw [List.length_append]; omega), List.length_append, show A.length + X.length + t - (A.length + X.length) = t by omega, List.getElem?_append_left ht, h]
end
/-- what is known of a place that is looked for: the first one of Z whose key isn't less -/
structure B1 (k : Int → Int) (q : Int) (Z : List Int) (m i j : Nat) : Prop where
  lo : ∀ z ∈ Z.take (i - m), k z < k q
  hi : ∀ z ∈ Z.drop (j - m), k q ≤ k z
section
variable {k : Int → Int} {q z : Int} {Z : List Int} {m i j h : Nat}
theorem B1.first : B1 k q Z m m (m + Z.length) := ⟨fun z hz => by simp at hz, fun z hz => by rw [List.drop_of_length_le (by omega)] at hz; simp at hz⟩
theorem B1.up (b : B1 k q Z m i j) (hz : SO.Sd k Z) (hm : m ≤ h) (e : Z[h - m]? = some z) (hl : k z < k q) : B1 k q Z m (h + 1) j :=
  ⟨fun y hy => by have := hz.take_le e y (by rwa [show h - m + 1 = h + 1 - m by omega]); omega, b.hi⟩
theorem B1.down (b : B1 k q Z m i j) (hz : SO.Sd k Z) (e : Z[h - m]? = some z) (hl : ¬ k z < k q) : B1 k q Z m i h :=
  ⟨b.lo, fun y hy => by have := hz.drop_le e y hy; omega⟩
end
/-- the same: the first one whose key is greater -/
structure B2 (k : Int → Int) (q : Int) (Z : List Int) (m i j : Nat) : Prop where
  lo : ∀ z ∈ Z.take (i - m), k z ≤ k q
  hi : ∀ z ∈ Z.drop (j - m), k q < k z
section
variable {k : Int → Int} {q z : Int} {Z : List Int} {m i j h : Nat}
theorem B2.first : B2 k q Z m m (m + Z.length) := ⟨fun z hz => by simp at hz, fun z hz => by rw [List.drop_of_length_le (by omega)] at hz; simp at hz⟩
theorem B2.up (b : B2 k q Z m i j) (hz : SO.Sd k Z) (hm : m ≤ h) (e : Z[h - m]? = some z) (hl : ¬ k q < k z) : B2 k q Z m (h + 1) j :=
  ⟨fun y hy => by have := hz.take_le e y (by rwa [show h - m + 1 = h + 1 - m by omega]); omega, b.hi⟩
theorem B2.down (b : B2 k q Z m i j) (hz : SO.Sd k Z) (e : Z[h - m]? = some z) (hl : k q < k z) : B2 k q Z m i h :=
  ⟨b.lo, fun y hy => by have := hz.drop_le e y hy; omega⟩
end

set_option maxRecDepth 100000 in
set_option maxHeartbeats 8000000 in
theorem sym_one (w : World) (B g cap n : Nat) (A Y D : List Int) (q : Int) (v1 v2 : Value) (k : Int → Int) (ok : Int → Prop) (a m b : Nat) (ha : a = A.length) (hm : m = a + 1) (hb : b = m + Y.length) (hn : n ≤ 1000) (hY : SO.Sd k Y) (hT : SO.Tt k [q] Y) (hq : ok q) (ho : ∀ x ∈ Y, ok x) (hc : Ck v1 v2 k ok w g) (W : World) (h : Srt w W B g cap n (A ++ [q] ++ Y ++ D)) :
    Calls Try.prog 98 #[.slice (some ⟨g, 0, none⟩) n cap, .int .i64 (a : Int), .int .i64 (m : Int), .int .i64 (b : Int), .func (.func 42) #[] #[v1, v2]] W fun e W' => e = .returned (.tuple #[]) ∧ ∃ M, M.Perm ([q] ++ Y) ∧ SO.Sd k M ∧ Srt w W' B g cap n (A ++ M ++ D) := by
  have hbn : b ≤ n := by
    have := h.len
    simp only [List.length_append, List.length_singleton] at this
    omega
  have HO := Hid.intro' (And.intro hq ho)
  have HC := Hid.intro' hc
  have HY := Hid.intro' (And.intro hY hT)
  obtain ⟨R, HR⟩ : ∃ R : World → Prop, Hid (R = fun W' => ∃ M, M.Perm ([q] ++ Y) ∧ SO.Sd k M ∧ Srt w W' B g cap n (A ++ M ++ D)) := ⟨_, rfl⟩
  have hgoal : (fun (e : Ending) W' => e = .returned (.tuple #[]) ∧ ∃ M, M.Perm ([q] ++ Y) ∧ SO.Sd k M ∧ Srt w W' B g cap n (A ++ M ++ D)) = fun e W' => e = .returned (.tuple #[]) ∧ R W' := by rw [HR.out]
  rw [hgoal]
  obtain ⟨L, HL⟩ : ∃ L, Hid (A ++ [q] ++ Y ++ D = L) := ⟨_, Hid.intro' rfl⟩
  rw [HL.out] at h
  have HA : Hid (a = A.length ∧ m = a + 1 ∧ b = m + Y.length) := ⟨ha, hm, hb⟩
  have e1 : (m : Int) - (a : Int) = 1 := by omega
  have hmb : m ≤ b := by omega
  have ham : a < m := by omega
  have H0 : Hid (B1 k q Y m m b ∧ Srt w W B g cap n L) := ⟨by rw [hb]; exact B1.first, h⟩
  have HLQ : Hid (L[a]? = some q) := by
    show _ = _
    rw [← HL.out, ha]
    exact row_x (t := 0) rfl
  clear hgoal ho hc hY hT hq h ha hm hb
  go_enter Try.func98, Try.ntmps98
  go_wp2_with fail
  clear e1
  go_loopw [10, 11] (fun iv jv wr => ∃ (i j : Nat), iv = .int .i64 (i : Int) ∧ jv = .int .i64 (j : Int) ∧ m ≤ i ∧ i ≤ j ∧ j ≤ b ∧ Hid (B1 k q Y m i j ∧ Srt w wr B g cap n L)) (fun iv jv _ => (intOf jv).toNat - (intOf iv).toNat)
  case atStart => exact ⟨m, b, rfl, rfl, Nat.le_refl _, hmb, Nat.le_refl _, H0⟩
  case round =>
    clear H0
    obtain ⟨i, j, rfl, rfl, hmi, hij, hjb, HQ⟩ := hrel
    by_cases hlt : i < j
    · have hlz : (i : Int) < (j : Int) := by omega
      obtain ⟨h, hh⟩ : ∃ h, h = (i + j) / 2 := ⟨_, rfl⟩
      have eh : ((i : Int) + (j : Int)) / 2 = (h : Int) := by omega
      have hih : i ≤ h := by omega
      have hhj : h < j := by omega
      have hhn : h < n := by omega
      have han : a < n := by omega
      obtain ⟨z, hz⟩ : ∃ z, Y[h - m]? = some z := ⟨_, List.getElem?_eq_getElem (by have := HA.out; omega)⟩
      have HZ := Hid.intro' hz
      have HLZ : Hid (L[h]? = some z) := by
        show _ = _
        have := row_y (A := A) (X := [q]) (D := D) hz
        rw [HL.out, List.length_singleton] at this
        rw [← this]
        congr 1
        have := HA.out
        omega
      have CH : Hid (∀ w', Below wr.heap.size wr w' → w'.cell? ⟨g, h, none⟩ = some (.int .i64 z)) := fun w' hw => (HQ.out.2.next hw).cell HLZ.out
      have CA : Hid (∀ w', Below wr.heap.size wr w' → w'.cell? ⟨g, a, none⟩ = some (.int .i64 q)) := fun w' hw => (HQ.out.2.next hw).cell HLQ.out
      have HCL : Hid (∀ w', Below wr.heap.size wr w' → Calls Try.prog 42 #[.int .i64 z, .int .i64 q, v1, v2] w' fun e w'' => e = .returned (.int .i64 (cm3 (k z) (k q))) ∧ Below w'.heap.size w' w'') := fun w' hw =>
        HC.out w' z q (HQ.out.2.kp.thenBelow hw) (HO.out.2 z (List.mem_of_getElem? hz)) HO.out.1
      clear hh hz
      by_cases hlk : k z < k q
      · rw [cm3_lt hlk] at HCL
        have HB2 := Hid.intro' (HQ.out.1.up HY.out.1 (by omega) HZ.out hlk)
        clear hlk
        go_wp2_with fail
        refine wp_region_quiet (C := fun w' => Below wr.heap.size wr w') (by kernel_rfl) (by kernel_rfl) ((Below.refl _ _).drew) ?_
        simp only []
        unfold wpQuiet
        generalize hK : wpQuiet Try.prog _ _ _ _ = K
        go_simp
        refine ⟨_, fun _ _ => rfl, ?_⟩
        subst hK
        unfold wpQuiet
        generalize hK : wpQuiet Try.prog _ _ _ _ = K
        go_simp
        refine ⟨_, fun _ _ => rfl, ?_⟩
        subst hK
        unfold wpQuiet
        generalize hK : wpQuiet Try.prog _ _ _ _ = K
        go_simp
        refine ⟨_, fun _ _ => rfl, ?_⟩
        subst hK
        unfold wpQuiet
        generalize hK : wpQuiet Try.prog _ _ _ _ = K
        rw [if_pos (by go_simp)]
        refine quiet_ixI _ _ rfl rfl rfl hhn ?_
        go_simp
        subst hK
        unfold wpQuiet
        generalize hK : wpQuiet Try.prog _ _ _ _ = K
        rw [if_pos (by go_simp)]
        refine quiet_load3 _ _ _ rfl rfl CH.out ?_
        go_simp
        subst hK
        unfold wpQuiet
        generalize hK : wpQuiet Try.prog _ _ _ _ = K
        go_simp
        refine ⟨_, fun _ _ => rfl, ?_⟩
        subst hK
        unfold wpQuiet
        generalize hK : wpQuiet Try.prog _ _ _ _ = K
        go_simp
        refine ⟨_, fun _ _ => rfl, ?_⟩
        subst hK
        unfold wpQuiet
        generalize hK : wpQuiet Try.prog _ _ _ _ = K
        rw [if_pos (by go_simp)]
        refine quiet_ixI _ _ rfl rfl rfl han ?_
        go_simp
        subst hK
        unfold wpQuiet
        generalize hK : wpQuiet Try.prog _ _ _ _ = K
        rw [if_pos (by go_simp)]
        refine quiet_load3 _ _ _ rfl rfl CA.out ?_
        go_simp
        subst hK
        unfold wpQuiet
        generalize hK : wpQuiet Try.prog _ _ _ _ = K
        go_simp
        refine ⟨_, fun w' hw => (HCL.out w' hw).mono fun e w'' hh => ⟨hh.1, below_class hw hh.2⟩, ?_⟩
        subst hK
        unfold wpQuiet
        generalize hK : wpQuiet Try.prog _ _ _ _ = K
        go_simp
        refine ⟨_, fun _ _ => rfl, ?_⟩
        subst hK
        refine wpQuiet_nil ?_
        intro W3 hb3
        have HS3 := Hid.intro' (HQ.out.2.next hb3)
        clear hb3 HQ CH CA HCL HLZ HZ
        go_wp2
        go_roundw
        case rel => exact ⟨h + 1, j, by go_num, rfl, by omega, by omega, hjb, HB2.out, HS3.out⟩
        case measure => simp [intOf]; omega
      · obtain ⟨c, hc1, hc2⟩ := cm3_ge hlk
        rw [hc1] at HCL
        have HB2 := Hid.intro' (HQ.out.1.down HY.out.1 HZ.out hlk)
        clear hlk hc1
        go_wp2_with fail
        refine wp_region_quiet (C := fun w' => Below wr.heap.size wr w') (by kernel_rfl) (by kernel_rfl) ((Below.refl _ _).drew) ?_
        simp only []
        unfold wpQuiet
        generalize hK : wpQuiet Try.prog _ _ _ _ = K
        go_simp
        refine ⟨_, fun _ _ => rfl, ?_⟩
        subst hK
        unfold wpQuiet
        generalize hK : wpQuiet Try.prog _ _ _ _ = K
        go_simp
        refine ⟨_, fun _ _ => rfl, ?_⟩
        subst hK
        unfold wpQuiet
        generalize hK : wpQuiet Try.prog _ _ _ _ = K
        go_simp
        refine ⟨_, fun _ _ => rfl, ?_⟩
        subst hK
        unfold wpQuiet
        generalize hK : wpQuiet Try.prog _ _ _ _ = K
        rw [if_pos (by go_simp)]
        refine quiet_ixI _ _ rfl rfl rfl hhn ?_
        go_simp
        subst hK
        unfold wpQuiet
        generalize hK : wpQuiet Try.prog _ _ _ _ = K
        rw [if_pos (by go_simp)]
        refine quiet_load3 _ _ _ rfl rfl CH.out ?_
        go_simp
        subst hK
        unfold wpQuiet
        generalize hK : wpQuiet Try.prog _ _ _ _ = K
        go_simp
        refine ⟨_, fun _ _ => rfl, ?_⟩
        subst hK
        unfold wpQuiet
        generalize hK : wpQuiet Try.prog _ _ _ _ = K
        go_simp
        refine ⟨_, fun _ _ => rfl, ?_⟩
        subst hK
        unfold wpQuiet
        generalize hK : wpQuiet Try.prog _ _ _ _ = K
        rw [if_pos (by go_simp)]
        refine quiet_ixI _ _ rfl rfl rfl han ?_
        go_simp
        subst hK
        unfold wpQuiet
        generalize hK : wpQuiet Try.prog _ _ _ _ = K
        rw [if_pos (by go_simp)]
        refine quiet_load3 _ _ _ rfl rfl CA.out ?_
        go_simp
        subst hK
        unfold wpQuiet
        generalize hK : wpQuiet Try.prog _ _ _ _ = K
        go_simp
        refine ⟨_, fun w' hw => (HCL.out w' hw).mono fun e w'' hh => ⟨hh.1, below_class hw hh.2⟩, ?_⟩
        subst hK
        unfold wpQuiet
        generalize hK : wpQuiet Try.prog _ _ _ _ = K
        go_simp
        refine ⟨_, fun _ _ => rfl, ?_⟩
        subst hK
        refine wpQuiet_nil ?_
        intro W3 hb3
        have HS3 := Hid.intro' (HQ.out.2.next hb3)
        clear hb3 HQ CH CA HCL HLZ HZ
        go_wp2
        go_roundw
        case rel => exact ⟨i, h, rfl, by go_num, by omega, by omega, by omega, HB2.out, HS3.out⟩
        case measure => simp [intOf]; omega
    · have hlz : ¬ (i : Int) < (j : Int) := by omega
      obtain rfl : i = j := by omega
      obtain ⟨t0, ht0⟩ : ∃ t0, t0 = i - m := ⟨_, rfl⟩
      obtain ⟨i1, hi1⟩ : ∃ i1, i1 = a + t0 := ⟨_, rfl⟩
      have hm1 := HA.out.2.1
      have ei : (i : Int) - 1 = (i1 : Int) := by omega
      have htY : t0 ≤ Y.length := by have := HA.out; omega
      have HB : Hid (B1 k q Y m i i) := HQ.out.1
      have HS : Hid (Srt w wr B g cap n (A ++ SO.ins Y 0 q ++ D)) := by
        have := HQ.out.2
        rw [← HL.out] at this
        show Srt w wr B g cap n _
        rw [SO.ins_zero]
        simpa using this
      have HT0 := Hid.intro' (And.intro ht0 hi1)
      have hai : a ≤ i1 := by omega
      have hin : i1 < n := by omega
      clear HQ ht0 hi1 hm1
      go_wp2_with fail
      rename World => Wr
      go_loopw [13] (fun kv wr => ∃ (c s : Nat), kv = .int .i64 (c : Int) ∧ c = a + s ∧ c ≤ i1 ∧ Hid (Srt w wr B g cap n (A ++ SO.ins Y s q ++ D))) (fun kv _ => i1 - (intOf kv).toNat)
      case atStart => exact ⟨a, 0, rfl, rfl, hai, HS⟩
      case round =>
        clear HS
        obtain ⟨c, s, rfl, hcs, hci, HS⟩ := hrel
        by_cases hlt2 : c < i1
        · have hcz : (c : Int) < (i1 : Int) := by omega
          obtain ⟨z, _, htw⟩ := SO.ins_up (A := A) (B := D) (q := q) (t := s) (Z := Y) (by have := HT0.out; omega)
          rw [← HA.out.1, ← hcs] at htw
          have HTW := Hid.intro' htw
          have hcn : c < n := by omega
          have hcn1 : (c : Int) + 1 < (n : Int) := by omega
          obtain ⟨c1, hc1⟩ : ∃ c1, c1 = c + 1 := ⟨_, rfl⟩
          rw [← hc1] at HTW
          have ec : (c : Int) + 1 = (c1 : Int) := by omega
          have hwc : IntKind.i64.wrap (c1 : Int) = (c1 : Int) := by rw [IntKind.wrap_i64]; omega
          have hc1n : c1 < n := by omega
          have cp := HS.out.cell HTW.out.hi
          have cq := HS.out.cell HTW.out.hj
          have fp := HS.out.fr c
          have fq := HS.out.fr c1
          have HN := Hid.intro' ((HS.out.tw HTW.out).next (Below.refl _ _).drew)
          have HC1 : Hid (c1 = a + (s + 1) ∧ c1 ≤ i1) := ⟨by omega, by omega⟩
          have HCC := Hid.intro' hc1
          clear HS htw hcs hc1
          go_wp2_with fail
          go_big_region
          all_goals go_wp2
          go_roundw
          case rel => exact ⟨c1, s + 1, by go_num, HC1.out.1, HC1.out.2, HN⟩
          case measure => simp [intOf]; omega
        · have hcz : ¬ (c : Int) < (i1 : Int) := by omega
          have H3 : Hid (R wr) := by
            show R wr
            rw [HR.out]
            have hst : s = t0 := by have := HT0.out; omega
            subst hst
            refine ⟨SO.ins Y s q, SO.ins_perm, SO.mrg_one HY.out.1 HY.out.2 ?_ ?_, HS.out⟩
            · rw [HT0.out.1]; exact HB.out.lo
            · rw [HT0.out.1]; exact HB.out.hi
          clear HS hcs
          go_wp2
          refine bodyPost_ret (results_none rfl _ _ _) rfl ?_
          exact ⟨rfl, H3.out⟩

end Go.Proofs.Ytdfdkddjkhcgdah
