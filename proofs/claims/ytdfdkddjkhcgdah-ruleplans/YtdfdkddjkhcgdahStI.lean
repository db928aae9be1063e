/- A part of a row is put in order by putting one behind the other in its place. -/
import Derived.Test.YtdfdkddjkhcgdahPk7
import Derived.BigQuiet
namespace Go.Proofs.Ytdfdkddjkhcgdah
open Go.RowKit Go.Shelf

/-- how two numbers are held against one another -/
def cm3 (a b : Int) : Int := if a < b then -1 else if b < a then 1 else 0
theorem cm3_lt {a b : Int} (h : a < b) : cm3 a b = -1 := if_pos h
theorem cm3_ge {a b : Int} (h : ¬ a < b) : ∃ c : Int, cm3 a b = c ∧ ¬ c < 0 := by
  unfold cm3
  rw [if_neg h]
  split
  · exact ⟨1, rfl, by decide⟩
  · exact ⟨0, rfl, by decide⟩
/-- what the function does that is handed on: it holds keys against one another, wherever our row alone was written -/
def Ck (v1 v2 : Value) (k : Int → Int) (ok : Int → Prop) (w : World) (g : Nat) : Prop := ∀ (W : World) (x y : Int), Kp (fun j => j = g) w W → ok x → ok y →
  Calls Try.prog 42 #[.int .i64 x, .int .i64 y, v1, v2] W fun e w' => e = .returned (.int .i64 (cm3 (k x) (k y))) ∧ Below W.heap.size W w'

/-- one is on its way -/
structure In1 (k : Int → Int) (X Z : List Int) (t s : Nat) (q : Int) : Prop where
  hp : Z.Perm (X.take t)
  hz : SO.Sd k Z
  hq : X[t]? = some q
  hs : s ≤ t
  hh : ∀ z ∈ Z.drop s, k q < k z
section
variable {k : Int → Int} {X Z : List Int} {t s : Nat} {q : Int}
theorem In1.len (h : In1 k X Z t s q) : Z.length = t := by
  have h1 := h.hp.length_eq
  have h2 := (List.getElem?_eq_some_iff.1 h.hq).1
  rw [List.length_take] at h1
  omega
theorem In1.first (hp : Z.Perm (X.take t)) (hz : SO.Sd k Z) (ht : t < X.length) : ∃ q, In1 k X Z t t q := by
  obtain ⟨q, hq⟩ : ∃ q, X[t]? = some q := ⟨_, List.getElem?_eq_getElem ht⟩
  have h1 := hp.length_eq
  rw [List.length_take] at h1
  exact ⟨q, hp, hz, hq, Nat.le_refl _, fun z hz => by rw [List.drop_of_length_le (by omega)] at hz; simp at hz⟩
theorem In1.step (h : In1 k X Z t (s + 1) q) {z : Int} (hz : Z[s]? = some z) (hl : k q < k z) : In1 k X Z t s q :=
  ⟨h.hp, h.hz, h.hq, by have := h.hs; omega, fun y hy => by have := h.hz.drop_le hz y hy; omega⟩
/-- it has its place -/
theorem In1.done (h : In1 k X Z t s q) (ht : SO.Td k X) (hl : ∀ z ∈ Z.take s, k z ≤ k q) : (SO.ins Z s q).Perm (X.take (t + 1)) ∧ SO.Sd k (SO.ins Z s q) := by
  constructor
  · rw [List.take_add_one, h.hq, Option.toList_some]
    exact SO.ins_perm.trans ((h.hp.cons q).trans (List.perm_append_comm (l₁ := [q])))
  · refine SO.mrg_last h.hz (fun x hx y hy => ?_) hl h.hh
    have hx := h.hp.mem_iff.1 hx
    rw [List.mem_singleton.1 hy]
    have h2 : SO.Td k (X.take t ++ X.drop t) := by rw [List.take_append_drop]; exact ht
    refine (List.pairwise_append.1 h2).2.2 x hx q ?_
    rw [List.mem_iff_getElem?]
    exact ⟨0, by rw [List.getElem?_drop, Nat.add_zero]; exact h.hq⟩
theorem In1.ok (h : In1 k X Z t s q) {ok : Int → Prop} (ho : ∀ x ∈ X, ok x) : ok q ∧ ∀ z ∈ Z, ok z :=
  ⟨ho q (List.mem_of_getElem? h.hq), fun z hz => ho z (List.mem_of_mem_take (h.hp.mem_iff.1 hz))⟩
theorem In1.row (h : In1 k X Z t t q) (A D : List Int) : A ++ Z ++ X.drop t ++ D = A ++ SO.ins Z t q ++ (X.drop (t + 1) ++ D) := by
  have h1 : SO.ins Z t q = Z ++ [q] := by rw [← h.len, SO.ins_end]
  obtain ⟨z, hz, h2, _⟩ := SO.cut_at (Z := X) (t := t) (List.getElem?_eq_some_iff.1 h.hq).1
  rw [h.hq] at hz
  cases hz
  rw [h1, h2]
  simp
end

set_option maxRecDepth 100000 in
set_option maxHeartbeats 8000000 in
theorem isort_any (w : World) (B g cap n : Nat) (A X D : List Int) (v1 v2 : Value) (k : Int → Int) (ok : Int → Prop) (a b : Nat) (ha : a = A.length) (hb : b = a + X.length) (hn : n ≤ 1000) (hT : SO.Td k X) (ho : ∀ x ∈ X, ok x) (hc : Ck v1 v2 k ok w g) (W : World) (h : Srt w W B g cap n (A ++ X ++ D)) :
    Calls Try.prog 97 #[.slice (some ⟨g, 0, none⟩) n cap, .int .i64 (a : Int), .int .i64 (b : Int), .func (.func 42) #[] #[v1, v2]] W fun e W' => e = .returned (.tuple #[]) ∧ ∃ Z, Z.Perm X ∧ SO.Sd k Z ∧ Srt w W' B g cap n (A ++ Z ++ D) := by
  have hbn : b ≤ n := by
    have := h.len
    simp only [List.length_append] at this
    omega
  have HO := Hid.intro' ho
  have HC := Hid.intro' hc
  have HT := Hid.intro' hT
  obtain ⟨R, HR⟩ : ∃ R : World → Prop, Hid (R = fun W' => ∃ Z, Z.Perm X ∧ SO.Sd k Z ∧ Srt w W' B g cap n (A ++ Z ++ D)) := ⟨_, rfl⟩
  have hgoal : (fun (e : Ending) W' => e = .returned (.tuple #[]) ∧ ∃ Z, Z.Perm X ∧ SO.Sd k Z ∧ Srt w W' B g cap n (A ++ Z ++ D)) = fun e W' => e = .returned (.tuple #[]) ∧ R W' := by rw [HR.out]
  rw [hgoal]
  have HA : Hid (a = A.length ∧ b = a + X.length) := ⟨ha, hb⟩
  have H0 : Hid (∃ Z, Z.Perm (X.take 1) ∧ SO.Sd k Z ∧ Srt w W B g cap n (A ++ Z ++ X.drop 1 ++ D)) := by
    refine ⟨X.take 1, List.Perm.refl _, ?_, by rw [List.append_assoc A, List.take_append_drop]; exact h⟩
    match X with
    | [] => exact List.Pairwise.nil
    | x :: X => exact List.pairwise_singleton _ _
  have hab : a ≤ b := by omega
  clear hgoal ho hc hT h ha hb
  go_enter Try.func97, Try.ntmps97
  go_wp2_with fail
  go_loopw [8] (fun iv wr => ∃ (i t : Nat), iv = .int .i64 (i : Int) ∧ i = a + t ∧ 0 < t ∧ i ≤ b + 1 ∧ Hid (∃ Z, Z.Perm (X.take t) ∧ SO.Sd k Z ∧ Srt w wr B g cap n (A ++ Z ++ X.drop t ++ D))) (fun iv _ => b + 1 - (intOf iv).toNat)
  case atStart => exact ⟨a + 1, 1, by go_num, rfl, by omega, by omega, H0⟩
  case round =>
    clear H0
    obtain ⟨i, t, rfl, hit, ht0, hib, HZ⟩ := hrel
    obtain ⟨Z, hp, hz, hs⟩ := HZ.out
    clear HZ
    by_cases hlt : i < b
    · have hiz : (i : Int) < (b : Int) := by omega
      obtain ⟨q, h1⟩ := In1.first hp hz (show t < X.length by have := HA.out; omega)
      rw [h1.row] at hs
      have HS := Hid.intro' hs
      have HI := Hid.intro' h1
      have HD := Hid.intro' hit
      clear hs h1 hp hz hit
      go_wp2_with fail
      rename World => Wr
      go_loopw [9] (fun jv wr => ∃ (j s : Nat), jv = .int .i64 (j : Int) ∧ j = a + s ∧ j ≤ i ∧ Hid (In1 k X Z t s q ∧ Srt w wr B g cap n (A ++ SO.ins Z s q ++ (X.drop (t + 1) ++ D)))) (fun jv _ => (intOf jv).toNat)
      case atStart => exact ⟨i, t, rfl, HD.out, Nat.le_refl _, HI.out, HS.out⟩
      case round =>
        clear HS HI
        obtain ⟨j, s, rfl, hjs, hji, HQ⟩ := hrel
        have HIN := Hid.intro' HQ.out.1
        have HS := Hid.intro' HQ.out.2
        have out : (∀ z ∈ Z.take s, k z ≤ k q) → ∀ w', Below wr.heap.size wr w' → Hid (∃ Z, Z.Perm (X.take (t + 1)) ∧ SO.Sd k Z ∧ Srt w w' B g cap n (A ++ Z ++ X.drop (t + 1) ++ D)) := fun hl w' hw => by
          obtain ⟨h1, h2⟩ := HIN.out.done HT.out hl
          refine ⟨_, h1, h2, ?_⟩
          have := HS.out.next hw
          rw [← List.append_assoc] at this
          exact this
        have OUT := Hid.intro' out
        clear out HQ
        cases s with
        | zero =>
          have hja : ¬ (a : Int) < (j : Int) := by omega
          have hjn : ¬ a < j := by omega
          have O2 := Hid.intro' (OUT.out (fun z hz => by simp at hz))
          clear OUT hjs
          go_wp2_with fail
          refine wp_region_quiet (C := fun w' => Below wr.heap.size wr w') (by kernel_rfl) (by kernel_rfl) ((Below.refl _ _).drew) ?_
          simp only []
          unfold wpQuiet
          generalize hK : wpQuiet Try.prog _ _ _ _ = K
          go_simp
          refine ⟨_, fun _ _ => rfl, ?_⟩
          subst hK
          unfold wpQuiet
          generalize hK : wpQuiet Try.prog _ _ _ _ = K
          go_simp
          refine ⟨_, fun _ _ => rfl, ?_⟩
          subst hK
          unfold wpQuiet
          generalize hK : wpQuiet Try.prog _ _ _ _ = K
          go_simp
          refine ⟨_, fun _ _ => rfl, ?_⟩
          subst hK
          unfold wpQuiet
          generalize hK : wpQuiet Try.prog _ _ _ _ = K
          go_simp
          refine ⟨_, fun _ _ => rfl, ?_⟩
          subst hK
          unfold wpQuiet
          generalize hK : wpQuiet Try.prog _ _ _ _ = K
          go_simp
          subst hK
          unfold wpQuiet
          generalize hK : wpQuiet Try.prog _ _ _ _ = K
          go_simp
          subst hK
          unfold wpQuiet
          generalize hK : wpQuiet Try.prog _ _ _ _ = K
          go_simp
          subst hK
          unfold wpQuiet
          generalize hK : wpQuiet Try.prog _ _ _ _ = K
          go_simp
          subst hK
          unfold wpQuiet
          generalize hK : wpQuiet Try.prog _ _ _ _ = K
          go_simp
          subst hK
          unfold wpQuiet
          generalize hK : wpQuiet Try.prog _ _ _ _ = K
          go_simp
          subst hK
          unfold wpQuiet
          generalize hK : wpQuiet Try.prog _ _ _ _ = K
          go_simp
          subst hK
          unfold wpQuiet
          generalize hK : wpQuiet Try.prog _ _ _ _ = K
          go_simp
          subst hK
          unfold wpQuiet
          generalize hK : wpQuiet Try.prog _ _ _ _ = K
          go_simp
          subst hK
          unfold wpQuiet
          generalize hK : wpQuiet Try.prog _ _ _ _ = K
          go_simp
          subst hK
          unfold wpQuiet
          generalize hK : wpQuiet Try.prog _ _ _ _ = K
          go_simp
          subst hK
          unfold wpQuiet
          generalize hK : wpQuiet Try.prog _ _ _ _ = K
          go_simp
          subst hK
          unfold wpQuiet
          generalize hK : wpQuiet Try.prog _ _ _ _ = K
          go_simp
          refine ⟨_, fun _ _ => rfl, ?_⟩
          subst hK
          refine wpQuiet_nil ?_
          intro W3 hb3
          have H3 := O2.out W3 hb3
          clear hb3 O2 HS HIN
          go_wp2
          go_roundw
          case rel => exact ⟨i + 1, t + 1, by go_num, by have := HD.out; omega, by omega, by omega, H3⟩
          case measure => simp [intOf]; omega
        | succ s =>
          have hja : (a : Int) < (j : Int) := by omega
          have hjn : a < j := by omega
          obtain ⟨z, hz, htw⟩ := SO.ins_down (A := A) (B := X.drop (t + 1) ++ D) (q := q) (t := s) (Z := Z) (by have := HIN.out.len; have := HIN.out.hs; omega)
          rw [← HA.out.1] at htw
          obtain ⟨p, hp⟩ : ∃ p, p = a + s := ⟨_, rfl⟩
          have hjp : j = p + 1 := by omega
          rw [← hp, ← hjp] at htw
          have HTW := Hid.intro' htw
          have HZS := Hid.intro' hz
          have ep : (j : Int) - 1 = (p : Int) := by omega
          have hwp : IntKind.i64.wrap (p : Int) = (p : Int) := by rw [IntKind.wrap_i64]; omega
          have hpn : p < n := by omega
          have hjN : j < n := by omega
          have HJP := Hid.intro' hjp
          have CJ : Hid (∀ w', Below wr.heap.size wr w' → w'.cell? ⟨g, j, none⟩ = some (.int .i64 q)) := fun w' hw => (HS.out.next hw).cell HTW.out.hi
          have CP : Hid (∀ w', Below wr.heap.size wr w' → w'.cell? ⟨g, p, none⟩ = some (.int .i64 z)) := fun w' hw => (HS.out.next hw).cell HTW.out.hj
          have HCL : Hid (∀ w', Below wr.heap.size wr w' → Calls Try.prog 42 #[.int .i64 q, .int .i64 z, v1, v2] w' fun e w'' => e = .returned (.int .i64 (cm3 (k q) (k z))) ∧ Below w'.heap.size w' w'') := fun w' hw =>
            HC.out w' q z (HS.out.kp.thenBelow hw) (HIN.out.ok HO.out).1 ((HIN.out.ok HO.out).2 z (List.mem_of_getElem? hz))
          have HPA := Hid.intro' hp
          clear htw hz hjs hjp hp
          by_cases hlk : k q < k z
          · rw [cm3_lt hlk] at HCL
            have HI2 := Hid.intro' (HIN.out.step HZS.out hlk)
            clear OUT hlk
            go_wp2_with fail
            refine wp_region_quiet (C := fun w' => Below wr.heap.size wr w') (by kernel_rfl) (by kernel_rfl) ((Below.refl _ _).drew) ?_
            simp only []
            unfold wpQuiet
            generalize hK : wpQuiet Try.prog _ _ _ _ = K
            go_simp
            refine ⟨_, fun _ _ => rfl, ?_⟩
            subst hK
            unfold wpQuiet
            generalize hK : wpQuiet Try.prog _ _ _ _ = K
            go_simp
            refine ⟨_, fun _ _ => rfl, ?_⟩
            subst hK
            unfold wpQuiet
            generalize hK : wpQuiet Try.prog _ _ _ _ = K
            go_simp
            refine ⟨_, fun _ _ => rfl, ?_⟩
            subst hK
            unfold wpQuiet
            generalize hK : wpQuiet Try.prog _ _ _ _ = K
            go_simp
            refine ⟨_, fun _ _ => rfl, ?_⟩
            subst hK
            unfold wpQuiet
            generalize hK : wpQuiet Try.prog _ _ _ _ = K
            go_simp
            refine ⟨_, fun _ _ => rfl, ?_⟩
            subst hK
            unfold wpQuiet
            generalize hK : wpQuiet Try.prog _ _ _ _ = K
            go_simp
            refine ⟨_, fun _ _ => rfl, ?_⟩
            subst hK
            unfold wpQuiet
            generalize hK : wpQuiet Try.prog _ _ _ _ = K
            go_simp
            refine ⟨_, fun _ _ => rfl, ?_⟩
            subst hK
            unfold wpQuiet
            generalize hK : wpQuiet Try.prog _ _ _ _ = K
            rw [if_pos (by go_simp)]
            refine quiet_ixI _ _ rfl rfl rfl hjN ?_
            go_simp
            subst hK
            unfold wpQuiet
            generalize hK : wpQuiet Try.prog _ _ _ _ = K
            rw [if_pos (by go_simp)]
            refine quiet_load3 _ _ _ rfl rfl CJ.out ?_
            go_simp
            subst hK
            unfold wpQuiet
            generalize hK : wpQuiet Try.prog _ _ _ _ = K
            go_simp
            refine ⟨_, fun _ _ => rfl, ?_⟩
            subst hK
            unfold wpQuiet
            generalize hK : wpQuiet Try.prog _ _ _ _ = K
            go_simp
            refine ⟨_, fun _ _ => rfl, ?_⟩
            subst hK
            unfold wpQuiet
            generalize hK : wpQuiet Try.prog _ _ _ _ = K
            go_simp
            refine ⟨_, fun _ _ => rfl, ?_⟩
            subst hK
            unfold wpQuiet
            generalize hK : wpQuiet Try.prog _ _ _ _ = K
            rw [if_pos (by go_simp)]
            refine quiet_ixI _ _ rfl rfl rfl hpn ?_
            go_simp
            subst hK
            unfold wpQuiet
            generalize hK : wpQuiet Try.prog _ _ _ _ = K
            rw [if_pos (by go_simp)]
            refine quiet_load3 _ _ _ rfl rfl CP.out ?_
            go_simp
            subst hK
            unfold wpQuiet
            generalize hK : wpQuiet Try.prog _ _ _ _ = K
            go_simp
            refine ⟨_, fun w' hw => (HCL.out w' hw).mono fun e w'' hh => ⟨hh.1, below_class hw hh.2⟩, ?_⟩
            subst hK
            unfold wpQuiet
            generalize hK : wpQuiet Try.prog _ _ _ _ = K
            go_simp
            refine ⟨_, fun _ _ => rfl, ?_⟩
            subst hK
            unfold wpQuiet
            generalize hK : wpQuiet Try.prog _ _ _ _ = K
            go_simp
            refine ⟨_, fun _ _ => rfl, ?_⟩
            subst hK
            refine wpQuiet_nil ?_
            intro W3 hb3
            have HS3 := Hid.intro' (HS.out.next hb3)
            clear hb3 HS CJ CP HCL HIN
            have cj := HS3.out.cell HTW.out.hi
            have cp := HS3.out.cell HTW.out.hj
            have fj := HS3.out.fr j
            have fp := HS3.out.fr p
            have HN := Hid.intro' ((HS3.out.tw HTW.out).next (Below.refl _ _).drew)
            clear HS3
            go_wp2_with fail
            go_big_region
            all_goals go_wp2
            go_roundw
            case rel => exact ⟨p, s, by go_num, HPA.out, by omega, HI2.out, HN.out⟩
            case measure => simp [intOf]; omega
          · obtain ⟨c, hc1, hc2⟩ := cm3_ge hlk
            rw [hc1] at HCL
            have O2 := Hid.intro' (OUT.out (fun y hy => by have := HIN.out.hz.take_le HZS.out y hy; omega))
            clear OUT hlk hc1
            go_wp2_with fail
            refine wp_region_quiet (C := fun w' => Below wr.heap.size wr w') (by kernel_rfl) (by kernel_rfl) ((Below.refl _ _).drew) ?_
            simp only []
            unfold wpQuiet
            generalize hK : wpQuiet Try.prog _ _ _ _ = K
            go_simp
            refine ⟨_, fun _ _ => rfl, ?_⟩
            subst hK
            unfold wpQuiet
            generalize hK : wpQuiet Try.prog _ _ _ _ = K
            go_simp
            refine ⟨_, fun _ _ => rfl, ?_⟩
            subst hK
            unfold wpQuiet
            generalize hK : wpQuiet Try.prog _ _ _ _ = K
            go_simp
            refine ⟨_, fun _ _ => rfl, ?_⟩
            subst hK
            unfold wpQuiet
            generalize hK : wpQuiet Try.prog _ _ _ _ = K
            go_simp
            refine ⟨_, fun _ _ => rfl, ?_⟩
            subst hK
            unfold wpQuiet
            generalize hK : wpQuiet Try.prog _ _ _ _ = K
            go_simp
            refine ⟨_, fun _ _ => rfl, ?_⟩
            subst hK
            unfold wpQuiet
            generalize hK : wpQuiet Try.prog _ _ _ _ = K
            go_simp
            refine ⟨_, fun _ _ => rfl, ?_⟩
            subst hK
            unfold wpQuiet
            generalize hK : wpQuiet Try.prog _ _ _ _ = K
            go_simp
            refine ⟨_, fun _ _ => rfl, ?_⟩
            subst hK
            unfold wpQuiet
            generalize hK : wpQuiet Try.prog _ _ _ _ = K
            rw [if_pos (by go_simp)]
            refine quiet_ixI _ _ rfl rfl rfl hjN ?_
            go_simp
            subst hK
            unfold wpQuiet
            generalize hK : wpQuiet Try.prog _ _ _ _ = K
            rw [if_pos (by go_simp)]
            refine quiet_load3 _ _ _ rfl rfl CJ.out ?_
            go_simp
            subst hK
            unfold wpQuiet
            generalize hK : wpQuiet Try.prog _ _ _ _ = K
            go_simp
            refine ⟨_, fun _ _ => rfl, ?_⟩
            subst hK
            unfold wpQuiet
            generalize hK : wpQuiet Try.prog _ _ _ _ = K
            go_simp
            refine ⟨_, fun _ _ => rfl, ?_⟩
            subst hK
            unfold wpQuiet
            generalize hK : wpQuiet Try.prog _ _ _ _ = K
            go_simp
            refine ⟨_, fun _ _ => rfl, ?_⟩
            subst hK
            unfold wpQuiet
            generalize hK : wpQuiet Try.prog _ _ _ _ = K
            rw [if_pos (by go_simp)]
            refine quiet_ixI _ _ rfl rfl rfl hpn ?_
            go_simp
            subst hK
            unfold wpQuiet
            generalize hK : wpQuiet Try.prog _ _ _ _ = K
            rw [if_pos (by go_simp)]
            refine quiet_load3 _ _ _ rfl rfl CP.out ?_
            go_simp
            subst hK
            unfold wpQuiet
            generalize hK : wpQuiet Try.prog _ _ _ _ = K
            go_simp
            refine ⟨_, fun w' hw => (HCL.out w' hw).mono fun e w'' hh => ⟨hh.1, below_class hw hh.2⟩, ?_⟩
            subst hK
            unfold wpQuiet
            generalize hK : wpQuiet Try.prog _ _ _ _ = K
            go_simp
            refine ⟨_, fun _ _ => rfl, ?_⟩
            subst hK
            unfold wpQuiet
            generalize hK : wpQuiet Try.prog _ _ _ _ = K
            go_simp
            refine ⟨_, fun _ _ => rfl, ?_⟩
            subst hK
            refine wpQuiet_nil ?_
            intro W3 hb3
            have H3 := O2.out W3 hb3
            clear hb3 O2 HS HIN CJ CP HCL HTW
            go_wp2
            go_roundw
            case rel => exact ⟨i + 1, t + 1, by go_num, by have := HD.out; omega, by omega, by omega, H3⟩
            case measure => simp [intOf]; omega
    · have hiz : ¬ (i : Int) < (b : Int) := by omega
      have H3 : Hid (R wr) := by
        show R wr
        rw [HR.out]
        have hl : X.length ≤ t := by have := HA.out; omega
        rw [List.take_of_length_le hl] at hp
        rw [List.drop_of_length_le hl, List.append_nil] at hs
        exact ⟨Z, hp, hz, hs⟩
      clear hp hz hs hit
      go_wp2
      go_end0
      exact ⟨rfl, H3.out⟩

end Go.Proofs.Ytdfdkddjkhcgdah
