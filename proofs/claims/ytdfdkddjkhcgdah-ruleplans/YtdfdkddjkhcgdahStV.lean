/- A row is put in order, those of one key staying as they stand. -/
import Derived.Test.YtdfdkddjkhcgdahStU
namespace Go.Proofs.Ytdfdkddjkhcgdah
open Go.RowKit Go.Shelf

theorem one_of {X : List Int} (h : X.length = 1) : ∃ q, X = [q] := by
  match X, h with
  | [q], _ => exact ⟨q, rfl⟩
/-- two parts in order are made one -/
theorem sym_any (w : World) (B g cap n : Nat) (v1 v2 : Value) (k : Int → Int) (ok : Int → Prop) (hn : n ≤ 1000) (hc : Ck v1 v2 k ok w g) : ∀ N, SyIH w B g cap n v1 v2 k ok N
  | 0 => fun A X Y D a m b _ _ _ h1 _ h3 => by omega
  | N + 1 => fun A X Y D a m b ha hm hb h1 h2 h3 hX hY hT ho W hs => by
    have hox : ∀ x ∈ X, ok x := fun x hx => ho x (List.mem_append_left _ hx)
    have hoy : ∀ x ∈ Y, ok x := fun x hx => ho x (List.mem_append_right _ hx)
    by_cases e1 : X.length = 1
    · obtain ⟨q, rfl⟩ := one_of e1
      exact sym_one w B g cap n A Y D q v1 v2 k ok a m b ha hm hb hn hY hT (hox q (List.mem_singleton.2 rfl)) hoy hc W hs
    · by_cases e2 : Y.length = 1
      · obtain ⟨q, rfl⟩ := one_of e2
        exact sym_last w B g cap n A X D q v1 v2 k ok a m b ha hm hb (by omega) hn hX hT (hoy q (List.mem_singleton.2 rfl)) hox hc W hs
      · exact sym_step w B g cap n A X Y D v1 v2 k ok a m b N ha hm hb (by omega) (by omega) h3 hn hX hY hT ho hc (sym_any w B g cap n v1 v2 k ok hn hc N) W hs

/-- the first parts are in order; the rest is as it was -/
structure Ph1 (w W : World) (B g cap n : Nat) (k : Int → Int) (l : List Int) (a : Nat) : Prop where
  ex : ∃ Ls T, SO.Cz k 20 Ls ∧ a = Ls.flatten.length ∧ (Ls.flatten ++ T).Perm l ∧ SO.Td k (Ls.flatten ++ T) ∧ Srt w W B g cap n (Ls.flatten ++ T)
/-- parts of one length are in order, and what is left -/
structure Ph2 (w W : World) (B g cap n : Nat) (k : Int → Int) (l : List Int) (z : Nat) : Prop where
  ex : ∃ Ls T, SO.Cz k z Ls ∧ T.length < z ∧ SO.Sd k T ∧ (Ls.flatten ++ T).Perm l ∧ SO.Td k (Ls.flatten ++ T) ∧ Srt w W B g cap n (Ls.flatten ++ T)
/-- the first ones are made one, two by two -/
structure Ph3 (w W : World) (B g cap n : Nat) (k : Int → Int) (l : List Int) (z a : Nat) : Prop where
  ex : ∃ Ms Ls T, SO.Cz k (2 * z) Ms ∧ SO.Cz k z Ls ∧ T.length < z ∧ SO.Sd k T ∧ a = Ms.flatten.length ∧ (Ms.flatten ++ (Ls.flatten ++ T)).Perm l ∧ SO.Td k (Ms.flatten ++ (Ls.flatten ++ T)) ∧ Srt w W B g cap n (Ms.flatten ++ (Ls.flatten ++ T))
section
variable {w W : World} {B g cap n a z : Nat} {k : Int → Int} {l : List Int} {v1 v2 : Value} {ok : Int → Prop}
theorem Ph1.first (h : Srt w W B g cap n l) (ht : SO.Td k l) : Ph1 w W B g cap n k l 0 := ⟨[], l, SO.Cz.nil, rfl, List.Perm.refl _, ht, h⟩
theorem Ph1.step (h : Ph1 w W B g cap n k l a) (hn : n ≤ 1000) (ho : ∀ x ∈ l, ok x) (hc : Ck v1 v2 k ok w g) {b : Nat} (hb : b = a + 20) (hbn : b ≤ n) :
    Calls Try.prog 97 #[.slice (some ⟨g, 0, none⟩) n cap, .int .i64 (a : Int), .int .i64 (b : Int), .func (.func 42) #[] #[v1, v2]] W fun e W' => e = .returned (.tuple #[]) ∧ Ph1 w W' B g cap n k l b := by
  obtain ⟨Ls, T, h1, h2, h3, h4, h5⟩ := h.ex
  have hl := h5.len
  rw [List.length_append] at hl
  have e : Ls.flatten ++ T = Ls.flatten ++ T.take 20 ++ T.drop 20 := by rw [List.append_assoc, List.take_append_drop]
  rw [e] at h3 h4 h5
  have hT : (T.take 20).length = 20 := by rw [List.length_take]; omega
  refine (isort_any w B g cap n Ls.flatten (T.take 20) (T.drop 20) v1 v2 k ok a b h2 (by rw [hT]; exact hb) hn h4.mid (fun x hx => ho x (h3.mem_iff.1 (List.mem_append_left _ (List.mem_append_right _ hx)))) hc W h5).mono ?_
  rintro e W' ⟨he, Z, p1, s1, hs⟩
  have hZ : Z.length = 20 := by rw [p1.length_eq]; exact hT
  have ef : (Ls ++ [Z]).flatten = Ls.flatten ++ Z := by simp
  exact ⟨he, ⟨Ls ++ [Z], T.drop 20, h1.snoc hZ s1, by rw [ef, List.length_append]; omega, by rw [ef]; exact (SO.perm_mid p1).trans h3, by rw [ef]; exact h4.put p1 s1, by rw [ef]; exact hs⟩⟩
theorem Ph1.last (h : Ph1 w W B g cap n k l a) (hn : n ≤ 1000) (ho : ∀ x ∈ l, ok x) (hc : Ck v1 v2 k ok w g) (hbn : n < a + 20) :
    Calls Try.prog 97 #[.slice (some ⟨g, 0, none⟩) n cap, .int .i64 (a : Int), .int .i64 (n : Int), .func (.func 42) #[] #[v1, v2]] W fun e W' => e = .returned (.tuple #[]) ∧ Ph2 w W' B g cap n k l 20 := by
  obtain ⟨Ls, T, h1, h2, h3, h4, h5⟩ := h.ex
  have hl := h5.len
  rw [List.length_append] at hl
  have e : Ls.flatten ++ T = Ls.flatten ++ T ++ [] := by rw [List.append_nil]
  rw [e] at h3 h4 h5
  refine (isort_any w B g cap n Ls.flatten T [] v1 v2 k ok a n h2 (by omega) hn h4.mid (fun x hx => ho x (h3.mem_iff.1 (List.mem_append_left _ (List.mem_append_right _ hx)))) hc W h5).mono ?_
  rintro e W' ⟨he, Z, p1, s1, hs⟩
  have q := (SO.perm_mid (A := Ls.flatten) (B := []) p1).trans h3
  have t := h4.put p1 s1
  rw [List.append_nil] at q t hs
  exact ⟨he, ⟨Ls, Z, h1, by rw [p1.length_eq]; omega, s1, q, t, hs⟩⟩
theorem Ph1.le (h : Ph1 w W B g cap n k l a) : a ≤ n := by
  obtain ⟨Ls, T, _, h2, _, _, h5⟩ := h.ex
  have hl := h5.len
  rw [List.length_append] at hl
  omega
theorem Ph2.done (h : Ph2 w W B g cap n k l z) (hz : 0 < z) (hn : n ≤ z) : Q1 w W B g cap n k [] l [] := by
  obtain ⟨Ls, T, h1, h2, h3, h4, h5, h6⟩ := h.ex
  have hl := h6.len
  exact ⟨_, h4, h1.whole h3 (by omega) hz, by rw [List.nil_append, List.append_nil]; exact h6⟩
theorem Ph2.begin (h : Ph2 w W B g cap n k l z) : Ph3 w W B g cap n k l z 0 := by
  obtain ⟨Ls, T, h1, h2, h3, h4, h5, h6⟩ := h.ex
  exact ⟨[], Ls, T, SO.Cz.nil, h1, h2, h3, rfl, h4, h5, h6⟩
theorem Ph3.le (h : Ph3 w W B g cap n k l z a) : a ≤ n := by
  obtain ⟨Ms, Ls, T, _, _, _, _, h2, _, _, h5⟩ := h.ex
  have hl := h5.len
  rw [List.length_append] at hl
  omega
theorem Ph3.step (h : Ph3 w W B g cap n k l z a) (hz : 0 < z) (hn : n ≤ 1000) (ho : ∀ x ∈ l, ok x) (hc : Ck v1 v2 k ok w g) {m b : Nat} (hm : m = a + z) (hb : b = a + 2 * z) (hbn : b ≤ n) :
    Calls Try.prog 98 #[.slice (some ⟨g, 0, none⟩) n cap, .int .i64 (a : Int), .int .i64 (m : Int), .int .i64 (b : Int), .func (.func 42) #[] #[v1, v2]] W fun e W' => e = .returned (.tuple #[]) ∧ Ph3 w W' B g cap n k l z b := by
  obtain ⟨Ms, Ls, T, h1, h2, h3, h4, h5, h6, h7, h8⟩ := h.ex
  have hl := h8.len
  rw [List.length_append] at hl
  obtain ⟨L1, L2, Ls', rfl⟩ := h2.two h3 (by omega)
  obtain ⟨l1, s1⟩ := h2.head
  obtain ⟨l2, s2⟩ := h2.tail.head
  have e : Ms.flatten ++ ((L1 :: L2 :: Ls').flatten ++ T) = Ms.flatten ++ (L1 ++ L2) ++ (Ls'.flatten ++ T) := by simp
  rw [e] at h6 h7 h8
  refine (sym_any w B g cap n v1 v2 k ok hn hc (L1.length + L2.length) Ms.flatten L1 L2 (Ls'.flatten ++ T) a m b h5 (by omega) (by omega) (by omega) (by omega) (Nat.le_refl _) s1 s2 h7.two (fun x hx => ho x (h6.mem_iff.1 (List.mem_append_left _ (List.mem_append_right _ hx)))) W (by rw [List.append_assoc Ms.flatten L1 L2]; exact h8)).mono ?_
  rintro e W' ⟨he, M, p1, s3, hs⟩
  have hM : M.length = 2 * z := by rw [p1.length_eq, List.length_append]; omega
  have ef : (Ms ++ [M]).flatten = Ms.flatten ++ M := by simp
  exact ⟨he, ⟨Ms ++ [M], Ls', T, h1.snoc hM s3, h2.tail.tail, h3, h4, by rw [ef, List.length_append]; omega, by rw [ef]; exact (SO.perm_mid p1).trans h6, by rw [ef]; exact h7.put p1 s3, by rw [ef]; exact hs⟩⟩
theorem Ph3.rest (h : Ph3 w W B g cap n k l z a) (hz : 0 < z) (hn : n ≤ 1000) (ho : ∀ x ∈ l, ok x) (hc : Ck v1 v2 k ok w g) {m : Nat} (hm : m = a + z) (hbn : n < a + 2 * z) (hmn : m < n) :
    Calls Try.prog 98 #[.slice (some ⟨g, 0, none⟩) n cap, .int .i64 (a : Int), .int .i64 (m : Int), .int .i64 (n : Int), .func (.func 42) #[] #[v1, v2]] W fun e W' => e = .returned (.tuple #[]) ∧ Ph2 w W' B g cap n k l (2 * z) := by
  obtain ⟨Ms, Ls, T, h1, h2, h3, h4, h5, h6, h7, h8⟩ := h.ex
  have hl := h8.len
  rw [List.length_append] at hl
  rcases h2.less (R := T) (by omega) with rfl | ⟨L, rfl⟩
  · rw [List.flatten_nil, List.nil_append] at hl; omega
  · obtain ⟨l1, s1⟩ := h2.head
    have e : Ms.flatten ++ (([L] : List (List Int)).flatten ++ T) = Ms.flatten ++ (L ++ T) ++ [] := by simp
    rw [e] at h6 h7 h8
    have hl2 : n = Ms.flatten.length + (L.length + T.length) := by
      have := h8.len
      rwa [List.append_nil, List.length_append, List.length_append] at this
    refine (sym_any w B g cap n v1 v2 k ok hn hc (L.length + T.length) Ms.flatten L T [] a m n h5 (by omega) (by omega) (by omega) (by omega) (Nat.le_refl _) s1 h4 h7.two (fun x hx => ho x (h6.mem_iff.1 (List.mem_append_left _ (List.mem_append_right _ hx)))) W (by rw [List.append_assoc Ms.flatten L T]; exact h8)).mono ?_
    rintro e W' ⟨he, M, p1, s3, hs⟩
    have hM : M.length = L.length + T.length := by rw [p1.length_eq, List.length_append]
    have q := (SO.perm_mid (A := Ms.flatten) (B := []) p1).trans h6
    have t := h7.put p1 s3
    rw [List.append_nil] at q t hs
    exact ⟨he, ⟨Ms, M, h1, by omega, s3, q, t, hs⟩⟩
theorem Ph3.none (h : Ph3 w W B g cap n k l z a) (hz : 0 < z) {m : Nat} (hm : m = a + z) (hbn : n < a + 2 * z) (hmn : ¬ m < n) : Ph2 w W B g cap n k l (2 * z) := by
  obtain ⟨Ms, Ls, T, h1, h2, h3, h4, h5, h6, h7, h8⟩ := h.ex
  have hl := h8.len
  rw [List.length_append] at hl
  rcases h2.less (R := T) (by omega) with rfl | ⟨L, rfl⟩
  · exact ⟨Ms, T, h1, by omega, h4, by simpa using h6, by simpa using h7, by simpa using h8⟩
  · obtain ⟨l1, s1⟩ := h2.head
    have hT : T = [] := List.length_eq_zero_iff.1 (by rw [List.flatten_cons, List.flatten_nil, List.append_nil, List.length_append] at hl; omega)
    subst hT
    exact ⟨Ms, L, h1, by omega, s1, by simpa using h6, by simpa using h7, by simpa using h8⟩
end

set_option maxRecDepth 100000 in
set_option maxHeartbeats 8000000 in
theorem stable_any (w : World) (B g cap n : Nat) (l : List Int) (v1 v2 : Value) (k : Int → Int) (ok : Int → Prop) (hn : n ≤ 1000) (hT : SO.Td k l) (ho : ∀ x ∈ l, ok x) (hc : Ck v1 v2 k ok w g) (W : World) (h : Srt w W B g cap n l) :
    Calls Try.prog 78 #[.slice (some ⟨g, 0, none⟩) n cap, .int .i64 (n : Int), .func (.func 42) #[] #[v1, v2]] W fun e W' => e = .returned (.tuple #[]) ∧ Q1 w W' B g cap n k [] l [] := by
  have HO := Hid.intro' ho
  have HC := Hid.intro' hc
  have H0 := Hid.intro' (Ph1.first h hT)
  clear ho hc hT h
  go_enter Try.func78, Try.ntmps78
  go_wp2_with fail
  go_loopw [7, 8] (fun av bv wr => ∃ (a b : Nat), av = .int .i64 (a : Int) ∧ bv = .int .i64 (b : Int) ∧ b = a + 20 ∧ Hid (Ph1 w wr B g cap n k l a)) (fun av _ _ => n + 1 - (intOf av).toNat)
  case atStart => exact ⟨0, 20, rfl, rfl, rfl, H0⟩
  case round =>
    clear H0
    obtain ⟨a, b, rfl, rfl, hab, HP⟩ := hrel
    have han := HP.out.le
    by_cases hlt : b ≤ n
    · have hlz : (b : Int) ≤ (n : Int) := by omega
      have HS := Hid.intro' (HP.out.step hn HO.out HC.out hab hlt)
      have HAB := Hid.intro' hab
      clear HP hab
      go_wp2_with fail
      refine HS.out.mono ?_
      rintro e W2 ⟨rfl, h2⟩
      have H2 := Hid.intro' h2
      clear h2 HS
      go_wp2
      go_roundw
      case rel => exact ⟨b, b + 20, rfl, by go_num, rfl, H2⟩
      case measure => simp [intOf]; have := HAB.out; omega
    · have hlz : ¬ (b : Int) ≤ (n : Int) := by omega
      have HS := Hid.intro' (HP.out.last hn HO.out HC.out (by omega))
      clear HP hab
      go_wp2_with fail
      refine HS.out.mono ?_
      rintro e W2 ⟨rfl, h2⟩
      have H2 := Hid.intro' h2
      clear h2 HS
      rename World => Wr
      go_wp2_with fail
      go_loopw [6, 7, 8] (fun zv _ _ wr => ∃ (z : Nat), zv = .int .i64 (z : Int) ∧ 0 < z ∧ z ≤ 2000 ∧ Hid (Ph2 w wr B g cap n k l z)) (fun zv _ _ _ => 2000 - (intOf zv).toNat)
      case atStart => exact ⟨20, rfl, by omega, by omega, H2⟩
      case round =>
        clear H2
        obtain ⟨z, rfl, hz, hz2, HP⟩ := hrel
        by_cases hzn : z < n
        · have hzz : (z : Int) < (n : Int) := by omega
          have H3 := Hid.intro' HP.out.begin
          obtain ⟨z2, hz3⟩ : ∃ z2, z2 = 2 * z := ⟨_, rfl⟩
          have ez : 2 * (z : Int) = (z2 : Int) := by omega
          have ez' : (z : Int) * 2 = (z2 : Int) := by omega
          have hz4 : z2 ≤ 2000 := by omega
          have HZ := Hid.intro' hz3
          clear HP hz3
          rename World => Wq
          go_wp2_with fail
          go_loopw [7, 8] (fun av bv wr => ∃ (a b : Nat), av = .int .i64 (a : Int) ∧ bv = .int .i64 (b : Int) ∧ b = a + z2 ∧ Hid (Ph3 w wr B g cap n k l z a)) (fun av _ _ => n + 1 - (intOf av).toNat)
          case atStart => exact ⟨0, z2, rfl, rfl, by omega, H3⟩
          case round =>
            clear H3
            obtain ⟨a, b, rfl, rfl, hab, H3⟩ := hrel
            have han := H3.out.le
            by_cases hbn : b ≤ n
            · have hbz : (b : Int) ≤ (n : Int) := by omega
              obtain ⟨m, hm⟩ : ∃ m, m = a + z := ⟨_, rfl⟩
              have em : (a : Int) + (z : Int) = (m : Int) := by omega
              have HS := Hid.intro' (H3.out.step hz hn HO.out HC.out hm (by have := HZ.out; omega : b = a + 2 * z) hbn)
              have HAB := Hid.intro' hab
              have hm2 : m ≤ 4000 := by omega
              clear H3 hab hm
              go_wp2_with fail
              refine HS.out.mono ?_
              rintro e W4 ⟨rfl, h4⟩
              have H4 := Hid.intro' h4
              clear h4 HS
              go_wp2
              go_roundw
              case rel => exact ⟨b, b + z2, rfl, by go_num, rfl, H4⟩
              case measure => simp [intOf]; have := HAB.out; have := HZ.out; omega
            · have hbz : ¬ (b : Int) ≤ (n : Int) := by omega
              obtain ⟨m, hm⟩ : ∃ m, m = a + z := ⟨_, rfl⟩
              have em : (a : Int) + (z : Int) = (m : Int) := by omega
              have hm2 : m ≤ 4000 := by omega
              by_cases hmn : m < n
              · have hmz : (m : Int) < (n : Int) := by omega
                have HS := Hid.intro' (H3.out.rest hz hn HO.out HC.out hm (by have := HZ.out; omega) hmn)
                clear H3 hab hm
                go_wp2_with fail
                refine HS.out.mono ?_
                rintro e W4 ⟨rfl, h4⟩
                rw [← HZ.out] at h4
                have H4 := Hid.intro' h4
                clear h4 HS
                go_wp2
                go_roundw
                case rel => exact ⟨z2, by go_num, by have := HZ.out; omega, hz4, H4⟩
                case measure => simp [intOf]; have := HZ.out; omega
              · have hmz : ¬ (m : Int) < (n : Int) := by omega
                have h4 := H3.out.none hz hm (by have := HZ.out; omega) hmn
                rw [← HZ.out] at h4
                have H4 := Hid.intro' h4
                clear h4 H3 hab hm
                go_wp2
                go_roundw
                case rel => exact ⟨z2, by go_num, by have := HZ.out; omega, hz4, H4⟩
                case measure => simp [intOf]; have := HZ.out; omega
        · have hzz : ¬ (z : Int) < (n : Int) := by omega
          have H5 := Hid.intro' (HP.out.done hz (by omega))
          clear HP
          go_wp2
          go_end0
          exact ⟨rfl, H5.out⟩

set_option maxRecDepth 100000 in
set_option maxHeartbeats 2000000 in
/-- a row is put in order -/
theorem sortS_any (w : World) (B g cap n : Nat) (l : List Int) (v1 v2 : Value) (k : Int → Int) (ok : Int → Prop) (hn : n ≤ 1000) (hT : SO.Td k l) (ho : ∀ x ∈ l, ok x) (hc : Ck v1 v2 k ok w g) (W : World) (h : Srt w W B g cap n l) :
    Calls Try.prog 41 #[.slice (some ⟨g, 0, none⟩) n cap, .func (.func 42) #[] #[v1, v2]] W fun e W' => e = .returned (.tuple #[]) ∧ Q1 w W' B g cap n k [] l [] := by
  have HS := Hid.intro' (stable_any w B g cap n l v1 v2 k ok hn hT ho hc W h)
  clear hT ho hc h
  go_enter Try.func41, Try.ntmps41
  go_wp2_with fail
  refine HS.out.mono ?_
  rintro e W2 ⟨rfl, h2⟩
  have H2 := Hid.intro' h2
  clear h2 HS
  go_wp2
  go_end0
  exact ⟨rfl, H2.out⟩

end Go.Proofs.Ytdfdkddjkhcgdah
