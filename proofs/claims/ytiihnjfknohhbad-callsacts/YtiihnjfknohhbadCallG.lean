/- A book in memory; All, Barred, Bar, Tick, Lamps. -/
import Derived.Test.YtiihnjfknohhbadCallE
import Derived.Test.YtiihnjfknohhbadNumA
import Derived.StillTailTactics
namespace Go.Proofs.Ytiihnjfknohhbad
open Go.RowKit

/-- a book: its block b, its row v, the calls L, the floors s that are barred; all of it in blocks from B on -/
structure BK (W : World) (B b : Nat) (F C : Int) (v : Value) (s : Nat) (L : List Cl) : Prop where
  pb : PB W b F C v s
  rw : RW W B v L
  ne : v.ownBlock ≠ some b
  bb : B ≤ b
  sl : s < 18446744073709551616
/-- what a book is made of -/
def Fp (b : Nat) (v : Value) (k : Nat) : Prop := k = b ∨ v.ownBlock = some k
/-- its row is the old one, or a new one -/
def Nx (w : World) (v v' : Value) : Prop := ∀ k, v'.ownBlock = some k → v.ownBlock = some k ∨ w.heap.size ≤ k
section
variable {W W' : World} {B b : Nat} {F C : Int} {v : Value} {s : Nat} {L : List Cl}
theorem BK.below' (h : BK W B b F C v s L) (hb : Below W.heap.size W W') : BK W' B b F C v s L := ⟨h.pb.below' hb, h.rw.below' hb, h.ne, h.bb, h.sl⟩
theorem BK.kp {G : Nat → Prop} (h : BK W B b F C v s L) (k : Kp G W W') (hG : ∀ i, Fp b v i → ¬ G i) : BK W' B b F C v s L :=
  ⟨h.pb.kp k (hG b (.inl rfl)), h.rw.kp k (fun g hg => hG g (.inr hg)), h.ne, h.bb, h.sl⟩
theorem BK.lo (h : BK W B b F C v s L) : ∀ i, Fp b v i → B ≤ i ∧ i < W.heap.size := by
  rintro i (rfl | hi)
  · exact ⟨h.bb, h.pb.lt⟩
  · exact h.rw.lt i hi
end

set_option maxHeartbeats 400000 in
theorem all_any (B b : Nat) (F C : Int) (v : Value) (s : Nat) (L : List Cl) (w : World) (H : BK w B b F C v s L) (hL : L.length ≤ 128) :
    Calls Try.prog 18 #[.pointer (some ⟨b, 0, none⟩)] w fun e w' => ∃ v', e = .returned v' ∧ RW w' w.heap.size v' L ∧ Below w.heap.size w w' := by
  have c2 := H.pb.c2
  have HC := Hid.intro' (clone_any B v L w H.rw hL)
  clear H
  go_enter Try.func18, Try.ntmps18
  go_wp2_with fail
  refine HC.out.mono ?_
  rintro e w' ⟨v', rfl, hr, hb⟩
  have HRN := Hid.intro' hr
  clear hr c2
  go_wp2
  go_ret
  exact ⟨v', rfl, HRN.out, hb⟩

set_option maxHeartbeats 400000 in
theorem barred_any (B b : Nat) (F C : Int) (v : Value) (s : Nat) (L : List Cl) (w : World) (H : BK w B b F C v s L) :
    Calls Try.prog 21 #[.pointer (some ⟨b, 0, none⟩)] w fun e w' => e = .returned (.int .u64 (s : Int)) ∧ w' = w := by
  have c3 := H.pb.c3
  clear H
  go_enter Try.func21, Try.ntmps21
  go_wp2
  go_ret
  exact ⟨rfl, rfl⟩

/-- the floors that are barred behind a Bar -/
def barN (F f : Int) (y : Bool) (s : Nat) : Nat := if (decide (0 ≤ f) && decide (f < F)) = true then (if y = true then FM.withN s f else FM.lessN s f) else s
/-- its answer -/
def barE (F f : Int) : Int := if (decide (0 ≤ f) && decide (f < F)) = true then 0 else 2

theorem BK.set3 {W : World} {B b : Nat} {F C : Int} {v : Value} {s : Nat} {L : List Cl} (h : BK W B b F C v s L) (u : Nat) (hu : u < 18446744073709551616) : BK (W.setCell ⟨b, 3, none⟩ (.int .u64 (u : Int))) B b F C v u L :=
  ⟨h.pb.set3 u, h.rw.keep (fun g hg => Below.heap_setCell W ⟨b, 3, none⟩ _ g (fun e => h.ne (by rw [hg, e]))), h.ne, h.bb, hu⟩

set_option maxHeartbeats 400000 in
theorem bar_any (B b : Nat) (F C : Int) (v : Value) (s : Nat) (L : List Cl) (f : Int) (y : Bool) (w : World) (H : BK w B b F C v s L) :
    Calls Try.prog 11 #[.pointer (some ⟨b, 0, none⟩), .int .i64 f, .bool y] w fun e w' => e = .returned (.int .i64 (barE F f)) ∧ BK w' B b F C v (barN F f y s) L ∧ Kp (Fp b v) w w' := by
  have c3 := H.pb.c3
  have f3 := H.pb.fr 3
  have HP := Hid.intro' H.pb
  have HB := Hid.intro' H
  have hs := H.sl
  have e1 : ∀ z, z = (decide (0 ≤ f) && decide (f < F)) → barN F f y s = if z = true then (if y = true then FM.withN s f else FM.lessN s f) else s := fun z hz => by rw [hz]; rfl
  have e2 : ∀ z, z = (decide (0 ≤ f) && decide (f < F)) → barE F f = if z = true then 0 else 2 := fun z hz => by rw [hz]; rfl
  have HC := Hid.intro' (hasFloor_any b F C v s f w H.pb)
  clear H
  generalize (decide (0 ≤ f) && decide (f < F)) = z at e1 e2 HC
  rw [e1 z rfl, e2 z rfl]
  clear e1 e2
  cases z with
  | false =>
    simp only [Bool.false_eq_true, if_false]
    go_enter Try.func11, Try.ntmps11
    go_wp2_with (go_at_call 22; refine HC.out.mono ?_; rintro e w' ⟨rfl, rfl⟩)
    go_ret
    exact ⟨rfl, HB.out, Kp.refl _ _⟩
  | true =>
    simp only [if_true]
    cases y with
    | true =>
      simp only [if_true]
      go_enter Try.func11, Try.ntmps11
      go_wp2_with (first | (go_at_call 22; refine HC.out.mono ?_; rintro e w' ⟨rfl, rfl⟩) | (go_at_call 26; refine (with_any _ _ _ hs).mono ?_; rintro e w' ⟨rfl, rfl⟩))
      go_ret
      exact ⟨rfl, HB.out.set3 _ (FM.withN_lt f hs), (Kp.refl _ _).set b 3 _ (fun _ => .inl rfl)⟩
    | false =>
      simp only [Bool.false_eq_true, if_false]
      go_enter Try.func11, Try.ntmps11
      go_wp2_with (first | (go_at_call 22; refine HC.out.mono ?_; rintro e w' ⟨rfl, rfl⟩) | (go_at_call 27; refine (less_any _ _ _ hs).mono ?_; rintro e w' ⟨rfl, rfl⟩))
      go_ret
      exact ⟨rfl, HB.out.set3 _ (FM.lessN_lt f hs), (Kp.refl _ _).set b 3 _ (fun _ => .inl rfl)⟩

theorem older_cl {c : Cl} (h1 : 0 ≤ c.ag) (h2 : c.ag ≤ 1099511627776) : NumM.cl (NumM.cl c.ag + NumM.cl 1) = (KM.older c).ag := by
  unfold KM.older NumM.cl
  show _ = if c.ag < 1099511627776 then c.ag + 1 else c.ag
  repeat' split
  all_goals omega

/-- the first k are a tick older -/
def tk (L : List Cl) (k : Nat) : List Cl := (L.take k).map KM.older ++ L.drop k
theorem tk_zero (L : List Cl) : tk L 0 = L := by simp [tk]
theorem tk_length (L : List Cl) (k : Nat) (h : k ≤ L.length) : (tk L k).length = L.length := by simp [tk]; omega
theorem tk_at (L : List Cl) (k : Nat) : (tk L k)[k]? = L[k]? := by
  unfold tk
  by_cases h : k ≤ L.length
  · rw [List.getElem?_append_right (by simp; omega)]
    simp [Nat.min_eq_left h]
  · rw [List.getElem?_eq_none (by simp; omega), List.getElem?_eq_none (by omega)]
theorem tk_succ {L : List Cl} {k : Nat} {y : Cl} (h : L[k]? = some y) : (tk L k).set k (KM.older y) = tk L (k + 1) := by
  have hk : k < L.length := (List.getElem?_eq_some_iff.1 h).1
  unfold tk
  rw [List.set_append_right k _ (by simp; omega), take_get h]
  simp only [List.length_map, List.length_take, Nat.min_eq_left (Nat.le_of_lt hk), Nat.sub_self, List.map_append, List.append_assoc]
  rw [List.drop_eq_getElem_cons hk]
  rfl
theorem tk_all (L : List Cl) : tk L L.length = L.map KM.older := by simp [tk]

set_option maxHeartbeats 1000000 in
theorem tick_any (B b : Nat) (F C n0 : Int) (v : Value) (s : Nat) (L : List Cl) (w : World) (H : BK w B b F C v s L) (G : KM.Gd F C n0 L) (hn0 : n0 ≤ 1000) :
    Calls Try.prog 13 #[.pointer (some ⟨b, 0, none⟩)] w fun e w' => e = .returned (.tuple #[]) ∧ BK w' B b F C v s (L.map KM.older) ∧ Kp (Fp b v) w w' := by
  have c2 := H.pb.c2
  have HB := Hid.intro' H
  have HG := Hid.intro' G
  have hL := G.len
  rcases H.rw.form with ⟨rfl, rfl⟩ | ⟨g, cap, rfl, hB, hlt, hcap⟩
  · clear H G
    go_enter Try.func13, Try.ntmps13
    go_wp2
    refine wp_loop_rounds 1 ?_
    rw [rounds_succ]
    go_wp2
    go_end0
    exact ⟨rfl, HB.out, Kp.refl _ _⟩
  · generalize hn : L.length = n at hcap hL c2
    have HN := Hid.intro' hn
    clear H G hn
    go_enter Try.func13, Try.ntmps13
    go_wp2
    go_loopw [2, 8] (fun _ i wr => ∃ k : Nat, k ≤ n ∧ i = .int .i64 k ∧ Hid (BK wr B b F C (.slice (some ⟨g, 0, none⟩) L.length cap) s (tk L k)) ∧ Hid (Kp (Fp b (.slice (some ⟨g, 0, none⟩) L.length cap)) w wr)) (fun _ i _ => n - (intOf i).toNat)
    case atStart => exact ⟨0, Nat.zero_le _, rfl, by rw [tk_zero]; exact HB, Kp.refl _ _⟩
    case round =>
      obtain ⟨k, hk, rfl, HBr, HKr⟩ := hrel
      by_cases hlt2 : k < n
      · have hkz : (k : Int) < (n : Int) := by omega
        have hkL : k < (tk L k).length := by have := HN.out; rw [tk_length L k (by omega)]; omega
        obtain ⟨y, hy, _, _, d2, _⟩ := HBr.out.rw.elem hkL
        have HY := Hid.intro' hy
        have d2r := HBr.out.rw.fr (k * 4 + 2)
        have e2 := HBr.out.pb.c2
        rw [HN.out] at e2
        have hyL : L[k]? = some y := (tk_at L k).symm.trans hy
        have hag := HG.out.age y (List.mem_of_getElem? hyL)
        obtain ⟨a, ha⟩ : ∃ a, a = (KM.older y).ag := ⟨_, rfl⟩
        have HA : Hid (∀ W, Calls Try.prog 28 #[.int .i64 y.ag, .int .i64 1] W fun e w'' => e = .returned (.int .i64 a) ∧ w'' = W) := fun W => by
          have := add_any y.ag 1 W
          rwa [older_cl hag.1 (by omega), ← ha] at this
        have HAE := Hid.intro' ha
        have HYL := Hid.intro' hyL
        clear hkL hy ha hyL hag
        go_wp2_with fail
        refine wp_region_still_tail 16 (by kernel_rfl) (by kernel_rfl) ?_
        simp only [List.take_succ_cons, List.take_zero, List.drop_succ_cons, List.drop_zero]
        unfold wpStill
        generalize hK : wpStill Try.prog _ _ _ _ = K
        go_simp
        subst hK
        unfold wpStill
        generalize hK : wpStill Try.prog _ _ _ _ = K
        go_simp
        subst hK
        unfold wpStill
        generalize hK : wpStill Try.prog _ _ _ _ = K
        go_simp
        subst hK
        unfold wpStill
        generalize hK : wpStill Try.prog _ _ _ _ = K
        go_simp
        subst hK
        unfold wpStill
        generalize hK : wpStill Try.prog _ _ _ _ = K
        go_simp
        subst hK
        unfold wpStill
        generalize hK : wpStill Try.prog _ _ _ _ = K
        go_simp
        subst hK
        unfold wpStill
        generalize hK : wpStill Try.prog _ _ _ _ = K
        go_simp
        subst hK
        unfold wpStill
        generalize hK : wpStill Try.prog _ _ _ _ = K
        go_simp
        subst hK
        unfold wpStill
        generalize hK : wpStill Try.prog _ _ _ _ = K
        go_simp
        subst hK
        unfold wpStill
        generalize hK : wpStill Try.prog _ _ _ _ = K
        go_simp
        subst hK
        unfold wpStill
        generalize hK : wpStill Try.prog _ _ _ _ = K
        go_simp
        subst hK
        unfold wpStill
        generalize hK : wpStill Try.prog _ _ _ _ = K
        go_simp
        subst hK
        unfold wpStill
        generalize hK : wpStill Try.prog _ _ _ _ = K
        go_simp
        subst hK
        unfold wpStill
        generalize hK : wpStill Try.prog _ _ _ _ = K
        go_simp
        refine ⟨_, HA.out _, ?_⟩
        subst hK
        unfold wpStill
        generalize hK : wpStill Try.prog _ _ _ _ = K
        go_simp
        subst hK
        unfold wpStill
        generalize hK : wpStill Try.prog _ _ _ _ = K
        go_simp
        subst hK
        refine wpStill_nil ?_
        go_wp2
        have hne : b ≠ g := fun e => HBr.out.ne (by rw [e]; rfl)
        go_roundw
        case rel =>
          refine ⟨k + 1, by omega, by go_num, (show Hid _ from ?_), (show Hid _ from ?_)⟩
          · rw [← tk_succ HYL.out]
            have h1 := HBr.out.rw.aged HY.out a
            rw [HAE.out] at h1
            have h2 : PB (wr.setCell ⟨g, k * 4 + 2, none⟩ (.int .i64 (KM.older y).ag)) b F C (.slice (some ⟨g, 0, none⟩) L.length cap) s := HBr.out.pb.keep (Below.heap_setCell wr ⟨g, k * 4 + 2, none⟩ _ b hne)
            rw [HAE.out]
            exact ⟨h2, h1, HBr.out.ne, HBr.out.bb, HBr.out.sl⟩
          · exact (HKr.out.set g _ _ (fun _ => .inr rfl)).drew
        case measure => simp [intOf]; omega
      · obtain rfl : k = n := by omega
        have hkz : ¬ (k : Int) < (k : Int) := by omega
        go_wp2
        go_end0
        have e := HN.out
        subst e
        have := HBr.out
        rw [tk_all] at this
        exact ⟨rfl, this, HKr.out⟩

theorem u64_eq {a b : Nat} (h : a = b) : Value.int .u64 (a : Int) = .int .u64 (b : Int) := by rw [h]
set_option maxHeartbeats 1000000 in
theorem lamps_any (B b : Nat) (F C : Int) (v : Value) (s : Nat) (L : List Cl) (x : Int) (w : World) (H : BK w B b F C v s L) (hL : L.length ≤ 128) :
    Calls Try.prog 19 #[.pointer (some ⟨b, 0, none⟩), .int .i64 x] w fun e w' => e = .returned (.tuple #[.int .u64 (KM.lamp KM.isU L : Nat), .int .u64 (KM.lamp KM.isD L : Nat), .int .u64 (KM.lamp (KM.isI x) L : Nat)]) ∧ Below w.heap.size w w' := by
  have c2 := H.pb.c2
  have HR := Hid.intro' H.rw
  rcases H.rw.form with ⟨rfl, rfl⟩ | ⟨g, cap, rfl, hB, hlt, hcap⟩
  · clear H
    go_enter Try.func19, Try.ntmps19
    go_wp2
    refine wp_loop_rounds 1 ?_
    rw [rounds_succ]
    go_wp2
    go_ret3
    exact ⟨rfl, Below.refl _ _⟩
  · generalize hn : L.length = n at hcap hL c2
    have HN := Hid.intro' hn
    clear H hn
    go_enter Try.func19, Try.ntmps19
    go_wp2
    go_loopw [4, 5, 6, 8, 14] (fun su sd si _ i wr => ∃ k : Nat, k ≤ n ∧ i = .int .i64 k ∧ su = .int .u64 (KM.lamp KM.isU (L.take k) : Nat) ∧ sd = .int .u64 (KM.lamp KM.isD (L.take k) : Nat) ∧ si = .int .u64 (KM.lamp (KM.isI x) (L.take k) : Nat) ∧ Hid (Below w.heap.size w wr)) (fun _ _ _ _ i _ => n - (intOf i).toNat)
    case atStart => exact ⟨0, Nat.zero_le _, rfl, rfl, rfl, rfl, Below.refl _ _⟩
    case round =>
      obtain ⟨k, hk, rfl, rfl, rfl, rfl, HBr⟩ := hrel
      by_cases hlt2 : k < n
      · have hkz : (k : Int) < (n : Int) := by omega
        have hkL : k < L.length := by have := HN.out; omega
        obtain ⟨y, hy, d0, d1, d2, d3⟩ := (HR.out.below' HBr.out).elem hkL
        have l1 := KM.lamp_lt KM.isU (L.take k)
        have l2 := KM.lamp_lt KM.isD (L.take k)
        have l3 := KM.lamp_lt (KM.isI x) (L.take k)
        have hyk : L[k] = y := by have := List.getElem?_eq_getElem hkL; rw [hy] at this; exact (Option.some.inj this).symm
        have t1 := KM.lamp_take KM.isU L k hkL
        have t2 := KM.lamp_take KM.isD L k hkL
        have t3 := KM.lamp_take (KM.isI x) L k hkL
        rw [hyk] at t1 t2 t3
        generalize KM.lamp KM.isU (L.take k) = U at l1 t1 ⊢
        generalize KM.lamp KM.isD (L.take k) = D at l2 t2 ⊢
        generalize KM.lamp (KM.isI x) (L.take k) = I at l3 t3 ⊢
        have T1 := Hid.intro' t1
        have T2 := Hid.intro' t2
        have T3 := Hid.intro' t3
        clear hkL hy hyk t1 t2 t3
        go_wp2_with (first | (go_at_call 26; refine (with_any _ _ _ (by assumption)).mono ?_; rintro e w' ⟨rfl, rfl⟩) | go_in)
        all_goals
          go_roundw
          case rel =>
            have hsz := HBr.out.size
            refine ⟨k + 1, by omega, by go_num, u64_eq ?_, u64_eq ?_, u64_eq ?_, (show Hid _ from ?_)⟩
            · rw [T1.out]; simp_all [KM.isU]
            · rw [T2.out]; simp_all [KM.isD]
            · rw [T3.out]; simp_all [KM.isI]
            · repeat (first | exact HBr.out | refine Below.alloc ?_ (by first | omega | (simp; omega)) _)
          case measure => simp [intOf]; omega
      · obtain rfl : k = n := by omega
        have hkz : ¬ (k : Int) < (k : Int) := by omega
        have e := HN.out
        have ht : L.take k = L := List.take_of_length_le (by omega)
        rw [ht]
        clear e ht
        go_wp2
        go_ret3
        exact ⟨rfl, HBr.out⟩

end Go.Proofs.Ytiihnjfknohhbad
