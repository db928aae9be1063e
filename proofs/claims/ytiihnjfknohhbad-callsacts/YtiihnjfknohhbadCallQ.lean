/- Press: the ways that note nothing, and the whole. -/
import Derived.Test.YtiihnjfknohhbadCallP
namespace Go.Proofs.Ytiihnjfknohhbad
open Go.RowKit

set_option maxHeartbeats 1000000 in
theorem press_2a (B b : Nat) (F C : Int) (v : Value) (s : Nat) (L : List Cl) (c : Cl) (w : World) (H : BK w B b F C v s L) (hfl : (decide (0 ≤ c.fl) && decide (c.fl < F)) = false) :
    Calls Try.prog 9 #[.pointer (some ⟨b, 0, none⟩), .agg #[.int .i64 c.fl, .int .i64 c.ca, .int .i64 c.ag, .bool c.up]] w fun e w' => e = .returned (.int .i64 2) ∧ Below w.heap.size w w' := by
  obtain ⟨ao, n, cap, rfl⟩ := H.rw.slice
  have hn := H.rw.len
  have HN := Hid.intro' hn
  clear hn
  have HM : Hid (Mp w (w.alloc (.cells #[.int .i64 c.fl, .int .i64 c.ca, .int .i64 c.ag, .bool c.up] 35)) B b F C (.slice ao n cap) s L c) := ⟨H.below' ((Below.refl _ _).alloc (Nat.le_refl _) _), CB.new w c, (Below.refl _ _).alloc (Nat.le_refl _) _, fun i hi => (H.lo i hi).2⟩
  have HF : Hid (∀ W, PB W b F C (.slice ao n cap) s → Calls Try.prog 22 #[.pointer (some ⟨b, 0, none⟩), .int .i64 c.fl] W fun e w' => e = .returned (.bool false) ∧ w' = W) := fun W hW => by
    have := hasFloor_any b F C _ s c.fl W hW
    rwa [hfl] at this
  have m1 := HM.out.bk.pb.c1
  have m2 := HM.out.bk.pb.c2
  have m3 := HM.out.bk.pb.c3
  clear H
  go_enter Try.func9, Try.ntmps9
  go_wp2_with fail
  generalize w.alloc (.cells #[.int .i64 c.fl, .int .i64 c.ca, .int .i64 c.ag, .bool c.up] 35) = W1 at HM m1 m2 m3 ⊢
  have k0 := HM.out.cb.c0
  have k1 := HM.out.cb.c1
  have k2 := HM.out.cb.c2
  have k3 := HM.out.cb.c3
  go_quiet ((go_at_call 22; exact Calls.quiet_of_same (HF.out _ (HM.out.drewN _).bk.pb)))
  have HM2 := Hid.intro' (HM.out.drewN nq)
  generalize W1.drewN nq = W2 at HM2 ⊢
  clear m1 m2 m3 k0 k1 k2 k3 HM HF
  go_wp2
  go_ret
  exact ⟨rfl, HM2.out.bel⟩

set_option maxHeartbeats 1000000 in
theorem press_2b (B b : Nat) (F C : Int) (v : Value) (s : Nat) (L : List Cl) (c : Cl) (w : World) (H : BK w B b F C v s L) (hfl : (decide (0 ≤ c.fl) && decide (c.fl < F)) = true) (h : c.ca < -1) :
    Calls Try.prog 9 #[.pointer (some ⟨b, 0, none⟩), .agg #[.int .i64 c.fl, .int .i64 c.ca, .int .i64 c.ag, .bool c.up]] w fun e w' => e = .returned (.int .i64 2) ∧ Below w.heap.size w w' := by
  obtain ⟨ao, n, cap, rfl⟩ := H.rw.slice
  have hn := H.rw.len
  have HN := Hid.intro' hn
  clear hn
  have HM : Hid (Mp w (w.alloc (.cells #[.int .i64 c.fl, .int .i64 c.ca, .int .i64 c.ag, .bool c.up] 35)) B b F C (.slice ao n cap) s L c) := ⟨H.below' ((Below.refl _ _).alloc (Nat.le_refl _) _), CB.new w c, (Below.refl _ _).alloc (Nat.le_refl _) _, fun i hi => (H.lo i hi).2⟩
  have HF : Hid (∀ W, PB W b F C (.slice ao n cap) s → Calls Try.prog 22 #[.pointer (some ⟨b, 0, none⟩), .int .i64 c.fl] W fun e w' => e = .returned (.bool true) ∧ w' = W) := fun W hW => by
    have := hasFloor_any b F C _ s c.fl W hW
    rwa [hfl] at this
  have g1 : decide (c.ca < -1) = true := by simp; omega
  have m1 := HM.out.bk.pb.c1
  have m2 := HM.out.bk.pb.c2
  have m3 := HM.out.bk.pb.c3
  clear H
  go_enter Try.func9, Try.ntmps9
  go_wp2_with fail
  generalize w.alloc (.cells #[.int .i64 c.fl, .int .i64 c.ca, .int .i64 c.ag, .bool c.up] 35) = W1 at HM m1 m2 m3 ⊢
  have k0 := HM.out.cb.c0
  have k1 := HM.out.cb.c1
  have k2 := HM.out.cb.c2
  have k3 := HM.out.cb.c3
  go_quiet ((go_at_call 22; exact Calls.quiet_of_same (HF.out _ (HM.out.drewN _).bk.pb)))
  have HM2 := Hid.intro' (HM.out.drewN nq)
  generalize W1.drewN nq = W2 at HM2 ⊢
  clear m1 m2 m3 k0 k1 k2 k3 HM HF
  go_wp2
  go_ret
  exact ⟨rfl, HM2.out.bel⟩

set_option maxHeartbeats 1000000 in
theorem press_2c (B b : Nat) (F C : Int) (v : Value) (s : Nat) (L : List Cl) (c : Cl) (w : World) (H : BK w B b F C v s L) (hfl : (decide (0 ≤ c.fl) && decide (c.fl < F)) = true) (h : -1 ≤ c.ca) (h2 : C ≤ c.ca) :
    Calls Try.prog 9 #[.pointer (some ⟨b, 0, none⟩), .agg #[.int .i64 c.fl, .int .i64 c.ca, .int .i64 c.ag, .bool c.up]] w fun e w' => e = .returned (.int .i64 2) ∧ Below w.heap.size w w' := by
  obtain ⟨ao, n, cap, rfl⟩ := H.rw.slice
  have hn := H.rw.len
  have HN := Hid.intro' hn
  clear hn
  have HM : Hid (Mp w (w.alloc (.cells #[.int .i64 c.fl, .int .i64 c.ca, .int .i64 c.ag, .bool c.up] 35)) B b F C (.slice ao n cap) s L c) := ⟨H.below' ((Below.refl _ _).alloc (Nat.le_refl _) _), CB.new w c, (Below.refl _ _).alloc (Nat.le_refl _) _, fun i hi => (H.lo i hi).2⟩
  have HF : Hid (∀ W, PB W b F C (.slice ao n cap) s → Calls Try.prog 22 #[.pointer (some ⟨b, 0, none⟩), .int .i64 c.fl] W fun e w' => e = .returned (.bool true) ∧ w' = W) := fun W hW => by
    have := hasFloor_any b F C _ s c.fl W hW
    rwa [hfl] at this
  have g1 : decide (c.ca < -1) = false := by simp; omega
  have g2 : decide (C ≤ c.ca) = true := by simp; omega
  have m1 := HM.out.bk.pb.c1
  have m2 := HM.out.bk.pb.c2
  have m3 := HM.out.bk.pb.c3
  clear H
  go_enter Try.func9, Try.ntmps9
  go_wp2_with fail
  generalize w.alloc (.cells #[.int .i64 c.fl, .int .i64 c.ca, .int .i64 c.ag, .bool c.up] 35) = W1 at HM m1 m2 m3 ⊢
  have k0 := HM.out.cb.c0
  have k1 := HM.out.cb.c1
  have k2 := HM.out.cb.c2
  have k3 := HM.out.cb.c3
  go_quiet ((go_at_call 22; exact Calls.quiet_of_same (HF.out _ (HM.out.drewN _).bk.pb)))
  have HM2 := Hid.intro' (HM.out.drewN nq)
  generalize W1.drewN nq = W2 at HM2 ⊢
  clear m1 m2 m3 k0 k1 k2 k3 HM HF
  go_wp2
  go_ret
  exact ⟨rfl, HM2.out.bel⟩

set_option maxHeartbeats 1000000 in
theorem press_1 (B b : Nat) (F C : Int) (v : Value) (s : Nat) (L : List Cl) (c : Cl) (w : World) (H : BK w B b F C v s L) (f1 : 2 ≤ F) (f2 : F ≤ 64) (hr : KM.inR F C c = true) (hc : KM.can F c = false) :
    Calls Try.prog 9 #[.pointer (some ⟨b, 0, none⟩), .agg #[.int .i64 c.fl, .int .i64 c.ca, .int .i64 c.ag, .bool c.up]] w fun e w' => e = .returned (.int .i64 1) ∧ Below w.heap.size w w' := by
  obtain ⟨r1, r2, r3, r4⟩ := KM.inR_iff.1 hr
  have hfl : (decide (0 ≤ c.fl) && decide (c.fl < F)) = true := by simp [r1, r2]
  obtain ⟨ao, n, cap, rfl⟩ := H.rw.slice
  have hn := H.rw.len
  have HN := Hid.intro' hn
  clear hn
  have HM : Hid (Mp w (w.alloc (.cells #[.int .i64 c.fl, .int .i64 c.ca, .int .i64 c.ag, .bool c.up] 35)) B b F C (.slice ao n cap) s L c) := ⟨H.below' ((Below.refl _ _).alloc (Nat.le_refl _) _), CB.new w c, (Below.refl _ _).alloc (Nat.le_refl _) _, fun i hi => (H.lo i hi).2⟩
  have HF : Hid (∀ W, PB W b F C (.slice ao n cap) s → Calls Try.prog 22 #[.pointer (some ⟨b, 0, none⟩), .int .i64 c.fl] W fun e w' => e = .returned (.bool true) ∧ w' = W) := fun W hW => by
    have := hasFloor_any b F C _ s c.fl W hW
    rwa [hfl] at this
  have g1 : decide (c.ca < -1) = false := by simp; omega
  have g2 : decide (C ≤ c.ca) = false := by simp; omega
  have m1 := HM.out.bk.pb.c1
  have m2 := HM.out.bk.pb.c2
  have m3 := HM.out.bk.pb.c3
  clear H
  go_enter Try.func9, Try.ntmps9
  go_wp2_with fail
  generalize w.alloc (.cells #[.int .i64 c.fl, .int .i64 c.ca, .int .i64 c.ag, .bool c.up] 35) = W1 at HM m1 m2 m3 ⊢
  have k0 := HM.out.cb.c0
  have k1 := HM.out.cb.c1
  have k2 := HM.out.cb.c2
  have k3 := HM.out.cb.c3
  go_quiet ((go_at_call 22; exact Calls.quiet_of_same (HF.out _ (HM.out.drewN _).bk.pb)))
  have HM2 := Hid.intro' (HM.out.drewN nq)
  generalize W1.drewN nq = W2 at HM2 ⊢
  clear m1 m2 m3 k0 k1 k2 k3 HM HF
  have k0 := HM2.out.cb.c0
  have k1 := HM2.out.cb.c1
  have k2 := HM2.out.cb.c2
  have k3 := HM2.out.cb.c3
  go_wp2_with fail
  have hcb := canBe_any b F C _ s c W2 HM2.out.bk.pb f1 f2
  rw [hc] at hcb
  refine hcb.mono ?_
  clear hcb
  rintro e W3 ⟨rfl, hb3⟩
  have HM3 := Hid.intro' (HM2.out.next hb3)
  clear hb3 HM2 k0 k1 k2 k3
  go_wp2
  go_ret
  exact ⟨rfl, HM3.out.bel⟩

set_option maxHeartbeats 1000000 in
theorem press_8 (B b : Nat) (F C : Int) (v : Value) (s : Nat) (L : List Cl) (c : Cl) (w : World) (H : BK w B b F C v s L) (f1 : 2 ≤ F) (f2 : F ≤ 64) (hr : KM.inR F C c = true) (hc : KM.can F c = true) (hbar : FM.hasN s c.fl = true) :
    Calls Try.prog 9 #[.pointer (some ⟨b, 0, none⟩), .agg #[.int .i64 c.fl, .int .i64 c.ca, .int .i64 c.ag, .bool c.up]] w fun e w' => e = .returned (.int .i64 8) ∧ Below w.heap.size w w' := by
  obtain ⟨r1, r2, r3, r4⟩ := KM.inR_iff.1 hr
  have hfl : (decide (0 ≤ c.fl) && decide (c.fl < F)) = true := by simp [r1, r2]
  obtain ⟨ao, n, cap, rfl⟩ := H.rw.slice
  have hn := H.rw.len
  have HN := Hid.intro' hn
  clear hn
  have HM : Hid (Mp w (w.alloc (.cells #[.int .i64 c.fl, .int .i64 c.ca, .int .i64 c.ag, .bool c.up] 35)) B b F C (.slice ao n cap) s L c) := ⟨H.below' ((Below.refl _ _).alloc (Nat.le_refl _) _), CB.new w c, (Below.refl _ _).alloc (Nat.le_refl _) _, fun i hi => (H.lo i hi).2⟩
  have HF : Hid (∀ W, PB W b F C (.slice ao n cap) s → Calls Try.prog 22 #[.pointer (some ⟨b, 0, none⟩), .int .i64 c.fl] W fun e w' => e = .returned (.bool true) ∧ w' = W) := fun W hW => by
    have := hasFloor_any b F C _ s c.fl W hW
    rwa [hfl] at this
  have g1 : decide (c.ca < -1) = false := by simp; omega
  have g2 : decide (C ≤ c.ca) = false := by simp; omega
  have m1 := HM.out.bk.pb.c1
  have m2 := HM.out.bk.pb.c2
  have m3 := HM.out.bk.pb.c3
  clear H
  go_enter Try.func9, Try.ntmps9
  go_wp2_with fail
  generalize w.alloc (.cells #[.int .i64 c.fl, .int .i64 c.ca, .int .i64 c.ag, .bool c.up] 35) = W1 at HM m1 m2 m3 ⊢
  have k0 := HM.out.cb.c0
  have k1 := HM.out.cb.c1
  have k2 := HM.out.cb.c2
  have k3 := HM.out.cb.c3
  go_quiet ((go_at_call 22; exact Calls.quiet_of_same (HF.out _ (HM.out.drewN _).bk.pb)))
  have HM2 := Hid.intro' (HM.out.drewN nq)
  generalize W1.drewN nq = W2 at HM2 ⊢
  clear m1 m2 m3 k0 k1 k2 k3 HM HF
  have k0 := HM2.out.cb.c0
  have k1 := HM2.out.cb.c1
  have k2 := HM2.out.cb.c2
  have k3 := HM2.out.cb.c3
  go_wp2_with fail
  have hcb := canBe_any b F C _ s c W2 HM2.out.bk.pb f1 f2
  rw [hc] at hcb
  refine hcb.mono ?_
  clear hcb
  rintro e W3 ⟨rfl, hb3⟩
  have HM3 := Hid.intro' (HM2.out.next hb3)
  clear hb3 HM2 k0 k1 k2 k3
  have k0 := HM3.out.cb.c0
  have m3 := HM3.out.bk.pb.c3
  have hs := HM3.out.bk.sl
  have HH : Hid (∀ W, Calls Try.prog 20 #[.int .u64 (s : Int), .int .i64 c.fl] W fun e w' => e = .returned (.bool true) ∧ w' = W) := fun W => by
    have := has_any s c.fl W hs
    rwa [hbar] at this
  go_wp2_with fail
  go_quiet ((go_at_call 20; exact Calls.quiet_of_same (HH.out _)))
  have HM4 := Hid.intro' (HM3.out.drewN nq)
  generalize W3.drewN nq = W4 at HM4 ⊢
  clear HM3 k0 m3 HH
  go_wp2
  go_ret
  exact ⟨rfl, HM4.out.bel⟩

set_option maxHeartbeats 1000000 in
theorem press_0 (B b : Nat) (F C : Int) (v : Value) (s : Nat) (L : List Cl) (c : Cl) (w : World) (H : BK w B b F C v s L) (f1 : 2 ≤ F) (f2 : F ≤ 64) (hr : KM.inR F C c = true) (hL : L.length ≤ 128) (hc : KM.can F c = true) (hbar : FM.hasN s c.fl = false) (hno : L.any (KM.like c) = true) :
    Calls Try.prog 9 #[.pointer (some ⟨b, 0, none⟩), .agg #[.int .i64 c.fl, .int .i64 c.ca, .int .i64 c.ag, .bool c.up]] w fun e w' => e = .returned (.int .i64 0) ∧ Below w.heap.size w w' := by
  obtain ⟨r1, r2, r3, r4⟩ := KM.inR_iff.1 hr
  have hfl : (decide (0 ≤ c.fl) && decide (c.fl < F)) = true := by simp [r1, r2]
  obtain ⟨ao, n, cap, rfl⟩ := H.rw.slice
  have hn := H.rw.len
  have HN := Hid.intro' hn
  clear hn
  have HM : Hid (Mp w (w.alloc (.cells #[.int .i64 c.fl, .int .i64 c.ca, .int .i64 c.ag, .bool c.up] 35)) B b F C (.slice ao n cap) s L c) := ⟨H.below' ((Below.refl _ _).alloc (Nat.le_refl _) _), CB.new w c, (Below.refl _ _).alloc (Nat.le_refl _) _, fun i hi => (H.lo i hi).2⟩
  have HF : Hid (∀ W, PB W b F C (.slice ao n cap) s → Calls Try.prog 22 #[.pointer (some ⟨b, 0, none⟩), .int .i64 c.fl] W fun e w' => e = .returned (.bool true) ∧ w' = W) := fun W hW => by
    have := hasFloor_any b F C _ s c.fl W hW
    rwa [hfl] at this
  have g1 : decide (c.ca < -1) = false := by simp; omega
  have g2 : decide (C ≤ c.ca) = false := by simp; omega
  have m1 := HM.out.bk.pb.c1
  have m2 := HM.out.bk.pb.c2
  have m3 := HM.out.bk.pb.c3
  clear H
  go_enter Try.func9, Try.ntmps9
  go_wp2_with fail
  generalize w.alloc (.cells #[.int .i64 c.fl, .int .i64 c.ca, .int .i64 c.ag, .bool c.up] 35) = W1 at HM m1 m2 m3 ⊢
  have k0 := HM.out.cb.c0
  have k1 := HM.out.cb.c1
  have k2 := HM.out.cb.c2
  have k3 := HM.out.cb.c3
  go_quiet ((go_at_call 22; exact Calls.quiet_of_same (HF.out _ (HM.out.drewN _).bk.pb)))
  have HM2 := Hid.intro' (HM.out.drewN nq)
  generalize W1.drewN nq = W2 at HM2 ⊢
  clear m1 m2 m3 k0 k1 k2 k3 HM HF
  have k0 := HM2.out.cb.c0
  have k1 := HM2.out.cb.c1
  have k2 := HM2.out.cb.c2
  have k3 := HM2.out.cb.c3
  go_wp2_with fail
  have hcb := canBe_any b F C _ s c W2 HM2.out.bk.pb f1 f2
  rw [hc] at hcb
  refine hcb.mono ?_
  clear hcb
  rintro e W3 ⟨rfl, hb3⟩
  have HM3 := Hid.intro' (HM2.out.next hb3)
  clear hb3 HM2 k0 k1 k2 k3
  have k0 := HM3.out.cb.c0
  have m3 := HM3.out.bk.pb.c3
  have hs := HM3.out.bk.sl
  have HH : Hid (∀ W, Calls Try.prog 20 #[.int .u64 (s : Int), .int .i64 c.fl] W fun e w' => e = .returned (.bool false) ∧ w' = W) := fun W => by
    have := has_any s c.fl W hs
    rwa [hbar] at this
  go_wp2_with fail
  go_quiet ((go_at_call 20; exact Calls.quiet_of_same (HH.out _)))
  have HM4 := Hid.intro' (HM3.out.drewN nq)
  generalize W3.drewN nq = W4 at HM4 ⊢
  clear HM3 k0 m3 HH
  have k0 := HM4.out.cb.c0
  have k1 := HM4.out.cb.c1
  have k2 := HM4.out.cb.c2
  have k3 := HM4.out.cb.c3
  have m2 := HM4.out.bk.pb.c2
  go_wp2_with fail
  have hm := HM4.out.drew
  go_region_held3 (fun w' => w'.cell? ⟨b, 2, none⟩ = some (.slice ao n cap) ∧ w'.cell? ⟨w.heap.size, 0, none⟩ = some (.int .i64 c.fl) ∧ w'.cell? ⟨w.heap.size, 1, none⟩ = some (.int .i64 c.ca) ∧ w'.cell? ⟨w.heap.size, 2, none⟩ = some (.int .i64 c.ag) ∧ w'.cell? ⟨w.heap.size, 3, none⟩ = some (.bool c.up)) (first | exact Mp.all hm | exact Mp.all (Mp.next hm hb5) | exact Mp.all (Mp.next (Mp.next hm hb5) hb6)) (first | (go_at_call 25; refine (alike_any c _).mono ?_; rintro e W5 ⟨kb, rfl, hkb, hb5, hKB⟩) | (go_at_call 24; refine (contains_is c true kb B _ L _ hno (Mp.next hm hb5).bk.rw hL hKB).mono ?_; rintro e W6 ⟨rfl, hb6⟩))
  have HM6 := Hid.intro' (Mp.next (Mp.next hm hb5) hb6)
  clear hm hb5 hb6 hkb hKB HM4 k0 k1 k2 k3 m2
  go_wp2
  go_ret
  exact ⟨rfl, HM6.out.bel⟩

set_option maxHeartbeats 1000000 in
theorem press_4 (B b : Nat) (F C : Int) (v : Value) (s : Nat) (L : List Cl) (c : Cl) (w : World) (H : BK w B b F C v s L) (f1 : 2 ≤ F) (f2 : F ≤ 64) (hr : KM.inR F C c = true) (hL : L.length ≤ 128) (hc : KM.can F c = true) (hbar : FM.hasN s c.fl = false) (hno : L.any (KM.like c) = false) (hlen : 128 ≤ L.length) :
    Calls Try.prog 9 #[.pointer (some ⟨b, 0, none⟩), .agg #[.int .i64 c.fl, .int .i64 c.ca, .int .i64 c.ag, .bool c.up]] w fun e w' => e = .returned (.int .i64 4) ∧ Below w.heap.size w w' := by
  obtain ⟨r1, r2, r3, r4⟩ := KM.inR_iff.1 hr
  have hfl : (decide (0 ≤ c.fl) && decide (c.fl < F)) = true := by simp [r1, r2]
  obtain ⟨ao, n, cap, rfl⟩ := H.rw.slice
  have hn := H.rw.len
  have HN := Hid.intro' hn
  clear hn
  have HM : Hid (Mp w (w.alloc (.cells #[.int .i64 c.fl, .int .i64 c.ca, .int .i64 c.ag, .bool c.up] 35)) B b F C (.slice ao n cap) s L c) := ⟨H.below' ((Below.refl _ _).alloc (Nat.le_refl _) _), CB.new w c, (Below.refl _ _).alloc (Nat.le_refl _) _, fun i hi => (H.lo i hi).2⟩
  have HF : Hid (∀ W, PB W b F C (.slice ao n cap) s → Calls Try.prog 22 #[.pointer (some ⟨b, 0, none⟩), .int .i64 c.fl] W fun e w' => e = .returned (.bool true) ∧ w' = W) := fun W hW => by
    have := hasFloor_any b F C _ s c.fl W hW
    rwa [hfl] at this
  have g1 : decide (c.ca < -1) = false := by simp; omega
  have g2 : decide (C ≤ c.ca) = false := by simp; omega
  have m1 := HM.out.bk.pb.c1
  have m2 := HM.out.bk.pb.c2
  have m3 := HM.out.bk.pb.c3
  clear H
  go_enter Try.func9, Try.ntmps9
  go_wp2_with fail
  generalize w.alloc (.cells #[.int .i64 c.fl, .int .i64 c.ca, .int .i64 c.ag, .bool c.up] 35) = W1 at HM m1 m2 m3 ⊢
  have k0 := HM.out.cb.c0
  have k1 := HM.out.cb.c1
  have k2 := HM.out.cb.c2
  have k3 := HM.out.cb.c3
  go_quiet ((go_at_call 22; exact Calls.quiet_of_same (HF.out _ (HM.out.drewN _).bk.pb)))
  have HM2 := Hid.intro' (HM.out.drewN nq)
  generalize W1.drewN nq = W2 at HM2 ⊢
  clear m1 m2 m3 k0 k1 k2 k3 HM HF
  have k0 := HM2.out.cb.c0
  have k1 := HM2.out.cb.c1
  have k2 := HM2.out.cb.c2
  have k3 := HM2.out.cb.c3
  go_wp2_with fail
  have hcb := canBe_any b F C _ s c W2 HM2.out.bk.pb f1 f2
  rw [hc] at hcb
  refine hcb.mono ?_
  clear hcb
  rintro e W3 ⟨rfl, hb3⟩
  have HM3 := Hid.intro' (HM2.out.next hb3)
  clear hb3 HM2 k0 k1 k2 k3
  have k0 := HM3.out.cb.c0
  have m3 := HM3.out.bk.pb.c3
  have hs := HM3.out.bk.sl
  have HH : Hid (∀ W, Calls Try.prog 20 #[.int .u64 (s : Int), .int .i64 c.fl] W fun e w' => e = .returned (.bool false) ∧ w' = W) := fun W => by
    have := has_any s c.fl W hs
    rwa [hbar] at this
  go_wp2_with fail
  go_quiet ((go_at_call 20; exact Calls.quiet_of_same (HH.out _)))
  have HM4 := Hid.intro' (HM3.out.drewN nq)
  generalize W3.drewN nq = W4 at HM4 ⊢
  clear HM3 k0 m3 HH
  have k0 := HM4.out.cb.c0
  have k1 := HM4.out.cb.c1
  have k2 := HM4.out.cb.c2
  have k3 := HM4.out.cb.c3
  have m2 := HM4.out.bk.pb.c2
  go_wp2_with fail
  have hm := HM4.out.drew
  go_region_held3 (fun w' => w'.cell? ⟨b, 2, none⟩ = some (.slice ao n cap) ∧ w'.cell? ⟨w.heap.size, 0, none⟩ = some (.int .i64 c.fl) ∧ w'.cell? ⟨w.heap.size, 1, none⟩ = some (.int .i64 c.ca) ∧ w'.cell? ⟨w.heap.size, 2, none⟩ = some (.int .i64 c.ag) ∧ w'.cell? ⟨w.heap.size, 3, none⟩ = some (.bool c.up)) (first | exact Mp.all hm | exact Mp.all (Mp.next hm hb5) | exact Mp.all (Mp.next (Mp.next hm hb5) hb6)) (first | (go_at_call 25; refine (alike_any c _).mono ?_; rintro e W5 ⟨kb, rfl, hkb, hb5, hKB⟩) | (go_at_call 24; refine (contains_is c false kb B _ L _ hno (Mp.next hm hb5).bk.rw hL hKB).mono ?_; rintro e W6 ⟨rfl, hb6⟩))
  have HM6 := Hid.intro' (Mp.next (Mp.next hm hb5) hb6)
  clear hm hb5 hb6 hkb hKB HM4 k0 k1 k2 k3 m2
  have m2 := HM6.out.bk.pb.c2
  have hn3 : decide ((128 : Int) ≤ (n : Int)) = true := by have := HN.out; simp; omega
  go_wp2
  go_ret
  exact ⟨rfl, HM6.out.bel⟩

theorem press_any (B b : Nat) (F C : Int) (v : Value) (s : Nat) (L : List Cl) (c : Cl) (w : World) (H : BK w B b F C v s L) (hL : L.length ≤ 128) (f1 : 2 ≤ F) (f2 : F ≤ 64) :
    Calls Try.prog 9 #[.pointer (some ⟨b, 0, none⟩), .agg #[.int .i64 c.fl, .int .i64 c.ca, .int .i64 c.ag, .bool c.up]] w fun e w' => e = .returned (.int .i64 (KM.err F C (FM.hasN s c.fl) L c)) ∧ ∃ v', BK w' B b F C v' s (KM.put F C (FM.hasN s c.fl) L c) ∧ Nx w v v' ∧ Kp (Fp b v) w w' := by
  have same : ∀ z : Int, KM.err F C (FM.hasN s c.fl) L c = z → KM.put F C (FM.hasN s c.fl) L c = L → (Calls Try.prog 9 #[.pointer (some ⟨b, 0, none⟩), .agg #[.int .i64 c.fl, .int .i64 c.ca, .int .i64 c.ag, .bool c.up]] w fun e w' => e = .returned (.int .i64 z) ∧ Below w.heap.size w w') →
      Calls Try.prog 9 #[.pointer (some ⟨b, 0, none⟩), .agg #[.int .i64 c.fl, .int .i64 c.ca, .int .i64 c.ag, .bool c.up]] w fun e w' => e = .returned (.int .i64 (KM.err F C (FM.hasN s c.fl) L c)) ∧ ∃ v', BK w' B b F C v' s (KM.put F C (FM.hasN s c.fl) L c) ∧ Nx w v v' ∧ Kp (Fp b v) w w' := by
    intro z h1 h2 h3
    rw [h1, h2]
    exact h3.mono fun e w' hh => ⟨hh.1, v, H.below' hh.2, fun k hk => .inl hk, Kp.ofBelow _ hh.2⟩
  rcases KM.press_ways F C (FM.hasN s c.fl) L c with ⟨h1, e1, e2⟩ | ⟨h1, h2, e1, e2⟩ | ⟨h1, h2, h3, e1, e2⟩ | ⟨h1, h2, h3, h4, e1, e2⟩ | ⟨h1, h2, h3, h4, h5, e1, e2⟩ | ⟨h1, h2, h3, h4, h5, e1, e2⟩
  · refine same 2 e1 e2 ?_
    cases hfl : (decide (0 ≤ c.fl) && decide (c.fl < F))
    · exact press_2a B b F C v s L c w H hfl
    · by_cases ha : c.ca < -1
      · exact press_2b B b F C v s L c w H hfl ha
      · by_cases hb : C ≤ c.ca
        · exact press_2c B b F C v s L c w H hfl (by omega) hb
        · exfalso
          simp only [Bool.and_eq_true, decide_eq_true_eq] at hfl
          have : KM.inR F C c = true := KM.inR_iff.2 ⟨hfl.1, hfl.2, by omega, by omega⟩
          rw [h1] at this
          cases this
  · exact same 1 e1 e2 (press_1 B b F C v s L c w H f1 f2 h1 h2)
  · exact same 8 e1 e2 (press_8 B b F C v s L c w H f1 f2 h1 h2 h3)
  · exact same 0 e1 e2 (press_0 B b F C v s L c w H f1 f2 h1 hL h2 h3 h4)
  · exact same 4 e1 e2 (press_4 B b F C v s L c w H f1 f2 h1 hL h2 h3 h4 h5)
  · rw [e1, e2]
    exact press_x B b F C v s L c w H hL f1 f2 h1 h2 h3 h4 h5

end Go.Proofs.Ytiihnjfknohhbad
