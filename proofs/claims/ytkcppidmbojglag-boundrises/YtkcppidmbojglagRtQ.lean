/- A car's stops, as the program tells them: Begin and Next. -/
import Derived.Test.YtkcppidmbojglagRtT
import Derived.Test.YtkcppidmbojglagBas
namespace Go.Proofs.Ytkcppidmbojglag
open Go.RowKit

set_option maxHeartbeats 1000000 in
theorem begin_any (f a : Int) (w : World) : Calls Try.prog 33 #[.agg #[.int .i64 f, .int .i64 a]] w fun e w' => e = .returned (.agg #[.int .i64 f, .int .i64 (-1), .int .i64 a]) ∧ Below w.heap.size w w' := by
  have HT := Hid.intro' (TB.new (w.alloc (.cells #[.int .i64 f, .int .i64 a] 44)) ⟨0, 0, 0⟩)
  have HB := Hid.intro' (((Below.refl w.heap.size w).alloc (Nat.le_refl _) (.cells #[.int .i64 f, .int .i64 a] 44)).alloc (by simp) (.cells #[.int .i64 0, .int .i64 0, .int .i64 0] 71))
  go_enter Try.func33, Try.ntmps33
  go_wp2_with (refine wpList_storeT rfl _ _ rfl (w.heap.size + 1) rfl rfl (by simpa using HT.out) ?_)
  intro W1 hk1 ht1
  go_wp2
  refine bodyPost_ret (retT Try.results33 rfl ht1) rfl ⟨rfl, hk1.below HB.out (by simp; omega) (fun i hi e => by omega)⟩

/-- where Next begins: the site, the stop, and room for the answer -/
structure Nz (w W : World) (s : St) (fl he le : Int) : Prop where
  sb : SB W w.heap.size s
  tb : TB W (w.heap.size + 1) ⟨fl, he, le⟩
  rb : TB W (w.heap.size + 1 + 1) ⟨0, 0, 0⟩
  bel : Below w.heap.size w W
theorem Nz.new (w : World) (s : St) (fl he le : Int) : Nz w (((w.alloc (.cells (sv s).toArray 23)).alloc (.cells #[.int .i64 fl, .int .i64 he, .int .i64 le] 71)).alloc (.cells #[.int .i64 0, .int .i64 0, .int .i64 0] 71)) s fl he le := by
  have b1 := (((Below.refl (w.heap.size + 1) (w.alloc (.cells (sv s).toArray 23))).alloc (by simp) (.cells #[.int .i64 fl, .int .i64 he, .int .i64 le] 71))).alloc (by simp) (.cells #[.int .i64 0, .int .i64 0, .int .i64 0] 71)
  have b2 := (Below.refl (w.heap.size + 2) ((w.alloc (.cells (sv s).toArray 23)).alloc (.cells #[.int .i64 fl, .int .i64 he, .int .i64 le] 71))).alloc (by simp) (.cells #[.int .i64 0, .int .i64 0, .int .i64 0] 71)
  have h2 := (TB.new (w.alloc (.cells (sv s).toArray 23)) ⟨fl, he, le⟩).below' (by simpa using b2)
  have h3 := TB.new ((w.alloc (.cells (sv s).toArray 23)).alloc (.cells #[.int .i64 fl, .int .i64 he, .int .i64 le] 71)) ⟨0, 0, 0⟩
  simp only [World.size_alloc] at h2 h3
  exact ⟨(SB.new w s).below' (by simpa using b1), h2, h3, (((Below.refl w.heap.size w).alloc (Nat.le_refl _) _).alloc (by simp) _).alloc (by simp; omega) _⟩
theorem Nz.next {w W W' : World} {s : St} {fl he le : Int} (h : Nz w W s fl he le) (hb : Below W.heap.size W W') : Nz w W' s fl he le := ⟨h.sb.below' hb, h.tb.below' hb, h.rb.below' hb, below_class h.bel hb⟩

set_option maxHeartbeats 2000000 in
theorem next_same (s : St) (f he le : Int) (hh : he ≠ -1) (w : World) : Calls Try.prog 36 #[.agg (sv s).toArray, .agg #[.int .i64 f, .int .i64 he, .int .i64 le], .int .i64 f] w fun e w' => e = .returned (.agg #[.int .i64 f, .int .i64 he, .int .i64 le]) ∧ Below w.heap.size w w' := by
  have HZ := Hid.intro' (Nz.new w s f he le)
  have c0 := HZ.out.tb.c0
  have c1 := HZ.out.tb.c1
  have c2 := HZ.out.tb.c2
  have q1 : (he != -1) = true := by simpa using hh
  clear hh
  go_enter Try.func36, Try.ntmps36
  go_wp2_with (refine wpList_storeT rfl _ _ rfl (w.heap.size + 1 + 1) rfl rfl HZ.out.rb ?_)
  intro W1 hk1 ht1
  have HK := Hid.intro' (And.intro hk1 ht1)
  clear hk1 ht1 c0 c1 c2
  go_wp2
  exact bodyPost_ret (retT Try.results36 rfl HK.out.2) rfl ⟨rfl, HK.out.1.below HZ.out.bel HZ.out.bel.size (fun i hi e => by omega)⟩

set_option maxHeartbeats 2000000 in
theorem next_first (s : St) (fl le f tr T L : Int) (HTV : Hid (∀ w', Calls Try.prog 42 #[.agg (sv s).toArray, .int .i64 fl, .int .i64 f] w' fun e w'' => e = .returned (.int .i64 tr) ∧ Below w'.heap.size w' w'')) (HAD : Hid (∀ w', Calls Try.prog 37 #[.int .i64 le, .int .i64 tr] w' fun e w'' => e = .returned (.int .i64 T) ∧ Below w'.heap.size w' w'')) (HSU : Hid (∀ (W : World) n, W.heap[n]? = some (.cells #[.int .i64 T, .int .i64 s.opn, .int .i64 s.wai, .int .i64 s.clo, .int .i64 2] 3) → Calls Try.prog 43 #[.slice (some ⟨n, 0, none⟩) 5 5] W fun e w' => e = .returned (.int .i64 L) ∧ w' = W)) (w : World) : Calls Try.prog 36 #[.agg (sv s).toArray, .agg #[.int .i64 fl, .int .i64 (-1), .int .i64 le], .int .i64 f] w fun e w' => e = .returned (.agg #[.int .i64 f, .int .i64 T, .int .i64 L]) ∧ Below w.heap.size w w' := by
  have HZ := Hid.intro' (Nz.new w s fl (-1) le)
  have c0 := HZ.out.tb.c0
  have c1 := HZ.out.tb.c1
  go_enter Try.func36, Try.ntmps36
  go_wp2_with fail
  clear c0 c1
  generalize (((w.alloc (.cells (sv s).toArray 23)).alloc (.cells #[.int .i64 fl, .int .i64 (-1), .int .i64 le] 71)).alloc (.cells #[.int .i64 0, .int .i64 0, .int .i64 0] 71)) = W1 at HZ ⊢
  have HA0 : Hid (∀ w', Below W1.heap.size W1 w' → w'.cell? ⟨w.heap.size + 1, 0, none⟩ = some (.int .i64 fl)) := fun w' hw => (HZ.out.next hw).tb.c0
  have HA2 : Hid (∀ w', Below W1.heap.size W1 w' → w'.cell? ⟨w.heap.size + 1, 2, none⟩ = some (.int .i64 le)) := fun w' hw => (HZ.out.next hw).tb.c2
  have HSB : Hid (∀ w', Below W1.heap.size W1 w' → SB w' w.heap.size s) := fun w' hw => (HZ.out.next hw).sb
  have HTW : Hid (∀ w', Below W1.heap.size W1 w' → Calls Try.prog 42 #[.agg (sv s).toArray, .int .i64 fl, .int .i64 f] w' fun e w'' => e = .returned (.int .i64 tr) ∧ Below w'.heap.size w' w'') := fun w' _ => HTV.out w'
  have HAW : Hid (∀ w', Below W1.heap.size W1 w' → Calls Try.prog 37 #[.int .i64 le, .int .i64 tr] w' fun e w'' => e = .returned (.int .i64 T) ∧ Below w'.heap.size w' w'') := fun w' _ => HAD.out w'
  refine wp_region_quiet (C := fun w' => Below W1.heap.size W1 w') (by kernel_rfl) (by kernel_rfl) ((Below.refl _ _).drew) ?_
  simp only []
  unfold wpQuiet
  generalize hK : wpQuiet Try.prog _ _ _ _ = K
  go_simp
  refine ⟨_, fun _ _ => rfl, ?_⟩
  subst hK
  unfold wpQuiet
  generalize hK : wpQuiet Try.prog _ _ _ _ = K
  rw [if_pos (by go_simp)]
  refine quiet_load3 _ _ _ rfl rfl HA2.out ?_
  go_simp
  subst hK
  unfold wpQuiet
  generalize hK : wpQuiet Try.prog _ _ _ _ = K
  rw [if_pos (by go_simp)]
  refine quiet_load23r _ w.heap.size s rfl rfl HSB.out ?_
  go_simp
  subst hK
  unfold wpQuiet
  generalize hK : wpQuiet Try.prog _ _ _ _ = K
  go_simp
  refine ⟨_, fun _ _ => rfl, ?_⟩
  subst hK
  unfold wpQuiet
  generalize hK : wpQuiet Try.prog _ _ _ _ = K
  rw [if_pos (by go_simp)]
  refine quiet_load3 _ _ _ rfl rfl HA0.out ?_
  go_simp
  subst hK
  unfold wpQuiet
  generalize hK : wpQuiet Try.prog _ _ _ _ = K
  go_simp
  refine ⟨_, fun _ _ => rfl, ?_⟩
  subst hK
  unfold wpQuiet
  generalize hK : wpQuiet Try.prog _ _ _ _ = K
  go_simp
  refine ⟨_, fun w' hw => (HTW.out w' hw).mono fun e w'' hh => ⟨hh.1, below_class hw hh.2⟩, ?_⟩
  subst hK
  unfold wpQuiet
  generalize hK : wpQuiet Try.prog _ _ _ _ = K
  go_simp
  refine ⟨_, fun w' hw => (HAW.out w' hw).mono fun e w'' hh => ⟨hh.1, below_class hw hh.2⟩, ?_⟩
  subst hK
  unfold wpQuiet
  generalize hK : wpQuiet Try.prog _ _ _ _ = K
  go_simp
  refine ⟨_, fun _ _ => rfl, ?_⟩
  subst hK
  refine wpQuiet_nil ?_
  intro W2 hb2
  have HZ2 := Hid.intro' (HZ.out.next hb2)
  have s5 : W2.cell? ⟨w.heap.size, 5, none⟩ = some (.int .i64 s.opn) := HZ2.out.sb.cell 5
  have s6 : W2.cell? ⟨w.heap.size, 6, none⟩ = some (.int .i64 s.wai) := HZ2.out.sb.cell 6
  have s7 : W2.cell? ⟨w.heap.size, 7, none⟩ = some (.int .i64 s.clo) := HZ2.out.sb.cell 7
  have HRB := Hid.intro' ((HZ2.out.next ((Below.refl W2.heap.size W2).alloc (Nat.le_refl _) (.cells #[.int .i64 T, .int .i64 s.opn, .int .i64 s.wai, .int .i64 s.clo, .int .i64 2] 3))))
  clear hb2 HA0 HA2 HSB HTV HAD HZ HZ2 HTW HAW
  go_wp2_with (first | (go_at_call 43; refine (HSU.out _ _ (new_at _ _ _ rfl)).mono ?_; rintro e w' ⟨rfl, rfl⟩) | (refine wpList_storeT rfl _ _ rfl (w.heap.size + 1 + 1) rfl rfl HRB.out.rb ?_))
  intro W3 hk3 ht3
  have HK := Hid.intro' (And.intro hk3 ht3)
  clear hk3 ht3 s5 s6 s7
  go_wp2
  exact bodyPost_ret (retT Try.results36 rfl HK.out.2) rfl ⟨rfl, HK.out.1.below HRB.out.bel HRB.out.bel.size (fun i hi e => by omega)⟩
set_option maxHeartbeats 2000000 in
theorem next_far (s : St) (fl he le f tr T L : Int) (q1 : (he != -1) = true) (q2 : (fl == f) = false) (HTV : Hid (∀ w', Calls Try.prog 42 #[.agg (sv s).toArray, .int .i64 fl, .int .i64 f] w' fun e w'' => e = .returned (.int .i64 tr) ∧ Below w'.heap.size w' w'')) (HAD : Hid (∀ w', Calls Try.prog 37 #[.int .i64 le, .int .i64 tr] w' fun e w'' => e = .returned (.int .i64 T) ∧ Below w'.heap.size w' w'')) (HSU : Hid (∀ (W : World) n, W.heap[n]? = some (.cells #[.int .i64 T, .int .i64 s.opn, .int .i64 s.wai, .int .i64 s.clo, .int .i64 2] 3) → Calls Try.prog 43 #[.slice (some ⟨n, 0, none⟩) 5 5] W fun e w' => e = .returned (.int .i64 L) ∧ w' = W)) (w : World) : Calls Try.prog 36 #[.agg (sv s).toArray, .agg #[.int .i64 fl, .int .i64 he, .int .i64 le], .int .i64 f] w fun e w' => e = .returned (.agg #[.int .i64 f, .int .i64 T, .int .i64 L]) ∧ Below w.heap.size w w' := by
  have HZ := Hid.intro' (Nz.new w s fl he le)
  have c0 := HZ.out.tb.c0
  have c1 := HZ.out.tb.c1
  go_enter Try.func36, Try.ntmps36
  go_wp2_with fail
  clear c0 c1
  generalize (((w.alloc (.cells (sv s).toArray 23)).alloc (.cells #[.int .i64 fl, .int .i64 he, .int .i64 le] 71)).alloc (.cells #[.int .i64 0, .int .i64 0, .int .i64 0] 71)) = W1 at HZ ⊢
  have HA0 : Hid (∀ w', Below W1.heap.size W1 w' → w'.cell? ⟨w.heap.size + 1, 0, none⟩ = some (.int .i64 fl)) := fun w' hw => (HZ.out.next hw).tb.c0
  have HA2 : Hid (∀ w', Below W1.heap.size W1 w' → w'.cell? ⟨w.heap.size + 1, 2, none⟩ = some (.int .i64 le)) := fun w' hw => (HZ.out.next hw).tb.c2
  have HSB : Hid (∀ w', Below W1.heap.size W1 w' → SB w' w.heap.size s) := fun w' hw => (HZ.out.next hw).sb
  have HTW : Hid (∀ w', Below W1.heap.size W1 w' → Calls Try.prog 42 #[.agg (sv s).toArray, .int .i64 fl, .int .i64 f] w' fun e w'' => e = .returned (.int .i64 tr) ∧ Below w'.heap.size w' w'') := fun w' _ => HTV.out w'
  have HAW : Hid (∀ w', Below W1.heap.size W1 w' → Calls Try.prog 37 #[.int .i64 le, .int .i64 tr] w' fun e w'' => e = .returned (.int .i64 T) ∧ Below w'.heap.size w' w'') := fun w' _ => HAD.out w'
  refine wp_region_quiet (C := fun w' => Below W1.heap.size W1 w') (by kernel_rfl) (by kernel_rfl) ((Below.refl _ _).drew) ?_
  simp only []
  unfold wpQuiet
  generalize hK : wpQuiet Try.prog _ _ _ _ = K
  go_simp
  refine ⟨_, fun _ _ => rfl, ?_⟩
  subst hK
  unfold wpQuiet
  generalize hK : wpQuiet Try.prog _ _ _ _ = K
  rw [if_pos (by go_simp)]
  refine quiet_load3 _ _ _ rfl rfl HA2.out ?_
  go_simp
  subst hK
  unfold wpQuiet
  generalize hK : wpQuiet Try.prog _ _ _ _ = K
  rw [if_pos (by go_simp)]
  refine quiet_load23r _ w.heap.size s rfl rfl HSB.out ?_
  go_simp
  subst hK
  unfold wpQuiet
  generalize hK : wpQuiet Try.prog _ _ _ _ = K
  go_simp
  refine ⟨_, fun _ _ => rfl, ?_⟩
  subst hK
  unfold wpQuiet
  generalize hK : wpQuiet Try.prog _ _ _ _ = K
  rw [if_pos (by go_simp)]
  refine quiet_load3 _ _ _ rfl rfl HA0.out ?_
  go_simp
  subst hK
  unfold wpQuiet
  generalize hK : wpQuiet Try.prog _ _ _ _ = K
  go_simp
  refine ⟨_, fun _ _ => rfl, ?_⟩
  subst hK
  unfold wpQuiet
  generalize hK : wpQuiet Try.prog _ _ _ _ = K
  go_simp
  refine ⟨_, fun w' hw => (HTW.out w' hw).mono fun e w'' hh => ⟨hh.1, below_class hw hh.2⟩, ?_⟩
  subst hK
  unfold wpQuiet
  generalize hK : wpQuiet Try.prog _ _ _ _ = K
  go_simp
  refine ⟨_, fun w' hw => (HAW.out w' hw).mono fun e w'' hh => ⟨hh.1, below_class hw hh.2⟩, ?_⟩
  subst hK
  unfold wpQuiet
  generalize hK : wpQuiet Try.prog _ _ _ _ = K
  go_simp
  refine ⟨_, fun _ _ => rfl, ?_⟩
  subst hK
  refine wpQuiet_nil ?_
  intro W2 hb2
  have HZ2 := Hid.intro' (HZ.out.next hb2)
  have s5 : W2.cell? ⟨w.heap.size, 5, none⟩ = some (.int .i64 s.opn) := HZ2.out.sb.cell 5
  have s6 : W2.cell? ⟨w.heap.size, 6, none⟩ = some (.int .i64 s.wai) := HZ2.out.sb.cell 6
  have s7 : W2.cell? ⟨w.heap.size, 7, none⟩ = some (.int .i64 s.clo) := HZ2.out.sb.cell 7
  have HRB := Hid.intro' ((HZ2.out.next ((Below.refl W2.heap.size W2).alloc (Nat.le_refl _) (.cells #[.int .i64 T, .int .i64 s.opn, .int .i64 s.wai, .int .i64 s.clo, .int .i64 2] 3))))
  clear hb2 HA0 HA2 HSB HTV HAD HZ HZ2 HTW HAW
  go_wp2_with (first | (go_at_call 43; refine (HSU.out _ _ (new_at _ _ _ rfl)).mono ?_; rintro e w' ⟨rfl, rfl⟩) | (refine wpList_storeT rfl _ _ rfl (w.heap.size + 1 + 1) rfl rfl HRB.out.rb ?_))
  intro W3 hk3 ht3
  have HK := Hid.intro' (And.intro hk3 ht3)
  clear hk3 ht3 s5 s6 s7
  go_wp2
  exact bodyPost_ret (retT Try.results36 rfl HK.out.2) rfl ⟨rfl, HK.out.1.below HRB.out.bel HRB.out.bel.size (fun i hi e => by omega)⟩
theorem next_new (s : St) (r : SM.Rt s) (fl he le f : Int) (hh : he = -1 ∨ fl ≠ f) (h0 : 0 ≤ le) (h1 : le ≤ 100000000) (w : World) : Calls Try.prog 36 #[.agg (sv s).toArray, .agg #[.int .i64 fl, .int .i64 he, .int .i64 le], .int .i64 f] w fun e w' => e = .returned (.agg #[.int .i64 f, .int .i64 (le + SM.trav s fl f), .int .i64 (le + SM.trav s fl f + RM.dw s)]) ∧ Below w.heap.size w w' := by
  have ht := SM.trav_bd r fl f
  have g1 : ∀ w', Calls Try.prog 42 #[.agg (sv s).toArray, .int .i64 fl, .int .i64 f] w' fun e w'' => e = .returned (.int .i64 (SM.trav s fl f)) ∧ Below w'.heap.size w' w'' := fun w' => travel_any s r fl f w'
  generalize SM.trav s fl f = tr at ht g1 ⊢
  have g2 : ∀ w', Calls Try.prog 37 #[.int .i64 le, .int .i64 tr] w' fun e w'' => e = .returned (.int .i64 (le + tr)) ∧ Below w'.heap.size w' w'' := fun w' => (add_any le tr w').mono fun e w'' hh => by
    obtain ⟨he, rfl⟩ := hh
    refine ⟨?_, Below.refl _ _⟩
    rw [he, SM.addC h0 ht.1 (by omega)]
  generalize hT : le + tr = T at g2 ⊢
  have hs : NumM.sumL [T, s.opn, s.wai, s.clo, 2] = T + RM.dw s := by
    have := r.opn1; have := r.opn2; have := r.wai1; have := r.wai2; have := r.clo1; have := r.clo2
    rw [show [T, s.opn, s.wai, s.clo, 2] = [T, s.opn, s.wai, s.clo] ++ [2] from rfl, NumM.sumL_snoc, SM.sumL4 (by omega) (by omega) (by omega) (by omega) (by omega), SM.addC (by omega) (by omega) (by omega)]
    unfold RM.dw; omega
  have g3 : ∀ (W : World) n, W.heap[n]? = some (.cells #[.int .i64 T, .int .i64 s.opn, .int .i64 s.wai, .int .i64 s.clo, .int .i64 2] 3) → Calls Try.prog 43 #[.slice (some ⟨n, 0, none⟩) 5 5] W fun e w' => e = .returned (.int .i64 (T + RM.dw s)) ∧ w' = W := fun W n hn => by
    rw [← hs]
    exact sum_row W n [T, s.opn, s.wai, s.clo, 2] 5 5 rfl (by omega) hn
  by_cases e : he = -1
  · subst e
    exact next_first s fl le f tr T _ g1 g2 g3 w
  · exact next_far s fl he le f tr T _ (by simpa using e) (by simpa using hh.resolve_left e) g1 g2 g3 w

theorem next_any (s : St) (r : SM.Rt s) (a : RM.Sp) (ok : RM.Ok s a) (hle : a.le ≤ 100000000) (f : Int) (_h0 : 0 ≤ f) (_h1 : f < s.fl) (w : World) : Calls Try.prog 36 #[.agg (sv s).toArray, .agg #[.int .i64 a.fl, .int .i64 a.he, .int .i64 a.le], .int .i64 f] w fun e w' => e = .returned (.agg #[.int .i64 f, .int .i64 (RM.ar s a f), .int .i64 (RM.ar s a f + RM.dw s)]) ∧ Below w.heap.size w w' := by
  by_cases h : a.he ≠ -1 ∧ a.fl = f
  · have e1 : RM.ar s a f = a.he := by unfold RM.ar; rw [if_pos h]
    have e2 : a.he + RM.dw s = a.le := ((ok.hh.resolve_left h.1).2).symm
    rw [e1, e2, ← h.2]
    exact next_same s a.fl a.he a.le h.1 w
  · have e1 : RM.ar s a f = a.le + SM.trav s a.fl f := by unfold RM.ar; rw [if_neg h]
    rw [e1]
    refine next_new s r a.fl a.he a.le f ?_ ok.l0 hle w
    by_cases e : a.he = -1
    · exact .inl e
    · exact .inr fun g => h ⟨e, g⟩

end Go.Proofs.Ytkcppidmbojglag
