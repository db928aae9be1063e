/- RouteNext. -/
import Derived.Test.YtkcppidmbojglafRtQ
import Derived.Test.YtkcppidmbojglafRtS
namespace Go.Proofs.Ytkcppidmbojglaf
open Go.RowKit

/-- what holds in the law's loop -/
structure Nq (w W : World) (s : St) (f a : Int) (D : Nat → Prop) (vl : Value) (l : List Int) (b : Nat) (x : RM.Sp) (j : Nat) : Prop where
  sb : SB W w.heap.size s
  rb : W.heap[w.heap.size + 1]? = some (.cells #[.int .i64 f, .int .i64 a] 51 (0, 0))
  tb : TB W b x
  lo : w.heap.size + 1 < b
  rl : RI D W vl l
  dl : ∀ g, D g → g < w.heap.size
  bel : Below w.heap.size w W
  go : x = RM.go s (RM.bg (f, a)) (l.take j)
  inn : RM.In s (l.take j)
section
variable {w W W' : World} {s : St} {f a : Int} {D : Nat → Prop} {vl : Value} {l : List Int} {b : Nat} {x y : RM.Sp} {j k : Nat}
theorem Nq.next (h : Nq w W s f a D vl l b x j) (hb : Below W.heap.size W W') : Nq w W' s f a D vl l b x j :=
  ⟨h.sb.below' hb, (hb.block _ (Array.getElem?_eq_some_iff.1 h.rb).1).trans h.rb, h.tb.below' hb, h.lo, h.rl.below' hb, h.dl, below_class h.bel hb, h.go, h.inn⟩
theorem Nq.r0 (h : Nq w W s f a D vl l b x j) : W.cell? ⟨w.heap.size + 1, 0, none⟩ = some (.int .i64 f) := by simp [World.cell?, h.rb]
theorem Nq.r1 (h : Nq w W s f a D vl l b x j) : W.cell? ⟨w.heap.size + 1, 1, none⟩ = some (.int .i64 a) := by simp [World.cell?, h.rb]
theorem Nq.put (h : Nq w W s f a D vl l b x j) (hk : Kp (fun k => k = b) W W') (ht : TB W' b y) (hg : y = RM.go s (RM.bg (f, a)) (l.take k)) (hi : RM.In s (l.take k)) : Nq w W' s f a D vl l b y k := by
  have hl := h.lo
  refine ⟨(hk.block _ h.sb.lt (by omega)).trans h.sb, (hk.block _ (Array.getElem?_eq_some_iff.1 h.rb).1 (by omega)).trans h.rb, ht, h.lo, h.rl.keep hk.size fun g hg hlt => hk.block g hlt (by have := h.dl g hg; omega), h.dl, hk.below h.bel h.bel.size (fun i hi => by omega), hg, hi⟩
end

set_option maxRecDepth 100000 in
set_option maxHeartbeats 8000000 in
theorem RouteNext_any (s : St) (f a : Int) (D : Nat → Prop) (vl : Value) (l : List Int) (w : World) (hl : RI D w vl l) :
    Calls Try.prog 6 #[.agg (sv s).toArray, .agg #[.int .i64 f, .int .i64 a], vl] w fun e w' => e = .returned (.bool true) ∧ Below w.heap.size w w' := by
  have HL0 : Hid (RI (fun g => g < w.heap.size) w vl l) := hl.mono fun g _ h _ => h
  have hbx := ((Below.refl w.heap.size w).alloc (Nat.le_refl _) (.cells (sv s).toArray 23)).alloc (by simp) (.cells #[.int .i64 f, .int .i64 a] 51)
  have HB := Hid.intro' hbx
  have HS := Hid.intro' ((SB.new w s).alloc (.cells #[.int .i64 f, .int .i64 a] 51))
  have HR : Hid (((w.alloc (.cells (sv s).toArray 23)).alloc (.cells #[.int .i64 f, .int .i64 a] 51)).heap[w.heap.size + 1]? = some (.cells #[.int .i64 f, .int .i64 a] 51 (0, 0))) := by
    have := World.alloc_heap_new (w.alloc (.cells (sv s).toArray 23)) (.cells #[.int .i64 f, .int .i64 a] 51)
    rw [World.size_alloc] at this
    exact this
  obtain ⟨al, kl, rfl, _, _⟩ := hl.form
  clear hl hbx
  go_enter Try.func6, Try.ntmps6
  go_wp2_with fail
  refine (speaks10_any _).mono ?_
  rintro e W1 ⟨rfl, hb1⟩
  have HB1 := Hid.intro' (below_class HB.out hb1)
  have HS1 := Hid.intro' (HS.out.below' hb1)
  have HR1 := Hid.intro' ((hb1.block _ (Array.getElem?_eq_some_iff.1 HR.out).1).trans HR.out)
  clear hb1 HB HS HR
  go_wp2_with (refine wpList_load23 rfl _ rfl w.heap.size s rfl HS1.out ?_)
  refine (rright_any s W1).mono ?_
  rintro e W2 ⟨rfl, hb2⟩
  have HB2 := Hid.intro' (below_class HB1.out hb2)
  have HS2 := Hid.intro' (HS1.out.below' hb2)
  have HR2 := Hid.intro' ((hb2.block _ (Array.getElem?_eq_some_iff.1 HR1.out).1).trans HR1.out)
  clear hb2 HB1 HS1 HR1
  have r0 : W2.cell? ⟨w.heap.size + 1, 0, none⟩ = some (.int .i64 f) := by simp [World.cell?, HR2.out]
  have r1 : W2.cell? ⟨w.heap.size + 1, 1, none⟩ = some (.int .i64 a) := by simp [World.cell?, HR2.out]
  have s0 : W2.cell? ⟨w.heap.size, 0, none⟩ = some (.int .i64 s.fl) := HS2.out.cell 0
  cases hrt : rightB s with
  | false =>
    clear hrt
    go_wp2
    go_ret
    exact ⟨rfl, HB2.out⟩
  | true =>
    have HRT := Hid.intro' ((rightB_iff s).1 hrt)
    clear hrt
    by_cases h1 : f < 0
    · go_wp2
      go_ret
      exact ⟨rfl, HB2.out⟩
    by_cases h2 : s.fl ≤ f
    · have q1 : decide (f < 0) = false := decide_eq_false h1
      clear h1
      go_wp2
      go_ret
      exact ⟨rfl, HB2.out⟩
    by_cases h3 : a < 0
    · have q1 : decide (f < 0) = false := decide_eq_false h1
      have q2 : decide (s.fl ≤ f) = false := decide_eq_false h2
      clear h1 h2
      go_wp2
      go_ret
      exact ⟨rfl, HB2.out⟩
    by_cases h4 : 1000000 < a
    · have q1 : decide (f < 0) = false := decide_eq_false h1
      have q2 : decide (s.fl ≤ f) = false := decide_eq_false h2
      have q3 : decide (a < 0) = false := decide_eq_false h3
      clear h1 h2 h3
      go_wp2
      go_ret
      exact ⟨rfl, HB2.out⟩
    by_cases h5 : 200 < (l.length : Int)
    · have q1 : decide (f < 0) = false := decide_eq_false h1
      have q2 : decide (s.fl ≤ f) = false := decide_eq_false h2
      have q3 : decide (a < 0) = false := decide_eq_false h3
      have q4 : decide (1000000 < a) = false := decide_eq_false h4
      clear h1 h2 h3 h4
      go_wp2
      go_ret
      exact ⟨rfl, HB2.out⟩
    have q1 : decide (f < 0) = false := decide_eq_false h1
    have q2 : decide (s.fl ≤ f) = false := decide_eq_false h2
    have q3 : decide (a < 0) = false := decide_eq_false h3
    have q4 : decide (1000000 < a) = false := decide_eq_false h4
    have q5 : decide (200 < (l.length : Int)) = false := decide_eq_false h5
    have HOK : Hid (RM.Ok s (RM.bg (f, a))) := RM.bg_ok (by show 0 ≤ f; omega) (by show f < s.fl; omega) (by show 0 ≤ a; omega)
    have HLEN := Hid.intro' (show l.length ≤ 200 by omega)
    have HAB := Hid.intro' (show 0 ≤ a ∧ a ≤ 1000000 by omega)
    have heq := eqT f (-1) a
    clear h1 h2 h3 h4 h5
    go_wp2_with fail
    refine (begin_any f a _).mono ?_
    rintro e W3 ⟨rfl, hb3⟩
    have HS3 := Hid.intro' (HS2.out.below' hb3)
    have HR3 := Hid.intro' ((hb3.block _ (Array.getElem?_eq_some_iff.1 HR2.out).1).trans HR2.out)
    have HB3 := Hid.intro' (below_class HB2.out hb3)
    have hbA := (Below.refl W3.heap.size W3).alloc (Nat.le_refl _) (.cells #[.int .i64 f, .int .i64 (-1), .int .i64 a] 54)
    have HQ0 : Hid (Nq w (W3.alloc (.cells #[.int .i64 f, .int .i64 (-1), .int .i64 a] 54)) s f a (fun g => g < w.heap.size) (.slice al l.length kl) l W3.heap.size (RM.bg (f, a)) 0) := by
      refine ⟨HS3.out.below' hbA, (hbA.block _ (Array.getElem?_eq_some_iff.1 HR3.out).1).trans HR3.out, TB.new W3 (RM.bg (f, a)), (Array.getElem?_eq_some_iff.1 HR3.out).1, HL0.out.below' (below_class HB3.out hbA), fun _ h => h, below_class HB3.out hbA, rfl, fun _ h => by simp at h⟩
    have t0 := HQ0.out.tb.c0
    have t1 := HQ0.out.tb.c1
    have t2 := HQ0.out.tb.c2
    have u0 := HQ0.out.r0
    have u1 := HQ0.out.r1
    clear hb3 hbA HS2 HR2 HB2 HS3 HR3 HB3 r0 r1 s0 q1 q2 q3 q4 q5
    go_wp2_with fail
    clear t0 t1 t2 u0 u1 heq
    generalize W3.alloc (.cells #[.int .i64 f, .int .i64 (-1), .int .i64 a] 54) = X at HQ0 ⊢
    generalize W3.heap.size = b7 at HQ0 ⊢
    go_loopw [54] (fun iv wr => ∃ (j : Nat) (x : RM.Sp), j ≤ l.length ∧ iv = .int .i64 (j : Int) ∧ Hid (Nq w wr s f a (fun g => g < w.heap.size) (.slice al l.length kl) l b7 x j)) (fun iv _ => l.length - (intOf iv).toNat)
    case atStart => exact ⟨0, _, Nat.zero_le _, rfl, HQ0⟩
    case round =>
      obtain ⟨j, x, hj, rfl, HQ⟩ := hrel
      clear HQ0
      by_cases hjl : j < l.length
      · have hjz : (j : Int) < (l.length : Int) := by omega
        obtain ⟨fj, hfj⟩ : ∃ x, l[j]? = some x := ⟨_, List.getElem?_eq_getElem hjl⟩
        obtain ⟨gl, ol, rfl, hcj⟩ := HQ.out.rl.at hfj
        have HFJ := Hid.intro' hfj
        have s0 : wr.cell? ⟨w.heap.size, 0, none⟩ = some (.int .i64 s.fl) := HQ.out.sb.cell 0
        clear hfj
        by_cases h1 : fj < 0
        · go_wp2
          go_ret
          exact ⟨rfl, HQ.out.bel⟩
        · by_cases h2 : s.fl ≤ fj
          · have q1 : decide (fj < 0) = false := decide_eq_false h1
            clear h1
            go_wp2
            go_ret
            exact ⟨rfl, HQ.out.bel⟩
          · have q1 : decide (fj < 0) = false := decide_eq_false h1
            have q2 : decide (s.fl ≤ fj) = false := decide_eq_false h2
            have HF0 : Hid (0 ≤ fj ∧ fj < s.fl) := ⟨by omega, by omega⟩
            have HXO : Hid (RM.Ok s x) := by
              show RM.Ok s x
              rw [HQ.out.go]; exact RM.go_ok HRT.out HOK.out HQ.out.inn
            have HXL : Hid (x.le ≤ 20000000) := by
              show x.le ≤ _
              have h := RM.go_le HRT.out HOK.out HQ.out.inn
              rw [← HQ.out.go, List.length_take, show (RM.bg (f, a)).le = a from rfl] at h
              have := HAB.out; have := HLEN.out
              omega
            have HNX := Hid.intro' (next_any s HRT.out x HXO.out (by have := HXL.out; omega) fj HF0.out.1 HF0.out.2)
            have HIN : Hid (RM.In s (l.take (j + 1))) := by
              show RM.In s _
              rw [take_snoc HFJ.out, RM.In.append]
              exact ⟨HQ.out.inn, fun g hg => by simp at hg; subst hg; exact HF0.out⟩
            have HGO : Hid ((⟨fj, RM.ar s x fj, RM.ar s x fj + RM.dw s⟩ : RM.Sp) = RM.go s (RM.bg (f, a)) (l.take (j + 1))) := by
              show _ = _
              rw [take_snoc HFJ.out, RM.go_snoc, ← HQ.out.go, RM.nx_eq HXO.out]
            have HHE := Hid.intro' (RM.ar_he HRT.out HXO.out fj)
            have HFI : Hid (a + SM.trav s f fj ≤ RM.ar s x fj) := by
              show _ ≤ _
              have h := RM.le_go HRT.out HOK.out HQ.out.inn fj HF0.out.1 HF0.out.2
              rw [← HQ.out.go] at h
              exact h
            have HAR := Hid.intro' (RM.ar_le HRT.out HXO.out fj)
            have HARN := Hid.intro' (RM.ar_nn HRT.out HXO.out fj)
            have HARD : Hid (RM.ar s x fj = if x.he ≠ -1 ∧ x.fl = fj then x.he else x.le + SM.trav s x.fl fj) := rfl
            have HT1 := Hid.intro' (SM.trav_bd HRT.out f fj)
            have HT2 := Hid.intro' (SM.trav_bd HRT.out x.fl fj)
            obtain ⟨fl, he, le⟩ := x
            have t0 := HQ.out.tb.c0
            have t1 := HQ.out.tb.c1
            have t2 := HQ.out.tb.c2
            have HQB := Hid.intro' HQ.out.sb
            simp only at t0 t1 t2 HNX HHE HARD HT2 HXL
            generalize hT : RM.ar s ⟨fl, he, le⟩ fj = T at HNX HGO HHE HFI HAR HARN HARD
            clear hT h1 h2
            go_wp2_with (refine wpList_load23 rfl _ rfl w.heap.size s rfl HQB.out ?_)
            refine (HNX.out _).mono ?_
            rintro e W3 ⟨rfl, hb3⟩
            have HDW := Hid.intro' (RM.dw_bd HRT.out)
            obtain ⟨L, HL⟩ : ∃ L, Hid (T + RM.dw s = L) := ⟨_, Hid.intro' rfl⟩
            rw [HL.out] at HGO ⊢
            have hbA := (Below.refl W3.heap.size W3).alloc (Nat.le_refl _) (.cells #[.int .i64 fj, .int .i64 T, .int .i64 L] 54)
            have HQ4 := Hid.intro' ((HQ.out.next hb3).next hbA)
            have HXT : Hid (TB (W3.alloc (.cells #[.int .i64 fj, .int .i64 T, .int .i64 L] 54)) W3.heap.size ⟨fj, T, L⟩) := TB.new W3 ⟨fj, T, L⟩
            have HB7 := Hid.intro' (show b7 ≠ W3.heap.size by have := HQ.out.tb.lt; have := hb3.size; omega)
            clear hb3 hbA HQ HNX HQB s0 t0 t1 t2 hcj q1 q2
            go_wp2_with fail
            generalize W3.alloc (.cells #[.int .i64 fj, .int .i64 T, .int .i64 L] 54) = W4 at HQ4 HXT ⊢
            generalize W3.heap.size = b10 at HXT HB7 ⊢
            have HX0 : Hid (∀ w', Below W4.heap.size W4 w' → w'.cell? ⟨b10, 0, none⟩ = some (.int .i64 fj)) := fun w' hw => (HXT.out.below' hw).c0
            have HX1 : Hid (∀ w', Below W4.heap.size W4 w' → w'.cell? ⟨b10, 1, none⟩ = some (.int .i64 T)) := fun w' hw => (HXT.out.below' hw).c1
            have HX2 : Hid (∀ w', Below W4.heap.size W4 w' → w'.cell? ⟨b10, 2, none⟩ = some (.int .i64 L)) := fun w' hw => (HXT.out.below' hw).c2
            have HA0 : Hid (∀ w', Below W4.heap.size W4 w' → w'.cell? ⟨b7, 0, none⟩ = some (.int .i64 fl)) := fun w' hw => (HQ4.out.next hw).tb.c0
            have HA1 : Hid (∀ w', Below W4.heap.size W4 w' → w'.cell? ⟨b7, 1, none⟩ = some (.int .i64 he)) := fun w' hw => (HQ4.out.next hw).tb.c1
            have HA2 : Hid (∀ w', Below W4.heap.size W4 w' → w'.cell? ⟨b7, 2, none⟩ = some (.int .i64 le)) := fun w' hw => (HQ4.out.next hw).tb.c2
            have HR0 : Hid (∀ w', Below W4.heap.size W4 w' → w'.cell? ⟨w.heap.size + 1, 0, none⟩ = some (.int .i64 f)) := fun w' hw => (HQ4.out.next hw).r0
            have HR1 : Hid (∀ w', Below W4.heap.size W4 w' → w'.cell? ⟨w.heap.size + 1, 1, none⟩ = some (.int .i64 a)) := fun w' hw => (HQ4.out.next hw).r1
            have HSB : Hid (∀ w', Below W4.heap.size W4 w' → SB w' w.heap.size s) := fun w' hw => (HQ4.out.next hw).sb
            have HS5 : Hid (∀ w', Below W4.heap.size W4 w' → w'.cell? ⟨w.heap.size, 5, none⟩ = some (.int .i64 s.opn)) := fun w' hw => (HQ4.out.next hw).sb.cell 5
            have HS6 : Hid (∀ w', Below W4.heap.size W4 w' → w'.cell? ⟨w.heap.size, 6, none⟩ = some (.int .i64 s.wai)) := fun w' hw => (HQ4.out.next hw).sb.cell 6
            have HS7 : Hid (∀ w', Below W4.heap.size W4 w' → w'.cell? ⟨w.heap.size, 7, none⟩ = some (.int .i64 s.clo)) := fun w' hw => (HQ4.out.next hw).sb.cell 7
            have HTV : Hid (∀ w', Below W4.heap.size W4 w' → Calls Try.prog 26 #[.agg (sv s).toArray, .int .i64 f, .int .i64 fj] w' fun e w'' => e = .returned (.int .i64 (SM.trav s f fj)) ∧ Below w'.heap.size w' w'') := fun w' _ => rtravel_any s HRT.out f fj w'
            generalize SM.trav s f fj = tr at HTV HFI HT1
            have g1 : IntKind.i64.wrap (a + tr) = a + tr := IntWalk.i64_in _ (by have := HT1.out; have := HAB.out; omega)
            have g2 : decide (T < a + tr) = false := decide_eq_false (by have := HFI.out; omega)
            have g3 : decide (T < he) = false := decide_eq_false (by have := HHE.out; omega)
            have HTB := Hid.intro' (show 0 ≤ T ∧ T ≤ 100000000 by have := HAR.out; have := HARN.out; have := HXL.out; omega)
            have o1 := HRT.out.opn1; have o2 := HRT.out.opn2; have o3 := HRT.out.wai1; have o4 := HRT.out.wai2; have o5 := HRT.out.clo1; have o6 := HRT.out.clo2
            have g4 : IntKind.i64.wrap (T + s.opn) = T + s.opn := IntWalk.i64_in _ (by have := HTB.out; omega)
            have g5 : IntKind.i64.wrap (T + s.opn + s.wai) = T + s.opn + s.wai := IntWalk.i64_in _ (by have := HTB.out; omega)
            have g6 : IntKind.i64.wrap (T + s.opn + s.wai + s.clo) = T + s.opn + s.wai + s.clo := IntWalk.i64_in _ (by have := HTB.out; omega)
            have g7 : IntKind.i64.wrap (T + s.opn + s.wai + s.clo + 2) = L := by rw [IntWalk.i64_in _ (by have := HTB.out; omega)]; have := HL.out; unfold RM.dw at this; omega
            clear o1 o2 o3 o4 o5 o6
            refine wp_region_quiet (C := fun w' => Below W4.heap.size W4 w') (by kernel_rfl) (by kernel_rfl) ((Below.refl _ _).drew) ?_
            simp only []
            unfold wpQuiet
            generalize hK : wpQuiet Try.prog _ _ _ _ = K
            go_simp
            refine ⟨_, fun _ _ => rfl, ?_⟩
            subst hK
            unfold wpQuiet
            generalize hK : wpQuiet Try.prog _ _ _ _ = K
            rw [if_pos (by go_simp)]
            refine quiet_load3 _ _ _ rfl rfl HX0.out ?_
            go_simp
            subst hK
            unfold wpQuiet
            generalize hK : wpQuiet Try.prog _ _ _ _ = K
            go_simp
            refine ⟨_, fun _ _ => rfl, ?_⟩
            subst hK
            unfold wpQuiet
            generalize hK : wpQuiet Try.prog _ _ _ _ = K
            go_simp
            refine ⟨_, fun _ _ => rfl, ?_⟩
            subst hK
            unfold wpQuiet
            generalize hK : wpQuiet Try.prog _ _ _ _ = K
            go_simp
            refine ⟨_, fun _ _ => rfl, ?_⟩
            subst hK
            unfold wpQuiet
            generalize hK : wpQuiet Try.prog _ _ _ _ = K
            go_simp
            refine ⟨_, fun _ _ => rfl, ?_⟩
            subst hK
            unfold wpQuiet
            generalize hK : wpQuiet Try.prog _ _ _ _ = K
            rw [if_pos (by go_simp)]
            refine quiet_load3 _ _ _ rfl rfl HX1.out ?_
            go_simp
            subst hK
            unfold wpQuiet
            generalize hK : wpQuiet Try.prog _ _ _ _ = K
            go_simp
            refine ⟨_, fun _ _ => rfl, ?_⟩
            subst hK
            unfold wpQuiet
            generalize hK : wpQuiet Try.prog _ _ _ _ = K
            rw [if_pos (by go_simp)]
            refine quiet_load3 _ _ _ rfl rfl HA1.out ?_
            go_simp
            subst hK
            unfold wpQuiet
            generalize hK : wpQuiet Try.prog _ _ _ _ = K
            go_simp
            refine ⟨_, fun _ _ => rfl, ?_⟩
            subst hK
            unfold wpQuiet
            generalize hK : wpQuiet Try.prog _ _ _ _ = K
            go_simp
            refine ⟨_, fun _ _ => rfl, ?_⟩
            subst hK
            unfold wpQuiet
            generalize hK : wpQuiet Try.prog _ _ _ _ = K
            go_simp
            refine ⟨_, fun _ _ => rfl, ?_⟩
            subst hK
            unfold wpQuiet
            generalize hK : wpQuiet Try.prog _ _ _ _ = K
            go_simp
            refine ⟨_, fun _ _ => rfl, ?_⟩
            subst hK
            unfold wpQuiet
            generalize hK : wpQuiet Try.prog _ _ _ _ = K
            rw [if_pos (by go_simp)]
            refine quiet_load3 _ _ _ rfl rfl HX1.out ?_
            go_simp
            subst hK
            unfold wpQuiet
            generalize hK : wpQuiet Try.prog _ _ _ _ = K
            go_simp
            refine ⟨_, fun _ _ => rfl, ?_⟩
            subst hK
            unfold wpQuiet
            generalize hK : wpQuiet Try.prog _ _ _ _ = K
            rw [if_pos (by go_simp)]
            refine quiet_load3 _ _ _ rfl rfl HR1.out ?_
            go_simp
            subst hK
            unfold wpQuiet
            generalize hK : wpQuiet Try.prog _ _ _ _ = K
            rw [if_pos (by go_simp)]
            refine quiet_load23r _ w.heap.size s rfl rfl HSB.out ?_
            go_simp
            subst hK
            unfold wpQuiet
            generalize hK : wpQuiet Try.prog _ _ _ _ = K
            go_simp
            refine ⟨_, fun _ _ => rfl, ?_⟩
            subst hK
            unfold wpQuiet
            generalize hK : wpQuiet Try.prog _ _ _ _ = K
            rw [if_pos (by go_simp)]
            refine quiet_load3 _ _ _ rfl rfl HR0.out ?_
            go_simp
            subst hK
            unfold wpQuiet
            generalize hK : wpQuiet Try.prog _ _ _ _ = K
            go_simp
            refine ⟨_, fun _ _ => rfl, ?_⟩
            subst hK
            unfold wpQuiet
            generalize hK : wpQuiet Try.prog _ _ _ _ = K
            go_simp
            refine ⟨_, fun w' hw => (HTV.out w' hw).mono fun e w'' hh => ⟨hh.1, below_class hw hh.2⟩, ?_⟩
            subst hK
            unfold wpQuiet
            generalize hK : wpQuiet Try.prog _ _ _ _ = K
            go_simp
            refine ⟨_, fun _ _ => rfl, ?_⟩
            subst hK
            unfold wpQuiet
            generalize hK : wpQuiet Try.prog _ _ _ _ = K
            go_simp
            refine ⟨_, fun _ _ => rfl, ?_⟩
            subst hK
            unfold wpQuiet
            generalize hK : wpQuiet Try.prog _ _ _ _ = K
            go_simp
            refine ⟨_, fun _ _ => rfl, ?_⟩
            subst hK
            unfold wpQuiet
            generalize hK : wpQuiet Try.prog _ _ _ _ = K
            go_simp
            refine ⟨_, fun _ _ => rfl, ?_⟩
            subst hK
            unfold wpQuiet
            generalize hK : wpQuiet Try.prog _ _ _ _ = K
            go_simp
            refine ⟨_, fun _ _ => rfl, ?_⟩
            subst hK
            unfold wpQuiet
            generalize hK : wpQuiet Try.prog _ _ _ _ = K
            rw [if_pos (by go_simp)]
            refine quiet_load3 _ _ _ rfl rfl HX2.out ?_
            go_simp
            subst hK
            unfold wpQuiet
            generalize hK : wpQuiet Try.prog _ _ _ _ = K
            go_simp
            refine ⟨_, fun _ _ => rfl, ?_⟩
            subst hK
            unfold wpQuiet
            generalize hK : wpQuiet Try.prog _ _ _ _ = K
            rw [if_pos (by go_simp)]
            refine quiet_load3 _ _ _ rfl rfl HX1.out ?_
            go_simp
            subst hK
            unfold wpQuiet
            generalize hK : wpQuiet Try.prog _ _ _ _ = K
            go_simp
            refine ⟨_, fun _ _ => rfl, ?_⟩
            subst hK
            unfold wpQuiet
            generalize hK : wpQuiet Try.prog _ _ _ _ = K
            rw [if_pos (by go_simp)]
            refine quiet_load3 _ _ _ rfl rfl HS5.out ?_
            go_simp
            subst hK
            unfold wpQuiet
            generalize hK : wpQuiet Try.prog _ _ _ _ = K
            go_simp
            refine ⟨_, fun _ _ => rfl, ?_⟩
            subst hK
            unfold wpQuiet
            generalize hK : wpQuiet Try.prog _ _ _ _ = K
            go_simp
            refine ⟨_, fun _ _ => rfl, ?_⟩
            subst hK
            unfold wpQuiet
            generalize hK : wpQuiet Try.prog _ _ _ _ = K
            rw [if_pos (by go_simp)]
            refine quiet_load3 _ _ _ rfl rfl HS6.out ?_
            go_simp
            subst hK
            unfold wpQuiet
            generalize hK : wpQuiet Try.prog _ _ _ _ = K
            go_simp
            refine ⟨_, fun _ _ => rfl, ?_⟩
            subst hK
            unfold wpQuiet
            generalize hK : wpQuiet Try.prog _ _ _ _ = K
            go_simp
            refine ⟨_, fun _ _ => rfl, ?_⟩
            subst hK
            unfold wpQuiet
            generalize hK : wpQuiet Try.prog _ _ _ _ = K
            rw [if_pos (by go_simp)]
            refine quiet_load3 _ _ _ rfl rfl HS7.out ?_
            go_simp
            subst hK
            unfold wpQuiet
            generalize hK : wpQuiet Try.prog _ _ _ _ = K
            go_simp
            refine ⟨_, fun _ _ => rfl, ?_⟩
            subst hK
            unfold wpQuiet
            generalize hK : wpQuiet Try.prog _ _ _ _ = K
            go_simp
            refine ⟨_, fun _ _ => rfl, ?_⟩
            subst hK
            unfold wpQuiet
            generalize hK : wpQuiet Try.prog _ _ _ _ = K
            go_simp
            refine ⟨_, fun _ _ => rfl, ?_⟩
            subst hK
            unfold wpQuiet
            generalize hK : wpQuiet Try.prog _ _ _ _ = K
            go_simp
            refine ⟨_, fun _ _ => rfl, ?_⟩
            subst hK
            refine wpQuiet_nil ?_
            intro W5 hb5
            have HQ5 := Hid.intro' (HQ4.out.next hb5)
            have HXT5 := Hid.intro' (HXT.out.below' hb5)
            clear hb5 HX0 HX1 HX2 HA0 HA1 HA2 HR0 HR1 HSB HS5 HS6 HS7 HTV HQ4 HXT g1 g2 g3 g4 g5 g6 g7
            go_wp2_with fail
            have HX0 : Hid (∀ w', Below W5.heap.size W5 w' → w'.cell? ⟨b10, 0, none⟩ = some (.int .i64 fj)) := fun w' hw => (HXT5.out.below' hw).c0
            have HX1 : Hid (∀ w', Below W5.heap.size W5 w' → w'.cell? ⟨b10, 1, none⟩ = some (.int .i64 T)) := fun w' hw => (HXT5.out.below' hw).c1
            have HX2 : Hid (∀ w', Below W5.heap.size W5 w' → w'.cell? ⟨b10, 2, none⟩ = some (.int .i64 L)) := fun w' hw => (HXT5.out.below' hw).c2
            have HA0 : Hid (∀ w', Below W5.heap.size W5 w' → w'.cell? ⟨b7, 0, none⟩ = some (.int .i64 fl)) := fun w' hw => (HQ5.out.next hw).tb.c0
            have HA1 : Hid (∀ w', Below W5.heap.size W5 w' → w'.cell? ⟨b7, 1, none⟩ = some (.int .i64 he)) := fun w' hw => (HQ5.out.next hw).tb.c1
            have HA2 : Hid (∀ w', Below W5.heap.size W5 w' → w'.cell? ⟨b7, 2, none⟩ = some (.int .i64 le)) := fun w' hw => (HQ5.out.next hw).tb.c2
            have HR0 : Hid (∀ w', Below W5.heap.size W5 w' → w'.cell? ⟨w.heap.size + 1, 0, none⟩ = some (.int .i64 f)) := fun w' hw => (HQ5.out.next hw).r0
            have HR1 : Hid (∀ w', Below W5.heap.size W5 w' → w'.cell? ⟨w.heap.size + 1, 1, none⟩ = some (.int .i64 a)) := fun w' hw => (HQ5.out.next hw).r1
            have HSB : Hid (∀ w', Below W5.heap.size W5 w' → SB w' w.heap.size s) := fun w' hw => (HQ5.out.next hw).sb
            have HS5 : Hid (∀ w', Below W5.heap.size W5 w' → w'.cell? ⟨w.heap.size, 5, none⟩ = some (.int .i64 s.opn)) := fun w' hw => (HQ5.out.next hw).sb.cell 5
            have HS6 : Hid (∀ w', Below W5.heap.size W5 w' → w'.cell? ⟨w.heap.size, 6, none⟩ = some (.int .i64 s.wai)) := fun w' hw => (HQ5.out.next hw).sb.cell 6
            have HS7 : Hid (∀ w', Below W5.heap.size W5 w' → w'.cell? ⟨w.heap.size, 7, none⟩ = some (.int .i64 s.clo)) := fun w' hw => (HQ5.out.next hw).sb.cell 7
            have HTW : Hid (∀ w', Below W5.heap.size W5 w' → Calls Try.prog 26 #[.agg (sv s).toArray, .int .i64 fl, .int .i64 fj] w' fun e w'' => e = .returned (.int .i64 (SM.trav s fl fj)) ∧ Below w'.heap.size w' w'') := fun w' _ => rtravel_any s HRT.out fl fj w'
            clear HR0 HR1 HS5 HS6 HS7
            have HHH := Hid.intro' (show he = -1 ∨ (0 ≤ he ∧ le = he + RM.dw s) from HXO.out.hh)
            have HLN := Hid.intro' (show 0 ≤ le from HXO.out.l0)
            by_cases hh : he = -1
            · subst hh
              have HE : Hid (T = le + SM.trav s fl fj) := by
                show T = _
                rw [HARD.out, if_neg (fun h => h.1 rfl)]
              generalize SM.trav s fl fj = tr2 at HTW HE HT2
              have g1 : IntKind.i64.wrap (le + tr2) = T := by rw [IntWalk.i64_in _ (by have := HT2.out; have := HXL.out; have := HLN.out; omega)]; exact HE.out.symm
              refine wp_region_quiet (C := fun w' => Below W5.heap.size W5 w') (by kernel_rfl) (by kernel_rfl) ((Below.refl _ _).drew) ?_
              simp only []
              unfold wpQuiet
              generalize hK : wpQuiet Try.prog _ _ _ _ = K
              go_simp
              refine ⟨_, fun _ _ => rfl, ?_⟩
              subst hK
              unfold wpQuiet
              generalize hK : wpQuiet Try.prog _ _ _ _ = K
              rw [if_pos (by go_simp)]
              refine quiet_load3 _ _ _ rfl rfl HA1.out ?_
              go_simp
              subst hK
              unfold wpQuiet
              generalize hK : wpQuiet Try.prog _ _ _ _ = K
              go_simp
              refine ⟨_, fun _ _ => rfl, ?_⟩
              subst hK
              unfold wpQuiet
              generalize hK : wpQuiet Try.prog _ _ _ _ = K
              go_simp
              refine ⟨_, fun _ _ => rfl, ?_⟩
              subst hK
              unfold wpQuiet
              generalize hK : wpQuiet Try.prog _ _ _ _ = K
              go_simp
              subst hK
              unfold wpQuiet
              generalize hK : wpQuiet Try.prog _ _ _ _ = K
              go_simp
              subst hK
              unfold wpQuiet
              generalize hK : wpQuiet Try.prog _ _ _ _ = K
              go_simp
              subst hK
              unfold wpQuiet
              generalize hK : wpQuiet Try.prog _ _ _ _ = K
              go_simp
              subst hK
              unfold wpQuiet
              generalize hK : wpQuiet Try.prog _ _ _ _ = K
              go_simp
              refine ⟨_, fun _ _ => rfl, ?_⟩
              subst hK
              unfold wpQuiet
              generalize hK : wpQuiet Try.prog _ _ _ _ = K
              go_simp
              refine ⟨_, fun _ _ => rfl, ?_⟩
              subst hK
              unfold wpQuiet
              generalize hK : wpQuiet Try.prog _ _ _ _ = K
              go_simp
              subst hK
              unfold wpQuiet
              generalize hK : wpQuiet Try.prog _ _ _ _ = K
              go_simp
              subst hK
              unfold wpQuiet
              generalize hK : wpQuiet Try.prog _ _ _ _ = K
              go_simp
              subst hK
              unfold wpQuiet
              generalize hK : wpQuiet Try.prog _ _ _ _ = K
              go_simp
              refine ⟨_, fun _ _ => rfl, ?_⟩
              subst hK
              unfold wpQuiet
              generalize hK : wpQuiet Try.prog _ _ _ _ = K
              go_simp
              refine ⟨_, fun _ _ => rfl, ?_⟩
              subst hK
              unfold wpQuiet
              generalize hK : wpQuiet Try.prog _ _ _ _ = K
              go_simp
              refine ⟨_, fun _ _ => rfl, ?_⟩
              subst hK
              unfold wpQuiet
              generalize hK : wpQuiet Try.prog _ _ _ _ = K
              rw [if_pos (by go_simp)]
              refine quiet_load3 _ _ _ rfl rfl HA1.out ?_
              go_simp
              subst hK
              unfold wpQuiet
              generalize hK : wpQuiet Try.prog _ _ _ _ = K
              go_simp
              refine ⟨_, fun _ _ => rfl, ?_⟩
              subst hK
              unfold wpQuiet
              generalize hK : wpQuiet Try.prog _ _ _ _ = K
              go_simp
              refine ⟨_, fun _ _ => rfl, ?_⟩
              subst hK
              unfold wpQuiet
              generalize hK : wpQuiet Try.prog _ _ _ _ = K
              go_simp
              subst hK
              unfold wpQuiet
              generalize hK : wpQuiet Try.prog _ _ _ _ = K
              go_simp
              subst hK
              unfold wpQuiet
              generalize hK : wpQuiet Try.prog _ _ _ _ = K
              go_simp
              subst hK
              unfold wpQuiet
              generalize hK : wpQuiet Try.prog _ _ _ _ = K
              go_simp
              subst hK
              unfold wpQuiet
              generalize hK : wpQuiet Try.prog _ _ _ _ = K
              go_simp
              refine ⟨_, fun _ _ => rfl, ?_⟩
              subst hK
              unfold wpQuiet
              generalize hK : wpQuiet Try.prog _ _ _ _ = K
              go_simp
              refine ⟨_, fun _ _ => rfl, ?_⟩
              subst hK
              unfold wpQuiet
              generalize hK : wpQuiet Try.prog _ _ _ _ = K
              go_simp
              refine ⟨_, fun _ _ => rfl, ?_⟩
              subst hK
              unfold wpQuiet
              generalize hK : wpQuiet Try.prog _ _ _ _ = K
              rw [if_pos (by go_simp)]
              refine quiet_load3 _ _ _ rfl rfl HX1.out ?_
              go_simp
              subst hK
              unfold wpQuiet
              generalize hK : wpQuiet Try.prog _ _ _ _ = K
              go_simp
              refine ⟨_, fun _ _ => rfl, ?_⟩
              subst hK
              unfold wpQuiet
              generalize hK : wpQuiet Try.prog _ _ _ _ = K
              rw [if_pos (by go_simp)]
              refine quiet_load3 _ _ _ rfl rfl HA2.out ?_
              go_simp
              subst hK
              unfold wpQuiet
              generalize hK : wpQuiet Try.prog _ _ _ _ = K
              rw [if_pos (by go_simp)]
              refine quiet_load23r _ w.heap.size s rfl rfl HSB.out ?_
              go_simp
              subst hK
              unfold wpQuiet
              generalize hK : wpQuiet Try.prog _ _ _ _ = K
              go_simp
              refine ⟨_, fun _ _ => rfl, ?_⟩
              subst hK
              unfold wpQuiet
              generalize hK : wpQuiet Try.prog _ _ _ _ = K
              rw [if_pos (by go_simp)]
              refine quiet_load3 _ _ _ rfl rfl HA0.out ?_
              go_simp
              subst hK
              unfold wpQuiet
              generalize hK : wpQuiet Try.prog _ _ _ _ = K
              go_simp
              refine ⟨_, fun _ _ => rfl, ?_⟩
              subst hK
              unfold wpQuiet
              generalize hK : wpQuiet Try.prog _ _ _ _ = K
              go_simp
              refine ⟨_, fun w' hw => (HTW.out w' hw).mono fun e w'' hh => ⟨hh.1, below_class hw hh.2⟩, ?_⟩
              subst hK
              unfold wpQuiet
              generalize hK : wpQuiet Try.prog _ _ _ _ = K
              go_simp
              refine ⟨_, fun _ _ => rfl, ?_⟩
              subst hK
              unfold wpQuiet
              generalize hK : wpQuiet Try.prog _ _ _ _ = K
              go_simp
              refine ⟨_, fun _ _ => rfl, ?_⟩
              subst hK
              unfold wpQuiet
              generalize hK : wpQuiet Try.prog _ _ _ _ = K
              go_simp
              refine ⟨_, fun _ _ => rfl, ?_⟩
              subst hK
              unfold wpQuiet
              generalize hK : wpQuiet Try.prog _ _ _ _ = K
              go_simp
              refine ⟨_, fun _ _ => rfl, ?_⟩
              subst hK
              refine wpQuiet_nil ?_
              intro W6 hb6
              have HQ6 := Hid.intro' (HQ5.out.next hb6)
              have HXT6 := Hid.intro' (HXT5.out.below' hb6)
              have x0 := HXT6.out.c0
              have x1 := HXT6.out.c1
              have x2 := HXT6.out.c2
              have HTB7 := Hid.intro' HQ6.out.tb
              clear hb6 HX0 HX1 HX2 HA0 HA1 HA2 HSB HQ5 HXT5
              simp only at x0 x1 x2
              go_wp2_with (refine wpList_storeT rfl _ _ rfl b7 rfl rfl HTB7.out ?_)
              intro W7 hk7 ht7
              have HQ7 := Hid.intro' (HQ6.out.put (k := j + 1) hk7 ht7 HGO.out HIN.out)
              clear hk7 ht7 HQ6 HXT6 HTB7 x0 x1 x2
              have hj200 : l.length ≤ 200 := HLEN.out
              go_wp2
              go_roundw
              case rel => exact ⟨j + 1, _, by omega, by go_num, HQ7⟩
              case measure => simp [intOf]; omega
            · have hge : 0 ≤ he := (HHH.out.resolve_left hh).1
              have g0 : decide (0 ≤ he) = true := decide_eq_true hge
              have g9 : decide (he < 0) = false := decide_eq_false (by omega)
              by_cases hf : fl = fj
              · subst hf
                have hTe : T = he := by
                  have h1 := HARD.out
                  rwa [if_pos ⟨hh, rfl⟩] at h1
                subst hTe
                have hLe : L = le := by
                  have h1 := (HHH.out.resolve_left hh).2
                  have h2 := HL.out
                  omega
                subst hLe
                have HAB5 : Hid (∀ w', Below W5.heap.size W5 w' → TB w' b7 ⟨fl, T, L⟩) := fun w' hw => (HQ5.out.next hw).tb
                have HXB : Hid (∀ w', Below W5.heap.size W5 w' → TB w' b10 ⟨fl, T, L⟩) := fun w' hw => HXT5.out.below' hw
                have heq := eqT fl T L
                clear hh hge
                refine wp_region_quiet (C := fun w' => Below W5.heap.size W5 w') (by kernel_rfl) (by kernel_rfl) ((Below.refl _ _).drew) ?_
                simp only []
                unfold wpQuiet
                generalize hK : wpQuiet Try.prog _ _ _ _ = K
                go_simp
                refine ⟨_, fun _ _ => rfl, ?_⟩
                subst hK
                unfold wpQuiet
                generalize hK : wpQuiet Try.prog _ _ _ _ = K
                rw [if_pos (by go_simp)]
                refine quiet_load3 _ _ _ rfl rfl HA1.out ?_
                go_simp
                subst hK
                unfold wpQuiet
                generalize hK : wpQuiet Try.prog _ _ _ _ = K
                go_simp
                refine ⟨_, fun _ _ => rfl, ?_⟩
                subst hK
                unfold wpQuiet
                generalize hK : wpQuiet Try.prog _ _ _ _ = K
                go_simp
                refine ⟨_, fun _ _ => rfl, ?_⟩
                subst hK
                unfold wpQuiet
                generalize hK : wpQuiet Try.prog _ _ _ _ = K
                go_simp
                refine ⟨_, fun _ _ => rfl, ?_⟩
                subst hK
                unfold wpQuiet
                generalize hK : wpQuiet Try.prog _ _ _ _ = K
                rw [if_pos (by go_simp)]
                refine quiet_load3 _ _ _ rfl rfl HA0.out ?_
                go_simp
                subst hK
                unfold wpQuiet
                generalize hK : wpQuiet Try.prog _ _ _ _ = K
                go_simp
                refine ⟨_, fun _ _ => rfl, ?_⟩
                subst hK
                unfold wpQuiet
                generalize hK : wpQuiet Try.prog _ _ _ _ = K
                go_simp
                refine ⟨_, fun _ _ => rfl, ?_⟩
                subst hK
                unfold wpQuiet
                generalize hK : wpQuiet Try.prog _ _ _ _ = K
                go_simp
                refine ⟨_, fun _ _ => rfl, ?_⟩
                subst hK
                unfold wpQuiet
                generalize hK : wpQuiet Try.prog _ _ _ _ = K
                go_simp
                refine ⟨_, fun _ _ => rfl, ?_⟩
                subst hK
                unfold wpQuiet
                generalize hK : wpQuiet Try.prog _ _ _ _ = K
                rw [if_pos (by go_simp)]
                refine quiet_loadT _ b10 ⟨fl, T, L⟩ rfl rfl HXB.out ?_
                go_simp
                subst hK
                unfold wpQuiet
                generalize hK : wpQuiet Try.prog _ _ _ _ = K
                rw [if_pos (by go_simp)]
                refine quiet_loadT _ b7 ⟨fl, T, L⟩ rfl rfl HAB5.out ?_
                go_simp
                subst hK
                unfold wpQuiet
                generalize hK : wpQuiet Try.prog _ _ _ _ = K
                go_simp
                refine ⟨_, fun _ _ => rfl, ?_⟩
                subst hK
                unfold wpQuiet
                generalize hK : wpQuiet Try.prog _ _ _ _ = K
                go_simp
                refine ⟨_, fun _ _ => rfl, ?_⟩
                subst hK
                unfold wpQuiet
                generalize hK : wpQuiet Try.prog _ _ _ _ = K
                go_simp
                refine ⟨_, fun _ _ => rfl, ?_⟩
                subst hK
                unfold wpQuiet
                generalize hK : wpQuiet Try.prog _ _ _ _ = K
                go_simp
                refine ⟨_, fun _ _ => rfl, ?_⟩
                subst hK
                unfold wpQuiet
                generalize hK : wpQuiet Try.prog _ _ _ _ = K
                rw [if_pos (by go_simp)]
                refine quiet_load3 _ _ _ rfl rfl HA1.out ?_
                go_simp
                subst hK
                unfold wpQuiet
                generalize hK : wpQuiet Try.prog _ _ _ _ = K
                go_simp
                refine ⟨_, fun _ _ => rfl, ?_⟩
                subst hK
                unfold wpQuiet
                generalize hK : wpQuiet Try.prog _ _ _ _ = K
                go_simp
                refine ⟨_, fun _ _ => rfl, ?_⟩
                subst hK
                unfold wpQuiet
                generalize hK : wpQuiet Try.prog _ _ _ _ = K
                go_simp
                refine ⟨_, fun _ _ => rfl, ?_⟩
                subst hK
                unfold wpQuiet
                generalize hK : wpQuiet Try.prog _ _ _ _ = K
                rw [if_pos (by go_simp)]
                refine quiet_load3 _ _ _ rfl rfl HA0.out ?_
                go_simp
                subst hK
                unfold wpQuiet
                generalize hK : wpQuiet Try.prog _ _ _ _ = K
                go_simp
                refine ⟨_, fun _ _ => rfl, ?_⟩
                subst hK
                unfold wpQuiet
                generalize hK : wpQuiet Try.prog _ _ _ _ = K
                go_simp
                refine ⟨_, fun _ _ => rfl, ?_⟩
                subst hK
                unfold wpQuiet
                generalize hK : wpQuiet Try.prog _ _ _ _ = K
                go_simp
                refine ⟨_, fun _ _ => rfl, ?_⟩
                subst hK
                unfold wpQuiet
                generalize hK : wpQuiet Try.prog _ _ _ _ = K
                go_simp
                refine ⟨_, fun _ _ => rfl, ?_⟩
                subst hK
                unfold wpQuiet
                generalize hK : wpQuiet Try.prog _ _ _ _ = K
                go_simp
                subst hK
                unfold wpQuiet
                generalize hK : wpQuiet Try.prog _ _ _ _ = K
                go_simp
                subst hK
                unfold wpQuiet
                generalize hK : wpQuiet Try.prog _ _ _ _ = K
                go_simp
                subst hK
                unfold wpQuiet
                generalize hK : wpQuiet Try.prog _ _ _ _ = K
                go_simp
                subst hK
                unfold wpQuiet
                generalize hK : wpQuiet Try.prog _ _ _ _ = K
                go_simp
                subst hK
                unfold wpQuiet
                generalize hK : wpQuiet Try.prog _ _ _ _ = K
                go_simp
                subst hK
                unfold wpQuiet
                generalize hK : wpQuiet Try.prog _ _ _ _ = K
                go_simp
                subst hK
                unfold wpQuiet
                generalize hK : wpQuiet Try.prog _ _ _ _ = K
                go_simp
                subst hK
                unfold wpQuiet
                generalize hK : wpQuiet Try.prog _ _ _ _ = K
                go_simp
                subst hK
                unfold wpQuiet
                generalize hK : wpQuiet Try.prog _ _ _ _ = K
                go_simp
                subst hK
                unfold wpQuiet
                generalize hK : wpQuiet Try.prog _ _ _ _ = K
                go_simp
                subst hK
                unfold wpQuiet
                generalize hK : wpQuiet Try.prog _ _ _ _ = K
                go_simp
                refine ⟨_, fun _ _ => rfl, ?_⟩
                subst hK
                unfold wpQuiet
                generalize hK : wpQuiet Try.prog _ _ _ _ = K
                go_simp
                refine ⟨_, fun _ _ => rfl, ?_⟩
                subst hK
                clear heq HAB5 HXB
                refine wpQuiet_nil ?_
                intro W6 hb6
                have HQ6 := Hid.intro' (HQ5.out.next hb6)
                have HXT6 := Hid.intro' (HXT5.out.below' hb6)
                have x0 := HXT6.out.c0
                have x1 := HXT6.out.c1
                have x2 := HXT6.out.c2
                have HTB7 := Hid.intro' HQ6.out.tb
                clear hb6 HX0 HX1 HX2 HA0 HA1 HA2 HSB HQ5 HXT5
                simp only at x0 x1 x2
                go_wp2_with (refine wpList_storeT rfl _ _ rfl b7 rfl rfl HTB7.out ?_)
                intro W7 hk7 ht7
                have HQ7 := Hid.intro' (HQ6.out.put (k := j + 1) hk7 ht7 HGO.out HIN.out)
                clear hk7 ht7 HQ6 HXT6 HTB7 x0 x1 x2
                have hj200 : l.length ≤ 200 := HLEN.out
                go_wp2
                go_roundw
                case rel => exact ⟨j + 1, _, by omega, by go_num, HQ7⟩
                case measure => simp [intOf]; omega
              · have HE : Hid (T = le + SM.trav s fl fj) := by
                  show T = _
                  rw [HARD.out, if_neg (fun h => hf h.2)]
                generalize SM.trav s fl fj = tr2 at HTW HE HT2
                have g1 : IntKind.i64.wrap (le + tr2) = T := by rw [IntWalk.i64_in _ (by have := HT2.out; have := HXL.out; have := HLN.out; omega)]; exact HE.out.symm
                have g2 : (fl == fj) = false := by rw [beq_eq_false_iff_ne]; exact hf
                have g3 : (fl != fj) = true := by simp [hf]
                clear hh hge hf
                refine wp_region_quiet (C := fun w' => Below W5.heap.size W5 w') (by kernel_rfl) (by kernel_rfl) ((Below.refl _ _).drew) ?_
                simp only []
                unfold wpQuiet
                generalize hK : wpQuiet Try.prog _ _ _ _ = K
                go_simp
                refine ⟨_, fun _ _ => rfl, ?_⟩
                subst hK
                unfold wpQuiet
                generalize hK : wpQuiet Try.prog _ _ _ _ = K
                rw [if_pos (by go_simp)]
                refine quiet_load3 _ _ _ rfl rfl HA1.out ?_
                go_simp
                subst hK
                unfold wpQuiet
                generalize hK : wpQuiet Try.prog _ _ _ _ = K
                go_simp
                refine ⟨_, fun _ _ => rfl, ?_⟩
                subst hK
                unfold wpQuiet
                generalize hK : wpQuiet Try.prog _ _ _ _ = K
                go_simp
                refine ⟨_, fun _ _ => rfl, ?_⟩
                subst hK
                unfold wpQuiet
                generalize hK : wpQuiet Try.prog _ _ _ _ = K
                go_simp
                refine ⟨_, fun _ _ => rfl, ?_⟩
                subst hK
                unfold wpQuiet
                generalize hK : wpQuiet Try.prog _ _ _ _ = K
                rw [if_pos (by go_simp)]
                refine quiet_load3 _ _ _ rfl rfl HA0.out ?_
                go_simp
                subst hK
                unfold wpQuiet
                generalize hK : wpQuiet Try.prog _ _ _ _ = K
                go_simp
                refine ⟨_, fun _ _ => rfl, ?_⟩
                subst hK
                unfold wpQuiet
                generalize hK : wpQuiet Try.prog _ _ _ _ = K
                go_simp
                refine ⟨_, fun _ _ => rfl, ?_⟩
                subst hK
                unfold wpQuiet
                generalize hK : wpQuiet Try.prog _ _ _ _ = K
                go_simp
                refine ⟨_, fun _ _ => rfl, ?_⟩
                subst hK
                unfold wpQuiet
                generalize hK : wpQuiet Try.prog _ _ _ _ = K
                go_simp
                refine ⟨_, fun _ _ => rfl, ?_⟩
                subst hK
                unfold wpQuiet
                generalize hK : wpQuiet Try.prog _ _ _ _ = K
                go_simp
                subst hK
                unfold wpQuiet
                generalize hK : wpQuiet Try.prog _ _ _ _ = K
                go_simp
                subst hK
                unfold wpQuiet
                generalize hK : wpQuiet Try.prog _ _ _ _ = K
                go_simp
                subst hK
                unfold wpQuiet
                generalize hK : wpQuiet Try.prog _ _ _ _ = K
                go_simp
                refine ⟨_, fun _ _ => rfl, ?_⟩
                subst hK
                unfold wpQuiet
                generalize hK : wpQuiet Try.prog _ _ _ _ = K
                go_simp
                refine ⟨_, fun _ _ => rfl, ?_⟩
                subst hK
                unfold wpQuiet
                generalize hK : wpQuiet Try.prog _ _ _ _ = K
                go_simp
                refine ⟨_, fun _ _ => rfl, ?_⟩
                subst hK
                unfold wpQuiet
                generalize hK : wpQuiet Try.prog _ _ _ _ = K
                rw [if_pos (by go_simp)]
                refine quiet_load3 _ _ _ rfl rfl HA1.out ?_
                go_simp
                subst hK
                unfold wpQuiet
                generalize hK : wpQuiet Try.prog _ _ _ _ = K
                go_simp
                refine ⟨_, fun _ _ => rfl, ?_⟩
                subst hK
                unfold wpQuiet
                generalize hK : wpQuiet Try.prog _ _ _ _ = K
                go_simp
                refine ⟨_, fun _ _ => rfl, ?_⟩
                subst hK
                unfold wpQuiet
                generalize hK : wpQuiet Try.prog _ _ _ _ = K
                go_simp
                refine ⟨_, fun _ _ => rfl, ?_⟩
                subst hK
                unfold wpQuiet
                generalize hK : wpQuiet Try.prog _ _ _ _ = K
                rw [if_pos (by go_simp)]
                refine quiet_load3 _ _ _ rfl rfl HA0.out ?_
                go_simp
                subst hK
                unfold wpQuiet
                generalize hK : wpQuiet Try.prog _ _ _ _ = K
                go_simp
                refine ⟨_, fun _ _ => rfl, ?_⟩
                subst hK
                unfold wpQuiet
                generalize hK : wpQuiet Try.prog _ _ _ _ = K
                go_simp
                refine ⟨_, fun _ _ => rfl, ?_⟩
                subst hK
                unfold wpQuiet
                generalize hK : wpQuiet Try.prog _ _ _ _ = K
                go_simp
                refine ⟨_, fun _ _ => rfl, ?_⟩
                subst hK
                unfold wpQuiet
                generalize hK : wpQuiet Try.prog _ _ _ _ = K
                go_simp
                refine ⟨_, fun _ _ => rfl, ?_⟩
                subst hK
                unfold wpQuiet
                generalize hK : wpQuiet Try.prog _ _ _ _ = K
                go_simp
                refine ⟨_, fun _ _ => rfl, ?_⟩
                subst hK
                unfold wpQuiet
                generalize hK : wpQuiet Try.prog _ _ _ _ = K
                rw [if_pos (by go_simp)]
                refine quiet_load3 _ _ _ rfl rfl HX1.out ?_
                go_simp
                subst hK
                unfold wpQuiet
                generalize hK : wpQuiet Try.prog _ _ _ _ = K
                go_simp
                refine ⟨_, fun _ _ => rfl, ?_⟩
                subst hK
                unfold wpQuiet
                generalize hK : wpQuiet Try.prog _ _ _ _ = K
                rw [if_pos (by go_simp)]
                refine quiet_load3 _ _ _ rfl rfl HA2.out ?_
                go_simp
                subst hK
                unfold wpQuiet
                generalize hK : wpQuiet Try.prog _ _ _ _ = K
                rw [if_pos (by go_simp)]
                refine quiet_load23r _ w.heap.size s rfl rfl HSB.out ?_
                go_simp
                subst hK
                unfold wpQuiet
                generalize hK : wpQuiet Try.prog _ _ _ _ = K
                go_simp
                refine ⟨_, fun _ _ => rfl, ?_⟩
                subst hK
                unfold wpQuiet
                generalize hK : wpQuiet Try.prog _ _ _ _ = K
                rw [if_pos (by go_simp)]
                refine quiet_load3 _ _ _ rfl rfl HA0.out ?_
                go_simp
                subst hK
                unfold wpQuiet
                generalize hK : wpQuiet Try.prog _ _ _ _ = K
                go_simp
                refine ⟨_, fun _ _ => rfl, ?_⟩
                subst hK
                unfold wpQuiet
                generalize hK : wpQuiet Try.prog _ _ _ _ = K
                go_simp
                refine ⟨_, fun w' hw => (HTW.out w' hw).mono fun e w'' hh => ⟨hh.1, below_class hw hh.2⟩, ?_⟩
                subst hK
                unfold wpQuiet
                generalize hK : wpQuiet Try.prog _ _ _ _ = K
                go_simp
                refine ⟨_, fun _ _ => rfl, ?_⟩
                subst hK
                unfold wpQuiet
                generalize hK : wpQuiet Try.prog _ _ _ _ = K
                go_simp
                refine ⟨_, fun _ _ => rfl, ?_⟩
                subst hK
                unfold wpQuiet
                generalize hK : wpQuiet Try.prog _ _ _ _ = K
                go_simp
                refine ⟨_, fun _ _ => rfl, ?_⟩
                subst hK
                unfold wpQuiet
                generalize hK : wpQuiet Try.prog _ _ _ _ = K
                go_simp
                refine ⟨_, fun _ _ => rfl, ?_⟩
                subst hK
                refine wpQuiet_nil ?_
                intro W6 hb6
                have HQ6 := Hid.intro' (HQ5.out.next hb6)
                have HXT6 := Hid.intro' (HXT5.out.below' hb6)
                have x0 := HXT6.out.c0
                have x1 := HXT6.out.c1
                have x2 := HXT6.out.c2
                have HTB7 := Hid.intro' HQ6.out.tb
                clear hb6 HX0 HX1 HX2 HA0 HA1 HA2 HSB HQ5 HXT5
                simp only at x0 x1 x2
                go_wp2_with (refine wpList_storeT rfl _ _ rfl b7 rfl rfl HTB7.out ?_)
                intro W7 hk7 ht7
                have HQ7 := Hid.intro' (HQ6.out.put (k := j + 1) hk7 ht7 HGO.out HIN.out)
                clear hk7 ht7 HQ6 HXT6 HTB7 x0 x1 x2
                have hj200 : l.length ≤ 200 := HLEN.out
                go_wp2
                go_roundw
                case rel => exact ⟨j + 1, _, by omega, by go_num, HQ7⟩
                case measure => simp [intOf]; omega
      · have hjz : ¬ (j : Int) < (l.length : Int) := by omega
        go_wp2
        go_ret
        exact ⟨rfl, HQ.out.bel⟩

end Go.Proofs.Ytkcppidmbojglaf
