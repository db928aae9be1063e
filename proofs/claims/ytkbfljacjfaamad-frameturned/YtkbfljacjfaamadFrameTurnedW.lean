/- FrameTurned: the walk. -/
import Derived.Test.YtkbfljacjfaamadFrJ
namespace Go.Proofs.Ytkbfljacjfaamad
open Go.RowKit

/-- what stays: two frames in their blocks, and all that was there -/
structure Cy (w W : World) (b c : Nat) (f g : Fr) : Prop where
  fb : FB W b f
  gb : FB W c g
  bel : Below w.heap.size w W
theorem Cy.next {w W W' : World} {b c : Nat} {f g : Fr} (h : Cy w W b c f g) (hb : Below W.heap.size W W') : Cy w W' b c f g := ⟨h.fb.below' hb, h.gb.below' hb, below_class h.bel hb⟩

theorem sm_en {f g : Fr} (h : FC.May f) (k : FC.May g) : smF f g = decide (FC.en f = FC.en g) := by
  by_cases e : f = g
  · subst e; rw [smF_refl]; simp
  · rw [smF_no e, decide_eq_false]; exact fun x => e (FC.en_inj h k x)

theorem shl_bit {j : Nat} (h : j < 8) : ∃ p : Nat, p < 256 ∧ p ≠ 0 ∧ (2 : Int) ^ j % 256 = (p : Int) := by
  refine ⟨2 ^ j, ?_, ?_, ?_⟩
  · have := Nat.pow_lt_pow_right (a := 2) (by omega) h
    exact this
  · have := Nat.pow_pos (n := j) (show 0 < 2 by omega)
    omega
  · have : j = 0 ∨ j = 1 ∨ j = 2 ∨ j = 3 ∨ j = 4 ∨ j = 5 ∨ j = 6 ∨ j = 7 := by omega
    rcases this with rfl | rfl | rfl | rfl | rfl | rfl | rfl | rfl <;> rfl

set_option maxHeartbeats 4000000 in
theorem turned_true (f g : Fr) (at_ : Int) (w : World) :
    Calls Try.prog 8 #[.agg #[.int .i64 f.ki, .int .i64 f.ca, .int .i64 f.sq, .int .i64 f.a, .int .i64 f.b, .int .i64 f.c], .agg #[.int .i64 g.ki, .int .i64 g.ca, .int .i64 g.sq, .int .i64 g.a, .int .i64 g.b, .int .i64 g.c], .int .i64 at_] w fun e w' => e = .returned (.bool true) ∧ Below w.heap.size w w' := by
  obtain ⟨K, hK, eK⟩ : ∃ K : Nat, K < 65536 ∧ bits .and .i64 at_ 65535 = (K : Int) := ⟨(at_ % 65536).toNat, by omega, by rw [i64_and65535]; omega⟩
  have HX0 : Hid (Cy w ((w.alloc (.cells #[.int .i64 f.ki, .int .i64 f.ca, .int .i64 f.sq, .int .i64 f.a, .int .i64 f.b, .int .i64 f.c] 55)).alloc (.cells #[.int .i64 g.ki, .int .i64 g.ca, .int .i64 g.sq, .int .i64 g.a, .int .i64 g.b, .int .i64 g.c] 55)) w.heap.size (w.heap.size + 1) f g) := by
    refine ⟨(FB.new w f).alloc _, ?_, ((Below.refl _ w).alloc (Nat.le_refl _) _).alloc (by simp) _⟩
    have := FB.new (w.alloc (.cells #[.int .i64 f.ki, .int .i64 f.ca, .int .i64 f.sq, .int .i64 f.a, .int .i64 f.b, .int .i64 f.c] 55)) g
    rw [World.size_alloc] at this
    exact this
  go_enter Try.func8, Try.ntmps8
  go_wp2_with fail
  refine (speaks_any _).mono ?_
  rintro e W1 ⟨rfl, hb1⟩
  have HX1 := Hid.intro' (HX0.out.next hb1)
  clear hb1 HX0
  go_wp2_with (refine wpList_loadF rfl _ rfl w.heap.size rfl HX1.out.fb ?_)
  refine (may_any f _).mono ?_
  rintro e W2 ⟨rfl, hb2⟩
  have HX2 := Hid.intro' (HX1.out.next hb2)
  clear hb2 HX1
  cases hf : mayB f with
  | false =>
    go_wp2
    go_ret
    exact ⟨rfl, HX2.out.bel⟩
  | true =>
    go_wp2_with (refine wpList_loadFg (by go_simp) _ rfl (w.heap.size + 1) rfl HX2.out.gb ?_)
    refine (may_any g _).mono ?_
    rintro e W3 ⟨rfl, hb3⟩
    have HX3 := Hid.intro' (HX2.out.next hb3)
    clear hb3 HX2
    cases hg : mayB g with
    | false =>
      go_wp2
      go_ret
      exact ⟨rfl, HX3.out.bel⟩
    | true =>
      have HF := Hid.intro' ((mayB_iff f).1 hf)
      have HG := Hid.intro' ((mayB_iff g).1 hg)
      go_wp2_with (refine wpList_loadF rfl _ rfl w.heap.size rfl HX3.out.fb ?_)
      refine (encode_yes f _ HF.out).mono ?_
      rintro e W4 ⟨v4, rfl, ho4, hb4⟩
      have HX4 := Hid.intro' (HX3.out.next hb4)
      have HO4 := Hid.intro' (ho4.mono HX3.out.bel.size)
      clear ho4 hb4 HX3
      go_wp2_with (refine wpList_loadF rfl _ rfl (w.heap.size + 1) rfl HX4.out.gb ?_)
      refine (encode_yes g _ HG.out).mono ?_
      rintro e W5 ⟨v5, rfl, ho5, hb5⟩
      have HX5 := Hid.intro' (HX4.out.next hb5)
      have HO5 := Hid.intro' (HO4.out.below' hb5)
      have hs := fun n => same_any v4 v5 (FC.en f) (FC.en g) (W5.drewN n) ((HO5.out.rd (FC.en_Bs HF.out)).below' (below_drewN (Below.refl _ _) n)) ((ho5.rd (FC.en_Bs HG.out)).below' (below_drewN (Below.refl _ _) n)) (fun e => by have := FC.en_length f; rw [e] at this; cases this) (fun e => by have := FC.en_length g; rw [e] at this; cases this)
      have hq : ∀ W, (Op.equalIn 10000 55 (.agg #[.int .i64 f.ki, .int .i64 f.ca, .int .i64 f.sq, .int .i64 f.a, .int .i64 f.b, .int .i64 f.c]) (.agg #[.int .i64 g.ki, .int .i64 g.ca, .int .i64 g.sq, .int .i64 g.a, .int .i64 g.b, .int .i64 g.c])).run Try.prog W = .ok (decide (FC.en f = FC.en g)) W := fun W => by rw [eqF W f g, sm_en HF.out HG.out]
      generalize decide (FC.en f = FC.en g) = q at hs hq
      have HS := Hid.intro' hs
      clear ho5 hb5 HX4 HO4 hs
      have c0 := HX5.out.fb.c0
      have c1 := HX5.out.fb.c1
      have c2 := HX5.out.fb.c2
      have c3 := HX5.out.fb.c3
      have c4 := HX5.out.fb.c4
      have c5 := HX5.out.fb.c5
      have d0 := HX5.out.gb.c0
      have d1 := HX5.out.gb.c1
      have d2 := HX5.out.gb.c2
      have d3 := HX5.out.gb.c3
      have d4 := HX5.out.gb.c4
      have d5 := HX5.out.gb.c5
      go_wp2_with fail
      go_quiet ((go_at_call 32; exact Calls.quiet_of_same (HS.out _)))
      have hb6 := below_drewN (Below.refl W5.heap.size W5) nq
      have HX6 := Hid.intro' (HX5.out.next hb6)
      have HO6 := Hid.intro' (HO5.out.below' hb6)
      clear hb6 c0 c1 c2 c3 c4 c5 d0 d1 d2 d3 d4 d5 hq HS HX5 HO5
      generalize W5.drewN nq = W6 at HX6 HO6 ⊢
      rcases HO6.out.form with ⟨_, he⟩ | ⟨b, cap, rfl, hB, hlt, hc, hm⟩
      · exfalso; have := FC.en_length f; rw [he] at this; cases this
      have hl10 := FC.en_length f
      rw [hl10] at HO6 hc ⊢
      obtain ⟨k, hk, ek⟩ : ∃ k : Nat, k < 80 ∧ (K : Int) % 80 = (k : Int) := ⟨K % 80, Nat.mod_lt _ (by omega), by omega⟩
      obtain ⟨i, hi, ei⟩ : ∃ i : Nat, i < 10 ∧ (k : Int) / 8 = (i : Int) := ⟨k / 8, by omega, by omega⟩
      obtain ⟨j, hj, ej⟩ : ∃ j : Nat, j < 8 ∧ (k : Int) % 8 = (j : Int) := ⟨k % 8, by omega, by omega⟩
      obtain ⟨x, hx⟩ : ∃ x, (FC.en f)[i]? = some x := ⟨_, List.getElem?_eq_getElem (by omega)⟩
      have hcell := HO6.out.cell hx
      have hfr := HO6.out.fr i
      have HXI := Hid.intro' hx
      have HL := Hid.intro' hl10
      have hiz : (i : Int) < 10 := by omega
      clear hx hl10
      go_wp2_with fail
      rw [ek]
      have ei2 : IntKind.i64.wrap (i : Int) = (i : Int) := i64_byte (by omega)
      have ej2 : (k : Int).tmod 8 = (j : Int) := by rw [Int.tmod_eq_emod_of_nonneg (by omega)]; omega
      obtain ⟨p, hp, hp0, hsh⟩ := shl_bit hj
      have hx8 : x < 256 := (FC.en_Bs HF.out).get HXI.out
      have hxr : bits .xor .u8 (x : Int) (p : Int) = ((x ^^^ p : Nat) : Int) := u8_xor_nat x p hx8 hp
      have HXP := Hid.intro' (FC.xor_lt8 hx8 hp)
      have HTN : Hid (FC.de ((FC.en f).set i (x ^^^ p)) ≠ 0) := by
        have e : FC.g (FC.en f) i = x := by unfold FC.g; rw [HXI.out]; rfl
        have := FC.de_turned HF.out hi hp hp0
        rwa [e] at this
      generalize x ^^^ p = z at hxr HXP HTN
      refine wp_region_still_tail 10 (by kernel_rfl) (by kernel_rfl) ?_
      simp only [List.take_succ_cons, List.take_zero, List.drop_succ_cons, List.drop_zero]
      unfold wpStill
      generalize hK : wpStill Try.prog _ _ _ _ = K
      go_simp
      subst hK
      unfold wpStill
      generalize hK : wpStill Try.prog _ _ _ _ = K
      go_simp
      subst hK
      unfold wpStill
      generalize hK : wpStill Try.prog _ _ _ _ = K
      go_simp
      subst hK
      unfold wpStill
      generalize hK : wpStill Try.prog _ _ _ _ = K
      go_simp
      subst hK
      unfold wpStill
      generalize hK : wpStill Try.prog _ _ _ _ = K
      go_simp
      subst hK
      unfold wpStill
      generalize hK : wpStill Try.prog _ _ _ _ = K
      go_simp
      subst hK
      unfold wpStill
      generalize hK : wpStill Try.prog _ _ _ _ = K
      go_simp
      subst hK
      unfold wpStill
      generalize hK : wpStill Try.prog _ _ _ _ = K
      go_simp
      subst hK
      unfold wpStill
      generalize hK : wpStill Try.prog _ _ _ _ = K
      go_simp
      subst hK
      unfold wpStill
      generalize hK : wpStill Try.prog _ _ _ _ = K
      go_simp
      subst hK
      refine wpStill_nil ?_
      change wpList Try.prog _ _ _ _ W6.drew
      have HX7 := Hid.intro' (HX6.out.next (Below.refl _ _).drew)
      have HO7 := Hid.intro' (HO6.out.below' (Below.refl _ _).drew)
      clear HX6 HO6 hcell hfr
      generalize W6.drew = W7 at HX7 HO7 ⊢
      have hcell := HO7.out.cell HXI.out
      have hfr := HO7.out.fr i
      go_wp2_with fail
      have HO8 := Hid.intro' (HO7.out.put i z)
      have HB8 := Hid.intro' (HX7.out.bel.setCell (p := ⟨b, i, none⟩) hB (.int .u8 (z : Int)))
      clear HX7 HO7 hcell hfr
      generalize W7.setCell ⟨b, i, none⟩ (.int .u8 (z : Int)) = W8 at HO8 HB8 ⊢
      refine (decode_any _ _ _ (HO8.out.rd ((FC.en_Bs HF.out).set HXP.out))).mono ?_
      rintro e W9 ⟨rfl, hb9⟩
      have HB9 := Hid.intro' ((below_class HB8.out hb9).alloc (below_class HB8.out hb9).size (.cells #[.int .i64 (FC.df ((FC.en f).set i z)).ki, .int .i64 (FC.df ((FC.en f).set i z)).ca, .int .i64 (FC.df ((FC.en f).set i z)).sq, .int .i64 (FC.df ((FC.en f).set i z)).a, .int .i64 (FC.df ((FC.en f).set i z)).b, .int .i64 (FC.df ((FC.en f).set i z)).c] 55))
      have hn0 : (((FC.de ((FC.en f).set i z) : Nat) : Int) != 0) = true := by have := HTN.out; simp; exact this
      clear hb9
      generalize FC.df ((FC.en f).set i z) = y at HB9
      generalize FC.de ((FC.en f).set i z) = u at hn0
      go_wp2
      go_ret
      exact ⟨rfl, HB9.out⟩

end Go.Proofs.Ytkbfljacjfaamad
