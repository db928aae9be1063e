/- CallsTwice: the walk. -/
import Derived.Test.YtiihnjfknohhbadCallT
import Derived.Test.YtiihnjfknohhbadSiteQ
namespace Go.Proofs.Ytiihnjfknohhbad
open Go.RowKit

theorem rright_t (s : St) (r : SM.Rt s) (w : World) : Calls Try.prog 7 #[.agg (sv s).toArray] w fun e w' => e = .returned (.bool true) ∧ Below w.heap.size w w' := by
  have := rright_any s w; rwa [rightB_true r] at this
theorem rright_f (s : St) (r : ¬ SM.Rt s) (w : World) : Calls Try.prog 7 #[.agg (sv s).toArray] w fun e w' => e = .returned (.bool false) ∧ Below w.heap.size w w' := by
  have := rright_any s w; rwa [rightB_false r] at this

namespace KM
theorem first_press {F C : Int} {bar : Bool} {c : Cl} (h : err F C bar [] c = 0) : put F C bar [] c = [⟨c.fl, c.ca, 0, c.up⟩] ∧ inR F C c = true ∧ can F c = true ∧ bar = false := by
  rcases press_ways F C bar [] c with ⟨_, e, _⟩ | ⟨_, _, e, _⟩ | ⟨_, _, _, e, _⟩ | ⟨_, _, _, e, _⟩ | ⟨_, _, _, _, e, _⟩ | ⟨h1, h2, h3, _, _, _, h6⟩
  · omega
  · omega
  · omega
  · simp at e
  · simp at e
  · exact ⟨h6, h1, h2, h3⟩
theorem next_press {F C : Int} {bar : Bool} {c z : Cl} (h1 : inR F C c = true) (h2 : can F c = true) (h3 : bar = false) (e1 : z.fl = c.fl) (e2 : z.ca = c.ca) (e3 : z.up = c.up) : err F C bar [z] c = 0 ∧ put F C bar [z] c = [z] := by
  have ha : [z].any (like c) = true := by simp [like, e1, e2, e3]
  constructor
  · simp only [err, h1, h2, h3, ha]; simp
  · rw [put_no]
    unfold adds; rw [ha]; simp
theorem again_press {F C : Int} {bar : Bool} {c : Cl} (h1 : inR F C c = true) (h2 : can F c = true) (h3 : bar = false) : err F C bar [] c = 0 ∧ put F C bar [] c = [⟨c.fl, c.ca, 0, c.up⟩] := by
  constructor
  · simp [err, h1, h2, h3]
  · have ha : adds F C bar [] c = true := by unfold adds; simp [h1, h2, h3]
    rw [put_yes ha]; rfl
theorem serve_yes {c z : Cl} (e1 : z.fl = c.fl) (e2 : z.ca = c.ca) (e3 : z.up = c.up) : srv c.ca c.fl c.up (!c.up) z = true := by
  unfold srv; rw [e1, e2, e3]; cases c.up <;> simp
theorem serve_other {c z : Cl} (h : c.ca = -1) (e2 : z.ca = c.ca) (e3 : z.up = c.up) : srv c.ca c.fl (!c.up) c.up z = false := by
  unfold srv; rw [e2, e3, h]; cases c.up <;> simp
theorem serve_in {c z : Cl} (h : c.ca ≠ -1) (e1 : z.fl = c.fl) (e2 : z.ca = c.ca) : srv c.ca c.fl (!c.up) c.up z = true := by
  unfold srv; rw [e1, e2]; simp [h]
end KM

set_option maxHeartbeats 4000000 in
theorem twice_true (s : St) (c : Cl) (tm tk : Int) (w : World) :
    Calls Try.prog 5 #[.agg (sv s).toArray, .agg #[.int .i64 c.fl, .int .i64 c.ca, .int .i64 c.ag, .bool c.up], .int .i64 tm, .int .i64 tk] w fun e w' => e = .returned (.bool true) ∧ Below w.heap.size w w' := by
  obtain ⟨T, hT, eT⟩ := i64_and15 tk
  obtain ⟨M, hM, eM⟩ := i64_and3 tm
  have HS0 := Hid.intro' ((SB.new w s).alloc (.cells #[.int .i64 c.fl, .int .i64 c.ca, .int .i64 c.ag, .bool c.up] 35))
  have HC0 : Hid (CB ((w.alloc (.cells (sv s).toArray 23)).alloc (.cells #[.int .i64 c.fl, .int .i64 c.ca, .int .i64 c.ag, .bool c.up] 35)) (w.heap.size + 1) c) := by have := CB.new (w.alloc (.cells (sv s).toArray 23)) c; rw [World.size_alloc] at this; exact this
  have HB0 := Hid.intro' (((Below.refl w.heap.size w).alloc (Nat.le_refl _) (.cells (sv s).toArray 23)).alloc (by simp) (.cells #[.int .i64 c.fl, .int .i64 c.ca, .int .i64 c.ag, .bool c.up] 35))
  go_enter Try.func5, Try.ntmps5
  go_wp2_with fail
  refine (speaks_any _).mono ?_
  rintro e W1 ⟨rfl, hb1⟩
  have HS1 := Hid.intro' (HS0.out.below' hb1)
  have HC1 := Hid.intro' (HC0.out.below' hb1)
  have HB1 := Hid.intro' (below_class HB0.out hb1)
  clear HS0 HC0 HB0 hb1
  by_cases R : SM.Rt s
  · go_wp2_with (refine wpList_load23 rfl _ rfl w.heap.size s rfl HS1.out ?_)
    refine (rright_t s R _).mono ?_
    rintro e W2 ⟨rfl, hb2⟩
    have HS2 := Hid.intro' (HS1.out.below' hb2)
    have HC2 := Hid.intro' (HC1.out.below' hb2)
    have HB2 := Hid.intro' (below_class HB1.out hb2)
    clear hb2 HB1 HS1 HC1
    go_wp2_with (refine wpList_load23 rfl _ rfl w.heap.size s rfl HS2.out ?_)
    refine (new_any _ s.fl s.ca rfl rfl _).mono ?_
    rintro e W3 ⟨b, rfl, hb3, hbel, hpb⟩
    have HT3 : Hid (Tw w W3 b (w.heap.size + 1) s.fl s.ca (.slice none 0 0) 0 [] c) := by
      refine ⟨⟨hpb, RW.nil _ _, by simp [Value.ownBlock], Nat.le_trans HB2.out.size hb3, by omega⟩, HC2.out.below' hbel, below_class HB2.out hbel, by omega, ?_⟩
      rintro (e | e)
      · have := HC2.out.lt
        omega
      · simp [Value.ownBlock] at e
    clear hb3 hbel hpb HS2 HC2 HB2
    have k0 := HT3.out.cl.c0
    have k1 := HT3.out.cl.c1
    have k2 := HT3.out.cl.c2
    have k3 := HT3.out.cl.c3
    go_wp2_with fail
    refine (press_any _ b s.fl s.ca _ 0 [] c _ HT3.out.bk (by simp) R.fl1 R.fl2).mono ?_
    rintro e W4 ⟨rfl, v4, hk4, hn4, kp4⟩
    have HT4 := Hid.intro' (HT3.out.upd hk4 hn4 kp4)
    clear hk4 hn4 kp4 HT3 k0 k1 k2 k3
    by_cases he : KM.err s.fl s.ca (FM.hasN 0 c.fl) [] c = 0
    · obtain ⟨e1, hr, hc, hbar⟩ := KM.first_press he
      rw [e1] at HT4
      rw [he]
      have hrr := KM.inR_iff.1 hr
      have HR := Hid.intro' hr
      have HCN := Hid.intro' hc
      have HBR := Hid.intro' hbar
      clear e1 hr hc hbar he
      go_wp2
      go_loopw [10, 11] (fun i _ wr => ∃ (k : Nat) (v : Value), k ≤ T ∧ i = .int .i64 k ∧ Hid (Tw w wr b (w.heap.size + 1) s.fl s.ca v 0 [⟨c.fl, c.ca, k, c.up⟩] c)) (fun i _ _ => T - (intOf i).toNat)
      case atStart => exact ⟨0, v4, Nat.zero_le _, rfl, HT4⟩
      case round =>
        obtain ⟨k, v, hk, rfl, HT⟩ := hrel
        by_cases hlt : k < T
        · have hkz : (k : Int) < (T : Int) := by omega
          have hg : KM.Gd s.fl s.ca k [⟨c.fl, c.ca, k, c.up⟩] := by
            refine ⟨fun x hx => ?_, fun x hx => ?_, by simp, by simp⟩
            · simp at hx; subst hx; exact hrr
            · simp at hx; subst hx; exact ⟨by simp, Int.le_refl _⟩
          have HG := Hid.intro' hg
          clear hg
          go_wp2_with fail
          refine (tick_any _ b s.fl s.ca k v 0 _ _ HT.out.bk HG.out (by omega)).mono ?_
          rintro e W5 ⟨rfl, hk5, kp5⟩
          have HT5 : Hid (Tw w W5 b (w.heap.size + 1) s.fl s.ca v 0 [⟨c.fl, c.ca, ((k + 1 : Nat) : Int), c.up⟩] c) := by
            have h1 := HT.out.upd hk5 (Nx.refl _ _) kp5
            have h2 : [(⟨c.fl, c.ca, k, c.up⟩ : Cl)].map KM.older = [⟨c.fl, c.ca, ((k + 1 : Nat) : Int), c.up⟩] := by
              simp [KM.older]; omega
            rw [h2] at h1
            exact h1
          clear hk5 kp5 HT HG
          go_wp2
          go_loopw [11] (fun j wq => ∃ (q : Nat) (v' : Value), q ≤ M ∧ j = .int .i64 q ∧ Hid (Tw w wq b (w.heap.size + 1) s.fl s.ca v' 0 [⟨c.fl, c.ca, ((k + 1 : Nat) : Int), c.up⟩] c)) (fun j _ => M - (intOf j).toNat)
          case atStart => exact ⟨0, v, Nat.zero_le _, rfl, HT5⟩
          case round =>
            obtain ⟨q, v', hq, rfl, HTq⟩ := hrel
            by_cases hlt2 : q < M
            · have hqz : (q : Int) < (M : Int) := by omega
              have k0 := HTq.out.cl.c0
              have k1 := HTq.out.cl.c1
              have k2 := HTq.out.cl.c2
              have k3 := HTq.out.cl.c3
              go_wp2_with fail
              have hp := press_any _ b s.fl s.ca _ 0 _ c _ HTq.out.bk (by simp) R.fl1 R.fl2
              obtain ⟨e1, e2⟩ := KM.next_press (z := ⟨c.fl, c.ca, ((k + 1 : Nat) : Int), c.up⟩) HR.out HCN.out HBR.out rfl rfl rfl
              rw [e1, e2] at hp
              refine hp.mono ?_
              rintro e W6 ⟨rfl, v6, hk6, hn6, kp6⟩
              have HT6 := Hid.intro' (HTq.out.upd hk6 hn6 kp6)
              clear hk6 hn6 kp6 HTq k0 k1 k2 k3 e1 e2 hp
              go_wp2
              go_roundw
              case rel => exact ⟨q + 1, v6, by omega, by go_num, HT6⟩
              case measure => simp [intOf]; omega
            · have hqz : ¬ (q : Int) < (M : Int) := by omega
              go_wp2
              go_roundw
              case rel => exact ⟨k + 1, v', by omega, by go_num, HTq⟩
              case measure => simp [intOf]; omega
        · obtain rfl : k = T := by omega
          have hkz : ¬ (k : Int) < (k : Int) := by omega
          go_wp2_with fail
          refine (all_any _ _ _ _ _ _ _ _ HT.out.bk (by simp)).mono ?_
          rintro e W5 ⟨v5, rfl, hr5, hb5⟩
          have HT5 := Hid.intro' (HT.out.next hb5)
          rcases hr5.form with ⟨_, h⟩ | ⟨g, cap, rfl, _, _, hcap⟩
          · simp at h
          obtain ⟨y, hy, c0, c1, c2, c3⟩ := hr5.elem (i := 0) (by simp)
          simp at hy
          subst hy
          have c0' : W5.cell? ⟨g, 0, none⟩ = some (.int .i64 c.fl) := c0
          have c1' : W5.cell? ⟨g, 1, none⟩ = some (.int .i64 c.ca) := c1
          have c2' : W5.cell? ⟨g, 2, none⟩ = some (.int .i64 k) := c2
          have c3' : W5.cell? ⟨g, 3, none⟩ = some (.bool c.up) := c3
          clear c0 c1 c2 c3 hr5 hb5 HT
          have k0 := HT5.out.cl.c0
          have k1 := HT5.out.cl.c1
          have k3 := HT5.out.cl.c3
          go_wp2_with fail
          go_quiet (fail)
          have HT6 := Hid.intro' (HT5.out.next (below_drewN (Below.refl _ _) nq))
          generalize W5.drewN nq = W6 at HT6 ⊢
          clear HT5 k0 k1 k3 c0' c1' c2' c3'
          by_cases hca : c.ca = -1
          · have HCA := Hid.intro' hca
            clear hca
            have k0 := HT6.out.cl.c0
            have k1 := HT6.out.cl.c1
            have k2 := HT6.out.cl.c2
            have k3 := HT6.out.cl.c3
            have hs7 := serve_any _ b s.fl s.ca _ 0 _ c.ca c.fl (!c.up) c.up _ HT6.out.bk (by simp)
            rw [show ([⟨c.fl, c.ca, (k : Int), c.up⟩] : List Cl).filter (KM.srv c.ca c.fl (!c.up) c.up) = [] by simp [KM.serve_other (c := c) (z := ⟨c.fl, c.ca, (k : Int), c.up⟩) HCA.out rfl rfl], show ([⟨c.fl, c.ca, (k : Int), c.up⟩] : List Cl).filter (fun c_1 => !KM.srv c.ca c.fl (!c.up) c.up c_1) = [⟨c.fl, c.ca, (k : Int), c.up⟩] by simp [KM.serve_other (c := c) (z := ⟨c.fl, c.ca, (k : Int), c.up⟩) HCA.out rfl rfl]] at hs7
            go_wp2_with fail
            refine hs7.mono ?_
            rintro e W7 ⟨vo7, v7, rfl, ho7, hk7, hx7, kp7⟩
            have HT7 := Hid.intro' (HT6.out.upd hk7 (Nx.same hx7) kp7)
            obtain ⟨ao7, no7, co7, rfl⟩ := ho7.slice
            have hno7 := ho7.len
            simp at hno7
            subst hno7
            clear hs7 ho7 hk7 hx7 kp7 HT6 k0 k1 k2 k3
            have k0 := HT7.out.cl.c0
            have k1 := HT7.out.cl.c1
            have k2 := HT7.out.cl.c2
            have k3 := HT7.out.cl.c3
            have hp8 := press_any _ b s.fl s.ca _ 0 _ c _ HT7.out.bk (by simp) R.fl1 R.fl2
            obtain ⟨e1, e2⟩ := KM.next_press (z := ⟨c.fl, c.ca, (k : Int), c.up⟩) HR.out HCN.out HBR.out rfl rfl rfl
            rw [e1, e2] at hp8
            go_wp2_with fail
            refine hp8.mono ?_
            rintro e W8 ⟨rfl, v8, hk8, hn8, kp8⟩
            have HT8 := Hid.intro' (HT7.out.upd hk8 hn8 kp8)
            clear hk8 hn8 kp8 HT7 e1 e2 hp8 k0 k1 k2 k3
            have k0 := HT8.out.cl.c0
            have k1 := HT8.out.cl.c1
            have k2 := HT8.out.cl.c2
            have k3 := HT8.out.cl.c3
            have hs9 := serve_any _ b s.fl s.ca _ 0 _ c.ca c.fl c.up (!c.up) _ HT8.out.bk (by simp)
            rw [show ([⟨c.fl, c.ca, (k : Int), c.up⟩] : List Cl).filter (KM.srv c.ca c.fl c.up (!c.up)) = [⟨c.fl, c.ca, (k : Int), c.up⟩] by simp [KM.serve_yes (c := c) (z := ⟨c.fl, c.ca, (k : Int), c.up⟩) rfl rfl rfl], show ([⟨c.fl, c.ca, (k : Int), c.up⟩] : List Cl).filter (fun c_1 => !KM.srv c.ca c.fl c.up (!c.up) c_1) = [] by simp [KM.serve_yes (c := c) (z := ⟨c.fl, c.ca, (k : Int), c.up⟩) rfl rfl rfl]] at hs9
            go_wp2_with fail
            refine hs9.mono ?_
            rintro e W9 ⟨vo9, v9, rfl, ho9, hk9, hx9, kp9⟩
            have HT9 := Hid.intro' (HT8.out.upd hk9 (Nx.same hx9) kp9)
            obtain ⟨ao9, no9, co9, rfl⟩ := ho9.slice
            have hno9 := ho9.len
            simp at hno9
            subst hno9
            clear hs9 ho9 hk9 hx9 kp9 HT8 k0 k1 k2 k3
            have k0 := HT9.out.cl.c0
            have k1 := HT9.out.cl.c1
            have k2 := HT9.out.cl.c2
            have k3 := HT9.out.cl.c3
            go_wp2_with fail
            refine (all_any _ _ _ _ _ _ _ _ HT9.out.bk (by simp)).mono ?_
            rintro e W10 ⟨v10, rfl, hr10, hb10⟩
            have HT10 := Hid.intro' (HT9.out.next hb10)
            obtain ⟨ao10, no10, co10, rfl⟩ := hr10.slice
            have hno10 := hr10.len
            simp at hno10
            subst hno10
            clear hr10 hb10 HT9 k0 k1 k2 k3
            have k0 := HT10.out.cl.c0
            have k1 := HT10.out.cl.c1
            have k2 := HT10.out.cl.c2
            have k3 := HT10.out.cl.c3
            have hp11 := press_any _ b s.fl s.ca _ 0 _ c _ HT10.out.bk (by simp) R.fl1 R.fl2
            obtain ⟨e1, e2⟩ := KM.again_press HR.out HCN.out HBR.out
            rw [e1, e2] at hp11
            go_wp2_with fail
            refine hp11.mono ?_
            rintro e W11 ⟨rfl, v11, hk11, hn11, kp11⟩
            have HT11 := Hid.intro' (HT10.out.upd hk11 hn11 kp11)
            clear hk11 hn11 kp11 HT10 e1 e2 hp11 k0 k1 k2 k3
            go_wp2_with fail
            refine (all_any _ _ _ _ _ _ _ _ HT11.out.bk (by simp)).mono ?_
            rintro e W12 ⟨v12, rfl, hr12, hb12⟩
            have HB12 := Hid.intro' (below_class HT11.out.bel hb12)
            rcases hr12.form with ⟨_, h⟩ | ⟨g12, cap12, rfl, _, _, _⟩
            · simp at h
            obtain ⟨y12, hy12, _, _, a2, _⟩ := hr12.elem (i := 0) (by simp)
            simp at hy12
            subst hy12
            have a2' : W12.cell? ⟨g12, 2, none⟩ = some (.int .i64 0) := a2
            clear a2 hr12 hb12 HT11
            go_wp2
            go_ret
            exact ⟨rfl, HB12.out⟩
          · have HCA := Hid.intro' hca
            clear hca
            have k0 := HT6.out.cl.c0
            have k1 := HT6.out.cl.c1
            have k2 := HT6.out.cl.c2
            have k3 := HT6.out.cl.c3
            have hlz : decide (c.ca < 0) = false := by have := hrr.2.2.1; have := HCA.out; simp; omega
            have hs7 := serve_any _ b s.fl s.ca _ 0 _ c.ca c.fl (!c.up) c.up _ HT6.out.bk (by simp)
            rw [show ([⟨c.fl, c.ca, (k : Int), c.up⟩] : List Cl).filter (KM.srv c.ca c.fl (!c.up) c.up) = [⟨c.fl, c.ca, (k : Int), c.up⟩] by simp [KM.serve_in (c := c) (z := ⟨c.fl, c.ca, (k : Int), c.up⟩) HCA.out rfl rfl], show ([⟨c.fl, c.ca, (k : Int), c.up⟩] : List Cl).filter (fun c_1 => !KM.srv c.ca c.fl (!c.up) c.up c_1) = [] by simp [KM.serve_in (c := c) (z := ⟨c.fl, c.ca, (k : Int), c.up⟩) HCA.out rfl rfl]] at hs7
            go_wp2_with fail
            refine hs7.mono ?_
            rintro e W7 ⟨vo7, v7, rfl, ho7, hk7, hx7, kp7⟩
            have HT7 := Hid.intro' (HT6.out.upd hk7 (Nx.same hx7) kp7)
            obtain ⟨ao7, no7, co7, rfl⟩ := ho7.slice
            have hno7 := ho7.len
            simp at hno7
            subst hno7
            clear hs7 ho7 hk7 hx7 kp7 HT6 k0 k1 k2 k3
            have k0 := HT7.out.cl.c0
            have k1 := HT7.out.cl.c1
            have k2 := HT7.out.cl.c2
            have k3 := HT7.out.cl.c3
            have hp8 := press_any _ b s.fl s.ca _ 0 _ c _ HT7.out.bk (by simp) R.fl1 R.fl2
            obtain ⟨e1, e2⟩ := KM.again_press HR.out HCN.out HBR.out
            rw [e1, e2] at hp8
            go_wp2_with fail
            refine hp8.mono ?_
            rintro e W8 ⟨rfl, v8, hk8, hn8, kp8⟩
            have HT8 := Hid.intro' (HT7.out.upd hk8 hn8 kp8)
            clear hk8 hn8 kp8 HT7 e1 e2 hp8 k0 k1 k2 k3
            have k0 := HT8.out.cl.c0
            have k1 := HT8.out.cl.c1
            have k2 := HT8.out.cl.c2
            have k3 := HT8.out.cl.c3
            have hs9 := serve_any _ b s.fl s.ca _ 0 _ c.ca c.fl c.up (!c.up) _ HT8.out.bk (by simp)
            rw [show ([⟨c.fl, c.ca, 0, c.up⟩] : List Cl).filter (KM.srv c.ca c.fl c.up (!c.up)) = [⟨c.fl, c.ca, 0, c.up⟩] by simp [KM.serve_yes (c := c) (z := ⟨c.fl, c.ca, 0, c.up⟩) rfl rfl rfl], show ([⟨c.fl, c.ca, 0, c.up⟩] : List Cl).filter (fun c_1 => !KM.srv c.ca c.fl c.up (!c.up) c_1) = [] by simp [KM.serve_yes (c := c) (z := ⟨c.fl, c.ca, 0, c.up⟩) rfl rfl rfl]] at hs9
            go_wp2_with fail
            refine hs9.mono ?_
            rintro e W9 ⟨vo9, v9, rfl, ho9, hk9, hx9, kp9⟩
            have HT9 := Hid.intro' (HT8.out.upd hk9 (Nx.same hx9) kp9)
            obtain ⟨ao9, no9, co9, rfl⟩ := ho9.slice
            have hno9 := ho9.len
            simp at hno9
            subst hno9
            clear hs9 ho9 hk9 hx9 kp9 HT8 k0 k1 k2 k3
            have k0 := HT9.out.cl.c0
            have k1 := HT9.out.cl.c1
            have k2 := HT9.out.cl.c2
            have k3 := HT9.out.cl.c3
            go_wp2_with fail
            refine (all_any _ _ _ _ _ _ _ _ HT9.out.bk (by simp)).mono ?_
            rintro e W10 ⟨v10, rfl, hr10, hb10⟩
            have HT10 := Hid.intro' (HT9.out.next hb10)
            obtain ⟨ao10, no10, co10, rfl⟩ := hr10.slice
            have hno10 := hr10.len
            simp at hno10
            subst hno10
            clear hr10 hb10 HT9 k0 k1 k2 k3
            have k0 := HT10.out.cl.c0
            have k1 := HT10.out.cl.c1
            have k2 := HT10.out.cl.c2
            have k3 := HT10.out.cl.c3
            have hp11 := press_any _ b s.fl s.ca _ 0 _ c _ HT10.out.bk (by simp) R.fl1 R.fl2
            obtain ⟨e1, e2⟩ := KM.again_press HR.out HCN.out HBR.out
            rw [e1, e2] at hp11
            go_wp2_with fail
            refine hp11.mono ?_
            rintro e W11 ⟨rfl, v11, hk11, hn11, kp11⟩
            have HT11 := Hid.intro' (HT10.out.upd hk11 hn11 kp11)
            clear hk11 hn11 kp11 HT10 e1 e2 hp11 k0 k1 k2 k3
            go_wp2_with fail
            refine (all_any _ _ _ _ _ _ _ _ HT11.out.bk (by simp)).mono ?_
            rintro e W12 ⟨v12, rfl, hr12, hb12⟩
            have HB12 := Hid.intro' (below_class HT11.out.bel hb12)
            rcases hr12.form with ⟨_, h⟩ | ⟨g12, cap12, rfl, _, _, _⟩
            · simp at h
            obtain ⟨y12, hy12, _, _, a2, _⟩ := hr12.elem (i := 0) (by simp)
            simp at hy12
            subst hy12
            have a2' : W12.cell? ⟨g12, 2, none⟩ = some (.int .i64 0) := a2
            clear a2 hr12 hb12 HT11
            go_wp2
            go_ret
            exact ⟨rfl, HB12.out⟩
    · have e1 := KM.put_no (KM.adds_no he)
      rw [e1] at HT4
      have hne : (KM.err s.fl s.ca (FM.hasN 0 c.fl) [] c != 0) = true := by simpa using he
      clear e1 he
      generalize KM.err s.fl s.ca (FM.hasN 0 c.fl) [] c = er at hne ⊢
      go_wp2_with fail
      refine (all_any _ _ _ _ _ _ _ _ HT4.out.bk (by simp)).mono ?_
      rintro e W5 ⟨v5, rfl, hr5, hb5⟩
      obtain ⟨a5, n5, c5, rfl⟩ := hr5.slice
      have hn5 := hr5.len
      have HB5 := Hid.intro' (below_class HT4.out.bel hb5)
      simp at hn5
      subst hn5
      clear hr5 hb5 HT4
      go_wp2
      go_ret
      exact ⟨rfl, HB5.out⟩
  · go_wp2_with (refine wpList_load23 rfl _ rfl w.heap.size s rfl HS1.out ?_)
    refine (rright_f s R _).mono ?_
    rintro e W2 ⟨rfl, hb2⟩
    have HB2 := Hid.intro' (below_class HB1.out hb2)
    clear hb2 HB1 HS1 HC1
    go_wp2
    go_ret
    exact ⟨rfl, HB2.out⟩

end Go.Proofs.Ytiihnjfknohhbad
