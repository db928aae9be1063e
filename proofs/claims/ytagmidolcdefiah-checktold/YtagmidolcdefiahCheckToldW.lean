/- CheckTold. (Written by genckt.py.) -/
import Derived.Test.YtagmidolcdefiahCkS
import Derived.Test.YtagmidolcdefiahCkC
import Derived.Test.YtagmidolcdefiahCkY
import Derived.Test.YtagmidolcdefiahPk13
import Derived.Test.YtagmidolcdefiahPk9
import Derived.Test.YtagmidolcdefiahPk14
namespace Go.Proofs.Ytagmidolcdefiah
open Go.RowKit Go.Shelf
/-- a claim's plan is small -/
theorem ckw_bd {s : Sn} {b : List Nat} {x : Nat × Clm} (h : ckw s b = x) (hb : Byt b) : x.2.plan.length ≤ 100000 ∧ ∀ l ∈ x.2.plan, l.length ≤ 100000 := by
  subst h
  unfold ckw
  split
  · rename_i hr
    obtain ⟨n8, hrs⟩ := rgt_rs hr
    have hcl : s.cs.length ≤ 8 := by have := hrs.cl; have := hrs.n8; omega
    split
    · exact ⟨Nat.zero_le _, fun l hl => by simp [clm0] at hl⟩
    · rename_i x a hrd
      obtain ⟨h9, hk⟩ := rdc_some hrd
      have h1 := (rdk_form h9 hk).1
      have h2 := rdk_len hb hk
      have key : x.plan.length ≤ 100000 ∧ ∀ l ∈ x.plan, l.length ≤ 100000 := ⟨by omega, fun l hl => by have := h2 l hl; omega⟩
      have none : clm0.plan.length ≤ 100000 ∧ ∀ l ∈ clm0.plan, l.length ≤ 100000 := ⟨Nat.zero_le _, fun l hl => by simp [clm0] at hl⟩
      split
      · split
        · split
          · exact none
          · exact key
        · exact none
      · exact none
  · exact ⟨Nat.zero_le _, fun l hl => by simp [clm0] at hl⟩
/-- what the region of a call leaves -/
structure Ct5 (R : Nat → Value → Value → Option Addr → Nat → Prop) : Prop where
  out : ∃ cb v20 v22 ap kp, R cb v20 v22 ap kp
theorem Ct5.mk' {R : Nat → Value → Value → Option Addr → Nat → Prop} (cb : Nat) (v20 v22 : Value) (ap : Option Addr) (kp : Nat) (h : R cb v20 v22 ap kp) : Ct5 R := ⟨cb, v20, v22, ap, kp, h⟩
/-- a region on its way: the row that was made, the variable that was made -/
structure Tq (W0 W : World) (row : Option (Value × List Nat)) (blk : Option Nat) : Prop where
  bel : Below W0.heap.size W0 W
  hrow : ∀ v l, row = some (v, l) → OY W W0.heap.size v l
  hblk : ∀ c, blk = some c → JB W c false 0 (.slice none 0 0) ∧ W0.heap.size ≤ c
  dis : ∀ v l c, row = some (v, l) → blk = some c → v.ownBlock ≠ some c
section
variable {W0 W W' : World} {row : Option (Value × List Nat)} {blk : Option Nat} {v v' : Value} {b : List Nat}
theorem Tq.next (h : Tq W0 W row blk) (hb : Below W.heap.size W W') : Tq W0 W' row blk :=
  ⟨below_class h.bel hb, fun v l e => (h.hrow v l e).below' hb, fun c e => ⟨(h.hblk c e).1.below' hb, (h.hblk c e).2⟩, h.dis⟩
theorem Tq.lit (h : Tq W0 W none blk) : Tq W0 (W.alloc (.cells #[] 5)) (some (.slice (some ⟨W.heap.size, 0, none⟩) 0 0, [])) blk := by
  have hb := (Below.refl W.heap.size W).alloc (Nat.le_refl _) (.cells #[] 5)
  refine ⟨below_class h.bel hb, fun v l e => ?_, fun c e => ⟨(h.hblk c e).1.below' hb, (h.hblk c e).2⟩, fun v l c e ec => ?_⟩
  · cases e
    exact OY.lit (B := W0.heap.size) W [] h.bel.size (Nat.zero_le _)
  · cases e
    have := (h.hblk c ec).1.lt
    intro e
    have e : W.heap.size = c := by simpa [Value.ownBlock] using e
    omega
theorem Tq.app (h : Tq W0 W (some (v, [])) blk) (ho : OY W' W0.heap.size v' ([] ++ b)) (hg : W.grownBy W' v.ownBlock) (hw : ∀ g, v'.ownBlock = some g → v.ownBlock = some g ∨ W.heap.size ≤ g) : Tq W0 W' (some (v', b)) blk := by
  have hr := h.hrow v [] rfl
  refine ⟨h.bel.grown hg h.bel.size (fun q hq => (hr.lt q hq).1), fun v l e => ?_, fun c e => ⟨?_, (h.hblk c e).2⟩, fun u l c e ec => ?_⟩
  · cases e; exact ho
  · have hj := (h.hblk c e).1
    exact (hg.block c hj.lt (fun e2 => h.dis v [] c rfl e e2.symm)).trans hj
  · cases e
    intro e2
    rcases hw c e2 with e3 | e3
    · exact h.dis v [] c rfl ec e3
    · have := (h.hblk c ec).1.lt
      omega
theorem Tq.new (h : Tq W0 W row none) : Tq W0 (W.alloc (.cells #[.bool false, .int .i64 0, .slice none 0 0] 43)) row (some W.heap.size) := by
  have hb := (Below.refl W.heap.size W).alloc (Nat.le_refl _) (.cells #[.bool false, .int .i64 0, .slice none 0 0] 43)
  refine ⟨below_class h.bel hb, fun v l e => (h.hrow v l e).below' hb, fun c e => ?_, fun v l c e ec => ?_⟩
  · cases e
    exact ⟨JB.new W false 0 (.slice none 0 0), h.bel.size⟩
  · cases ec
    intro e2
    have := ((h.hrow v l e).lt _ e2).2
    omega
end
theorem wpOp_appY {ops : Array Oper} {Q : Exit → Act → World → Prop} {i : Nat} {o : Oper} {K : Act → World → Prop} {a : Act} {w : World} (hi : ops[i]? = some o) (hw : Region.wanted o (yielded ops a.tmps) = true) (s x : Operand) (ho : o.op = .call { callee := .builtin .append, args := #[s, x], argTypes := #[33, 33] })
    (B : Nat) (v u : Value) (l m : List Nat) (D : Nat → Prop) (hs : a.eval s = v) (hown : OY w B v l) (hx : a.eval x = u) (hr : RY D w u m) (h63 : l.length + m.length ≤ 1000000) (hB : B ≤ w.heap.size)
    (h : ∀ v' w', OY w' B v' (l ++ m) → w.grownBy w' v.ownBlock → (∀ g, v'.ownBlock = some g → v.ownBlock = some g ∨ w.heap.size ≤ g) → K (a.put o.dst v') w') : wpOp Try.prog ops Q i K a w := by
  obtain ⟨v', w', hrun, h1, h2, h3⟩ := run_appY (o := o) (a := a) s x ho B v u l m D hs hown hx hr h63 hB
  exact wpOp_val hi hw hrun (h v' w' h1 h2 h3)
set_option maxRecDepth 100000 in
set_option maxHeartbeats 16000000 in
theorem CheckTold_any (s : Sn) (D : Nat → Prop) (vc vw v : Value) (b : List Nat) (w : World) (hc : R2 D w vc s.cs) (hw : R2 D w vw s.ws) (hb : RY D w v b) :
    Calls Try.prog 4 #[.agg (nv s.st vc vw).toArray, v] w fun e w' => e = .returned (.bool true) ∧ Below w.heap.size w w' := by
  have hbx := (Below.refl w.heap.size w).alloc (Nat.le_refl _) (.cells (nv s.st vc vw).toArray 27)
  have HN := Hid.intro' (NB.new w s.st vc vw)
  have HB := Hid.intro' hbx
  have HC := Hid.intro' ((hc.mono (D' := fun _ => True) fun _ _ _ _ => trivial).below' hbx)
  have HW := Hid.intro' ((hw.mono (D' := fun _ => True) fun _ _ _ _ => trivial).below' hbx)
  have HY := Hid.intro' (hb.mono (D' := fun _ => True) fun _ _ _ _ => trivial)
  obtain ⟨ac, kc, rfl, _, _⟩ := hc.form
  obtain ⟨aw, kw, rfl, _, _⟩ := hw.form
  obtain ⟨av, kv, rfl, _, _, _⟩ := hb.form
  clear hc hw hbx hb
  go_enter Try.func4, Try.ntmps4
  go_wp2_with fail
  refine (speaks13_any _).mono ?_
  rintro e W1 ⟨rfl, hb1⟩
  have HB1 := Hid.intro' (below_class HB.out hb1)
  have HN1 := Hid.intro' (HN.out.below' hb1)
  have HC1 := Hid.intro' (HC.out.below' hb1)
  have HW1 := Hid.intro' (HW.out.below' hb1)
  clear hb1 HN HB HC HW
  go_wp2_with (refine wpList_load27g rfl _ rfl w.heap.size s.st _ _ rfl HN1.out ?_)
  refine (great_any s _ _ _ _ [] W1 HC1.out HW1.out (RL.nil _ _)).mono ?_
  rintro e W2 ⟨⟨g, rfl, hb2, hs⟩⟩
  have HB2 := Hid.intro' (below_class HB1.out hb2)
  have HN2 := Hid.intro' (HN1.out.below' hb2)
  have HC2 := Hid.intro' (HC1.out.below' hb2)
  have HW2 := Hid.intro' (HW1.out.below' hb2)
  clear hb2 hs HN1 HB1 HC1 HW1
  cases g with
  | true =>
    go_wp2
    go_ret
    exact ⟨rfl, HB2.out⟩
  | false =>
    by_cases h3 : 3000 < b.length
    · have q3 : (3000 : Int) < (b.length : Int) := by omega
      go_wp2
      go_ret
      exact ⟨rfl, HB2.out⟩
    · have q3 : decide ((3000 : Int) < (b.length : Int)) = false := decide_eq_false (by omega)
      obtain ⟨x, HX⟩ : ∃ x, Hid (ckw s b = x) := ⟨_, Hid.intro' rfl⟩
      obtain ⟨n, ok, co, p⟩ := x
      have HNX : Hid (∀ w', Below W2.heap.size W2 w' → NB w' w.heap.size s.st (.slice ac s.cs.length kc) (.slice aw s.ws.length kw)) := fun w' hw => HN2.out.below' hw
      have HYX : Hid (∀ w', Below W2.heap.size W2 w' → RY (fun _ => True) w' (.slice av b.length kv) b) := fun w' hw => HY.out.below' (below_class HB2.out hw)
      have HCX : Hid (∀ w' v, Below W2.heap.size W2 w' → OY w' W2.heap.size v b → Calls Try.prog 13 #[.agg (nv s.st (.slice ac s.cs.length kc) (.slice aw s.ws.length kw)).toArray, v] w' fun e w'' => CkP s b w' e w'') := fun w' v hw ho => check_any s (fun _ => True) _ _ v b w' (HC2.out.below' hw) (HW2.out.below' hw) (ho.ry HY.out.1 fun _ _ => trivial) (by omega)
      go_wp2_with fail
      clear q3
      obtain ⟨Q0, HQ0⟩ : ∃ Q0 : Exit → Act → World → Prop, Hid (Q0 = fun ex a W' => ex = Exit.normal ∧ Ct5 (fun cb v20 v22 ap kp => a = ({ tmps := #[.agg (nv s.st (.slice ac s.cs.length kc) (.slice aw s.ws.length kw)).toArray, .slice av b.length kv, .pointer (some ⟨w.heap.size, 0, none⟩), undef, .bool false, .pointer (some ⟨cb, 0, none⟩), .int .i64 (n : Int), undef, undef, .bool true, .bool false, .agg (nv s.st (.slice ac s.cs.length kc) (.slice aw s.ws.length kw)).toArray, .bool false, .bool false, .slice av b.length kv, .int .i64 (b.length : Int), .bool false, .bool false, .tuple #[.agg #[.bool ok, .int .i64 co, .slice ap p.length kp], .int .i64 (n : Int)], .agg (nv s.st (.slice ac s.cs.length kc) (.slice aw s.ws.length kw)).toArray, v20, .slice av b.length kv, v22, .tuple #[.agg #[.bool ok, .int .i64 co, .slice ap p.length kp], .int .i64 (n : Int)], .agg #[.bool ok, .int .i64 co, .slice ap p.length kp], .int .i64 (n : Int), undef, undef, undef, undef, undef, undef, undef, undef, undef, undef, undef, undef, undef, undef, undef, undef, undef, undef, undef, undef, undef, undef, undef, undef, undef, undef, undef, undef, undef, undef], defers := [] } : Act) ∧ JB W' cb ok co (.slice ap p.length kp) ∧ RL (fun _ => True) W' (.slice ap p.length kp) p ∧ Below W2.heap.size W2 W')) := ⟨_, Hid.intro' rfl⟩
      refine wp_mono (Q := Q0) ?reg ?rest
      case reg =>
        refine wp_region_any (by kernel_rfl) ?_
        have HT0 : Hid (Tq W2 W2.drew none none) := ⟨(Below.refl _ _).drew, (fun _ _ h => by cases h), (fun _ h => by cases h), (fun _ _ _ h => by cases h)⟩
        change wpAny Try.prog Region.Mode.any _ Q0 11 _ _ W2.drew
        generalize W2.drew = X0 at HT0 ⊢
        refine wpAny_take (i := 2) rfl (by kernel_rfl) (by kernel_rfl) (by kernel_rfl) (fun _ _ _ h => by rw [HQ0.out] at h; cases h.1) (yields_move _ rfl rfl) ?_
        generalize hKK : wpAny Try.prog _ _ _ _ _ = KK
        go_simp
        subst hKK
        refine wpAny_all (rs := [0, 1, 8]) (by kernel_rfl) (by simp) (fun ii hii => ?_)
        have h7 : ii = 0 ∨ ii = 1 ∨ ii = 8 := by simpa using hii
        clear hii
        rcases h7 with rfl | rfl | rfl
        · refine wpOp_load27 rfl rfl _ rfl w.heap.size s.st _ _ rfl (HNX.out X0 HT0.out.bel) ?_
          generalize hKK : wpAny Try.prog _ _ _ _ _ = KK
          go_simp
          subst hKK
          refine wpAny_all (rs := [1, 8]) (by kernel_rfl) (by simp) (fun ii hii => ?_)
          have h7 : ii = 1 ∨ ii = 8 := by simpa using hii
          clear hii
          rcases h7 with rfl | rfl
          · refine wpOp_val (v := .slice (some ⟨X0.heap.size, 0, none⟩) 0 0) (w' := X0.alloc (.cells #[] 5)) rfl rfl (by go_simp) ?_
            generalize hKK : wpAny Try.prog _ _ _ _ _ = KK
            go_simp
            subst hKK
            have HT2 := Hid.intro' HT0.out.lit
            generalize X0.alloc (.cells #[] 5) = X1 at HT2 ⊢
            generalize Value.slice (some ⟨X0.heap.size, 0, none⟩) 0 0 = v20 at HT2 ⊢
            refine wpAny_all (rs := [3, 8]) (by kernel_rfl) (by simp) (fun ii hii => ?_)
            have h7 : ii = 3 ∨ ii = 8 := by simpa using hii
            clear hii
            rcases h7 with rfl | rfl
            · refine wpOp_appY rfl rfl (.tmp 20) (.tmp 21) rfl W2.heap.size v20 (.slice av b.length kv) [] b (fun _ => True) (by rfl) (HT2.out.hrow _ _ rfl) (by rfl) (HYX.out X1 HT2.out.bel) (by simp; omega) HT2.out.bel.size ?_
              intro v22 X3 ho hgr hown
              have HT4 := Hid.intro' (HT2.out.app ho hgr hown)
              clear ho hgr hown
              generalize hKK : wpAny Try.prog _ _ _ _ _ = KK
              go_simp
              subst hKK
              refine wpAny_all (rs := [4, 8]) (by kernel_rfl) (by simp) (fun ii hii => ?_)
              have h7 : ii = 4 ∨ ii = 8 := by simpa using hii
              clear hii
              rcases h7 with rfl | rfl
              · refine wpOp_call rfl rfl ?hrun (HCX.out X3 v22 HT4.out.bel (HT4.out.hrow _ _ rfl)) ?_
                case hrun => unfold execOp; simp [resolve, invoke, go_sem]
                rintro ee X5 ⟨hbv, vp, rfl, hrl⟩
                rw [HX.out] at hrl ⊢
                dsimp only at hrl ⊢
                obtain ⟨ap, kp, rfl, _, _⟩ := hrl.form
                have HT6 := Hid.intro' (HT4.out.next hbv)
                have HRL : Hid (RL (fun g => X3.heap.size ≤ g) X5 (.slice ap p.length kp) p) := hrl
                clear hrl hbv
                refine ⟨_, rfl, ?_⟩
                generalize hKK : wpAny Try.prog _ _ _ _ _ = KK
                go_simp
                subst hKK
                refine wpAny_take (i := 5) rfl (by kernel_rfl) (by kernel_rfl) (by kernel_rfl) (fun _ _ _ h => by rw [HQ0.out] at h; cases h.1) (yields_move _ rfl rfl) ?_
                generalize hKK : wpAny Try.prog _ _ _ _ _ = KK
                go_simp
                subst hKK
                refine wpAny_take (i := 6) (v := .agg #[.bool ok, .int .i64 co, .slice ap p.length kp]) rfl (by kernel_rfl) (by kernel_rfl) (by kernel_rfl) (fun _ _ _ h => by rw [HQ0.out] at h; cases h.1) (yields_val rfl (fun w => by go_simp)) ?_
                generalize hKK : wpAny Try.prog _ _ _ _ _ = KK
                go_simp
                subst hKK
                refine wpAny_take (i := 7) (v := .int .i64 (n : Int)) rfl (by kernel_rfl) (by kernel_rfl) (by kernel_rfl) (fun _ _ _ h => by rw [HQ0.out] at h; cases h.1) (yields_val rfl (fun w => by go_simp)) ?_
                generalize hKK : wpAny Try.prog _ _ _ _ _ = KK
                go_simp
                subst hKK
                have HTE := HT6
                refine wpAny_seq 8 (by kernel_rfl) (by kernel_rfl) ?_
                simp only [List.drop_succ_cons, List.drop_zero]
                have HJ := Hid.intro' (JB.new X5 false 0 (.slice none 0 0))
                have HBZ := Hid.intro' ((Below.refl X5.heap.size X5).alloc (Nat.le_refl _) (.cells #[.bool false, .int .i64 0, .slice none 0 0] 43))
                have hwe := HTE.out.bel.size
                go_wp2_with (refine wpList_storeJ rfl _ _ rfl X5.heap.size rfl rfl HJ.out ?_)
                intro WE hkE hgE
                have HJE := Hid.intro' hgE
                have HBF := Hid.intro' (hkE.below HBZ.out HBZ.out.size (fun i hi e => by omega))
                have HRE : Hid (RL (fun _ => True) WE (.slice ap p.length kp) p) := (HRL.out.below' HBF.out).mono fun _ _ _ _ => trivial
                have HBE := Hid.intro' (below_class HTE.out.bel HBF.out)
                clear hkE hgE HJ hwe HRL HTE HBZ HBF
                generalize X5.heap.size = cb at HJE ⊢
                go_wp2_with fail
                rw [HQ0.out]
                exact ⟨rfl, ⟨_, _, _, _, _, rfl, HJE.out, HRE.out, HBE.out⟩⟩
              · refine wpOp_val (v := .pointer (some ⟨X3.heap.size, 0, none⟩)) (w' := X3.alloc (.cells #[.bool false, .int .i64 0, .slice none 0 0] 43)) rfl rfl (by go_simp) ?_
                generalize hKK : wpAny Try.prog _ _ _ _ _ = KK
                go_simp
                subst hKK
                have HT8 := Hid.intro' HT4.out.new
                generalize X3.alloc (.cells #[.bool false, .int .i64 0, .slice none 0 0] 43) = X7 at HT8 ⊢
                generalize X3.heap.size = cb at HT8 ⊢
                refine wpAny_all (rs := [4]) (by kernel_rfl) (by simp) (fun ii hii => ?_)
                obtain rfl : ii = 4 := by simpa using hii
                clear hii
                refine wpOp_call rfl rfl ?hrun (HCX.out X7 v22 HT8.out.bel (HT8.out.hrow _ _ rfl)) ?_
                case hrun => unfold execOp; simp [resolve, invoke, go_sem]
                rintro ee X9 ⟨hbv, vp, rfl, hrl⟩
                rw [HX.out] at hrl ⊢
                dsimp only at hrl ⊢
                obtain ⟨ap, kp, rfl, _, _⟩ := hrl.form
                have HT10 := Hid.intro' (HT8.out.next hbv)
                have HRL : Hid (RL (fun g => X7.heap.size ≤ g) X9 (.slice ap p.length kp) p) := hrl
                clear hrl hbv
                refine ⟨_, rfl, ?_⟩
                generalize hKK : wpAny Try.prog _ _ _ _ _ = KK
                go_simp
                subst hKK
                refine wpAny_take (i := 5) rfl (by kernel_rfl) (by kernel_rfl) (by kernel_rfl) (fun _ _ _ h => by rw [HQ0.out] at h; cases h.1) (yields_move _ rfl rfl) ?_
                generalize hKK : wpAny Try.prog _ _ _ _ _ = KK
                go_simp
                subst hKK
                refine wpAny_take (i := 6) (v := .agg #[.bool ok, .int .i64 co, .slice ap p.length kp]) rfl (by kernel_rfl) (by kernel_rfl) (by kernel_rfl) (fun _ _ _ h => by rw [HQ0.out] at h; cases h.1) (yields_val rfl (fun w => by go_simp)) ?_
                generalize hKK : wpAny Try.prog _ _ _ _ _ = KK
                go_simp
                subst hKK
                refine wpAny_take (i := 7) (v := .int .i64 (n : Int)) rfl (by kernel_rfl) (by kernel_rfl) (by kernel_rfl) (fun _ _ _ h => by rw [HQ0.out] at h; cases h.1) (yields_val rfl (fun w => by go_simp)) ?_
                generalize hKK : wpAny Try.prog _ _ _ _ _ = KK
                go_simp
                subst hKK
                have HTE := HT10
                have hlt := (HT8.out.hblk _ rfl).1.lt
                refine wpAny_seq 9 (by kernel_rfl) (by kernel_rfl) ?_
                simp only [List.drop_succ_cons, List.drop_zero]
                have HJ := Hid.intro' (HTE.out.hblk _ rfl).1
                have hcb := (HTE.out.hblk _ rfl).2
                go_wp2_with (refine wpList_storeJ rfl _ _ rfl cb rfl rfl HJ.out ?_)
                intro WE hkE hgE
                have HJE := Hid.intro' hgE
                have HRE : Hid (RL (fun _ => True) WE (.slice ap p.length kp) p) := (HRL.out.keep hkE.size fun g hg hlt2 => hkE.block g hlt2 (fun e => by omega)).mono fun _ _ _ _ => trivial
                have HBE := Hid.intro' (hkE.below HTE.out.bel HTE.out.bel.size (fun i hi e => by omega))
                clear hkE hgE HJ hcb hlt HRL HTE
                go_wp2_with fail
                rw [HQ0.out]
                exact ⟨rfl, ⟨_, _, _, _, _, rfl, HJE.out, HRE.out, HBE.out⟩⟩
            · refine wpOp_val (v := .pointer (some ⟨X1.heap.size, 0, none⟩)) (w' := X1.alloc (.cells #[.bool false, .int .i64 0, .slice none 0 0] 43)) rfl rfl (by go_simp) ?_
              generalize hKK : wpAny Try.prog _ _ _ _ _ = KK
              go_simp
              subst hKK
              have HT12 := Hid.intro' HT2.out.new
              generalize X1.alloc (.cells #[.bool false, .int .i64 0, .slice none 0 0] 43) = X11 at HT12 ⊢
              generalize X1.heap.size = cb at HT12 ⊢
              refine wpAny_all (rs := [3]) (by kernel_rfl) (by simp) (fun ii hii => ?_)
              obtain rfl : ii = 3 := by simpa using hii
              clear hii
              refine wpOp_appY rfl rfl (.tmp 20) (.tmp 21) rfl W2.heap.size v20 (.slice av b.length kv) [] b (fun _ => True) (by rfl) (HT12.out.hrow _ _ rfl) (by rfl) (HYX.out X11 HT12.out.bel) (by simp; omega) HT12.out.bel.size ?_
              intro v22 X13 ho hgr hown
              have HT14 := Hid.intro' (HT12.out.app ho hgr hown)
              clear ho hgr hown
              generalize hKK : wpAny Try.prog _ _ _ _ _ = KK
              go_simp
              subst hKK
              refine wpAny_all (rs := [4]) (by kernel_rfl) (by simp) (fun ii hii => ?_)
              obtain rfl : ii = 4 := by simpa using hii
              clear hii
              refine wpOp_call rfl rfl ?hrun (HCX.out X13 v22 HT14.out.bel (HT14.out.hrow _ _ rfl)) ?_
              case hrun => unfold execOp; simp [resolve, invoke, go_sem]
              rintro ee X15 ⟨hbv, vp, rfl, hrl⟩
              rw [HX.out] at hrl ⊢
              dsimp only at hrl ⊢
              obtain ⟨ap, kp, rfl, _, _⟩ := hrl.form
              have HT16 := Hid.intro' (HT14.out.next hbv)
              have HRL : Hid (RL (fun g => X13.heap.size ≤ g) X15 (.slice ap p.length kp) p) := hrl
              clear hrl hbv
              refine ⟨_, rfl, ?_⟩
              generalize hKK : wpAny Try.prog _ _ _ _ _ = KK
              go_simp
              subst hKK
              refine wpAny_take (i := 5) rfl (by kernel_rfl) (by kernel_rfl) (by kernel_rfl) (fun _ _ _ h => by rw [HQ0.out] at h; cases h.1) (yields_move _ rfl rfl) ?_
              generalize hKK : wpAny Try.prog _ _ _ _ _ = KK
              go_simp
              subst hKK
              refine wpAny_take (i := 6) (v := .agg #[.bool ok, .int .i64 co, .slice ap p.length kp]) rfl (by kernel_rfl) (by kernel_rfl) (by kernel_rfl) (fun _ _ _ h => by rw [HQ0.out] at h; cases h.1) (yields_val rfl (fun w => by go_simp)) ?_
              generalize hKK : wpAny Try.prog _ _ _ _ _ = KK
              go_simp
              subst hKK
              refine wpAny_take (i := 7) (v := .int .i64 (n : Int)) rfl (by kernel_rfl) (by kernel_rfl) (by kernel_rfl) (fun _ _ _ h => by rw [HQ0.out] at h; cases h.1) (yields_val rfl (fun w => by go_simp)) ?_
              generalize hKK : wpAny Try.prog _ _ _ _ _ = KK
              go_simp
              subst hKK
              have HTE := HT16
              have hlt := (HT14.out.hblk _ rfl).1.lt
              refine wpAny_seq 9 (by kernel_rfl) (by kernel_rfl) ?_
              simp only [List.drop_succ_cons, List.drop_zero]
              have HJ := Hid.intro' (HTE.out.hblk _ rfl).1
              have hcb := (HTE.out.hblk _ rfl).2
              go_wp2_with (refine wpList_storeJ rfl _ _ rfl cb rfl rfl HJ.out ?_)
              intro WE hkE hgE
              have HJE := Hid.intro' hgE
              have HRE : Hid (RL (fun _ => True) WE (.slice ap p.length kp) p) := (HRL.out.keep hkE.size fun g hg hlt2 => hkE.block g hlt2 (fun e => by omega)).mono fun _ _ _ _ => trivial
              have HBE := Hid.intro' (hkE.below HTE.out.bel HTE.out.bel.size (fun i hi e => by omega))
              clear hkE hgE HJ hcb hlt HRL HTE
              go_wp2_with fail
              rw [HQ0.out]
              exact ⟨rfl, ⟨_, _, _, _, _, rfl, HJE.out, HRE.out, HBE.out⟩⟩
          · refine wpOp_val (v := .pointer (some ⟨X0.heap.size, 0, none⟩)) (w' := X0.alloc (.cells #[.bool false, .int .i64 0, .slice none 0 0] 43)) rfl rfl (by go_simp) ?_
            generalize hKK : wpAny Try.prog _ _ _ _ _ = KK
            go_simp
            subst hKK
            have HT18 := Hid.intro' HT0.out.new
            generalize X0.alloc (.cells #[.bool false, .int .i64 0, .slice none 0 0] 43) = X17 at HT18 ⊢
            generalize X0.heap.size = cb at HT18 ⊢
            refine wpAny_all (rs := [1]) (by kernel_rfl) (by simp) (fun ii hii => ?_)
            obtain rfl : ii = 1 := by simpa using hii
            clear hii
            refine wpOp_val (v := .slice (some ⟨X17.heap.size, 0, none⟩) 0 0) (w' := X17.alloc (.cells #[] 5)) rfl rfl (by go_simp) ?_
            generalize hKK : wpAny Try.prog _ _ _ _ _ = KK
            go_simp
            subst hKK
            have HT20 := Hid.intro' HT18.out.lit
            generalize X17.alloc (.cells #[] 5) = X19 at HT20 ⊢
            generalize Value.slice (some ⟨X17.heap.size, 0, none⟩) 0 0 = v20 at HT20 ⊢
            refine wpAny_all (rs := [3]) (by kernel_rfl) (by simp) (fun ii hii => ?_)
            obtain rfl : ii = 3 := by simpa using hii
            clear hii
            refine wpOp_appY rfl rfl (.tmp 20) (.tmp 21) rfl W2.heap.size v20 (.slice av b.length kv) [] b (fun _ => True) (by rfl) (HT20.out.hrow _ _ rfl) (by rfl) (HYX.out X19 HT20.out.bel) (by simp; omega) HT20.out.bel.size ?_
            intro v22 X21 ho hgr hown
            have HT22 := Hid.intro' (HT20.out.app ho hgr hown)
            clear ho hgr hown
            generalize hKK : wpAny Try.prog _ _ _ _ _ = KK
            go_simp
            subst hKK
            refine wpAny_all (rs := [4]) (by kernel_rfl) (by simp) (fun ii hii => ?_)
            obtain rfl : ii = 4 := by simpa using hii
            clear hii
            refine wpOp_call rfl rfl ?hrun (HCX.out X21 v22 HT22.out.bel (HT22.out.hrow _ _ rfl)) ?_
            case hrun => unfold execOp; simp [resolve, invoke, go_sem]
            rintro ee X23 ⟨hbv, vp, rfl, hrl⟩
            rw [HX.out] at hrl ⊢
            dsimp only at hrl ⊢
            obtain ⟨ap, kp, rfl, _, _⟩ := hrl.form
            have HT24 := Hid.intro' (HT22.out.next hbv)
            have HRL : Hid (RL (fun g => X21.heap.size ≤ g) X23 (.slice ap p.length kp) p) := hrl
            clear hrl hbv
            refine ⟨_, rfl, ?_⟩
            generalize hKK : wpAny Try.prog _ _ _ _ _ = KK
            go_simp
            subst hKK
            refine wpAny_take (i := 5) rfl (by kernel_rfl) (by kernel_rfl) (by kernel_rfl) (fun _ _ _ h => by rw [HQ0.out] at h; cases h.1) (yields_move _ rfl rfl) ?_
            generalize hKK : wpAny Try.prog _ _ _ _ _ = KK
            go_simp
            subst hKK
            refine wpAny_take (i := 6) (v := .agg #[.bool ok, .int .i64 co, .slice ap p.length kp]) rfl (by kernel_rfl) (by kernel_rfl) (by kernel_rfl) (fun _ _ _ h => by rw [HQ0.out] at h; cases h.1) (yields_val rfl (fun w => by go_simp)) ?_
            generalize hKK : wpAny Try.prog _ _ _ _ _ = KK
            go_simp
            subst hKK
            refine wpAny_take (i := 7) (v := .int .i64 (n : Int)) rfl (by kernel_rfl) (by kernel_rfl) (by kernel_rfl) (fun _ _ _ h => by rw [HQ0.out] at h; cases h.1) (yields_val rfl (fun w => by go_simp)) ?_
            generalize hKK : wpAny Try.prog _ _ _ _ _ = KK
            go_simp
            subst hKK
            have HTE := HT24
            have hlt := (HT22.out.hblk _ rfl).1.lt
            refine wpAny_seq 9 (by kernel_rfl) (by kernel_rfl) ?_
            simp only [List.drop_succ_cons, List.drop_zero]
            have HJ := Hid.intro' (HTE.out.hblk _ rfl).1
            have hcb := (HTE.out.hblk _ rfl).2
            go_wp2_with (refine wpList_storeJ rfl _ _ rfl cb rfl rfl HJ.out ?_)
            intro WE hkE hgE
            have HJE := Hid.intro' hgE
            have HRE : Hid (RL (fun _ => True) WE (.slice ap p.length kp) p) := (HRL.out.keep hkE.size fun g hg hlt2 => hkE.block g hlt2 (fun e => by omega)).mono fun _ _ _ _ => trivial
            have HBE := Hid.intro' (hkE.below HTE.out.bel HTE.out.bel.size (fun i hi e => by omega))
            clear hkE hgE HJ hcb hlt HRL HTE
            go_wp2_with fail
            rw [HQ0.out]
            exact ⟨rfl, ⟨_, _, _, _, _, rfl, HJE.out, HRE.out, HBE.out⟩⟩
        · refine wpOp_val (v := .slice (some ⟨X0.heap.size, 0, none⟩) 0 0) (w' := X0.alloc (.cells #[] 5)) rfl rfl (by go_simp) ?_
          generalize hKK : wpAny Try.prog _ _ _ _ _ = KK
          go_simp
          subst hKK
          have HT26 := Hid.intro' HT0.out.lit
          generalize X0.alloc (.cells #[] 5) = X25 at HT26 ⊢
          generalize Value.slice (some ⟨X0.heap.size, 0, none⟩) 0 0 = v20 at HT26 ⊢
          refine wpAny_all (rs := [0, 3, 8]) (by kernel_rfl) (by simp) (fun ii hii => ?_)
          have h7 : ii = 0 ∨ ii = 3 ∨ ii = 8 := by simpa using hii
          clear hii
          rcases h7 with rfl | rfl | rfl
          · refine wpOp_load27 rfl rfl _ rfl w.heap.size s.st _ _ rfl (HNX.out X25 HT26.out.bel) ?_
            generalize hKK : wpAny Try.prog _ _ _ _ _ = KK
            go_simp
            subst hKK
            refine wpAny_all (rs := [3, 8]) (by kernel_rfl) (by simp) (fun ii hii => ?_)
            have h7 : ii = 3 ∨ ii = 8 := by simpa using hii
            clear hii
            rcases h7 with rfl | rfl
            · refine wpOp_appY rfl rfl (.tmp 20) (.tmp 21) rfl W2.heap.size v20 (.slice av b.length kv) [] b (fun _ => True) (by rfl) (HT26.out.hrow _ _ rfl) (by rfl) (HYX.out X25 HT26.out.bel) (by simp; omega) HT26.out.bel.size ?_
              intro v22 X27 ho hgr hown
              have HT28 := Hid.intro' (HT26.out.app ho hgr hown)
              clear ho hgr hown
              generalize hKK : wpAny Try.prog _ _ _ _ _ = KK
              go_simp
              subst hKK
              refine wpAny_all (rs := [4, 8]) (by kernel_rfl) (by simp) (fun ii hii => ?_)
              have h7 : ii = 4 ∨ ii = 8 := by simpa using hii
              clear hii
              rcases h7 with rfl | rfl
              · refine wpOp_call rfl rfl ?hrun (HCX.out X27 v22 HT28.out.bel (HT28.out.hrow _ _ rfl)) ?_
                case hrun => unfold execOp; simp [resolve, invoke, go_sem]
                rintro ee X29 ⟨hbv, vp, rfl, hrl⟩
                rw [HX.out] at hrl ⊢
                dsimp only at hrl ⊢
                obtain ⟨ap, kp, rfl, _, _⟩ := hrl.form
                have HT30 := Hid.intro' (HT28.out.next hbv)
                have HRL : Hid (RL (fun g => X27.heap.size ≤ g) X29 (.slice ap p.length kp) p) := hrl
                clear hrl hbv
                refine ⟨_, rfl, ?_⟩
                generalize hKK : wpAny Try.prog _ _ _ _ _ = KK
                go_simp
                subst hKK
                refine wpAny_take (i := 5) rfl (by kernel_rfl) (by kernel_rfl) (by kernel_rfl) (fun _ _ _ h => by rw [HQ0.out] at h; cases h.1) (yields_move _ rfl rfl) ?_
                generalize hKK : wpAny Try.prog _ _ _ _ _ = KK
                go_simp
                subst hKK
                refine wpAny_take (i := 6) (v := .agg #[.bool ok, .int .i64 co, .slice ap p.length kp]) rfl (by kernel_rfl) (by kernel_rfl) (by kernel_rfl) (fun _ _ _ h => by rw [HQ0.out] at h; cases h.1) (yields_val rfl (fun w => by go_simp)) ?_
                generalize hKK : wpAny Try.prog _ _ _ _ _ = KK
                go_simp
                subst hKK
                refine wpAny_take (i := 7) (v := .int .i64 (n : Int)) rfl (by kernel_rfl) (by kernel_rfl) (by kernel_rfl) (fun _ _ _ h => by rw [HQ0.out] at h; cases h.1) (yields_val rfl (fun w => by go_simp)) ?_
                generalize hKK : wpAny Try.prog _ _ _ _ _ = KK
                go_simp
                subst hKK
                have HTE := HT30
                refine wpAny_seq 8 (by kernel_rfl) (by kernel_rfl) ?_
                simp only [List.drop_succ_cons, List.drop_zero]
                have HJ := Hid.intro' (JB.new X29 false 0 (.slice none 0 0))
                have HBZ := Hid.intro' ((Below.refl X29.heap.size X29).alloc (Nat.le_refl _) (.cells #[.bool false, .int .i64 0, .slice none 0 0] 43))
                have hwe := HTE.out.bel.size
                go_wp2_with (refine wpList_storeJ rfl _ _ rfl X29.heap.size rfl rfl HJ.out ?_)
                intro WE hkE hgE
                have HJE := Hid.intro' hgE
                have HBF := Hid.intro' (hkE.below HBZ.out HBZ.out.size (fun i hi e => by omega))
                have HRE : Hid (RL (fun _ => True) WE (.slice ap p.length kp) p) := (HRL.out.below' HBF.out).mono fun _ _ _ _ => trivial
                have HBE := Hid.intro' (below_class HTE.out.bel HBF.out)
                clear hkE hgE HJ hwe HRL HTE HBZ HBF
                generalize X29.heap.size = cb at HJE ⊢
                go_wp2_with fail
                rw [HQ0.out]
                exact ⟨rfl, ⟨_, _, _, _, _, rfl, HJE.out, HRE.out, HBE.out⟩⟩
              · refine wpOp_val (v := .pointer (some ⟨X27.heap.size, 0, none⟩)) (w' := X27.alloc (.cells #[.bool false, .int .i64 0, .slice none 0 0] 43)) rfl rfl (by go_simp) ?_
                generalize hKK : wpAny Try.prog _ _ _ _ _ = KK
                go_simp
                subst hKK
                have HT32 := Hid.intro' HT28.out.new
                generalize X27.alloc (.cells #[.bool false, .int .i64 0, .slice none 0 0] 43) = X31 at HT32 ⊢
                generalize X27.heap.size = cb at HT32 ⊢
                refine wpAny_all (rs := [4]) (by kernel_rfl) (by simp) (fun ii hii => ?_)
                obtain rfl : ii = 4 := by simpa using hii
                clear hii
                refine wpOp_call rfl rfl ?hrun (HCX.out X31 v22 HT32.out.bel (HT32.out.hrow _ _ rfl)) ?_
                case hrun => unfold execOp; simp [resolve, invoke, go_sem]
                rintro ee X33 ⟨hbv, vp, rfl, hrl⟩
                rw [HX.out] at hrl ⊢
                dsimp only at hrl ⊢
                obtain ⟨ap, kp, rfl, _, _⟩ := hrl.form
                have HT34 := Hid.intro' (HT32.out.next hbv)
                have HRL : Hid (RL (fun g => X31.heap.size ≤ g) X33 (.slice ap p.length kp) p) := hrl
                clear hrl hbv
                refine ⟨_, rfl, ?_⟩
                generalize hKK : wpAny Try.prog _ _ _ _ _ = KK
                go_simp
                subst hKK
                refine wpAny_take (i := 5) rfl (by kernel_rfl) (by kernel_rfl) (by kernel_rfl) (fun _ _ _ h => by rw [HQ0.out] at h; cases h.1) (yields_move _ rfl rfl) ?_
                generalize hKK : wpAny Try.prog _ _ _ _ _ = KK
                go_simp
                subst hKK
                refine wpAny_take (i := 6) (v := .agg #[.bool ok, .int .i64 co, .slice ap p.length kp]) rfl (by kernel_rfl) (by kernel_rfl) (by kernel_rfl) (fun _ _ _ h => by rw [HQ0.out] at h; cases h.1) (yields_val rfl (fun w => by go_simp)) ?_
                generalize hKK : wpAny Try.prog _ _ _ _ _ = KK
                go_simp
                subst hKK
                refine wpAny_take (i := 7) (v := .int .i64 (n : Int)) rfl (by kernel_rfl) (by kernel_rfl) (by kernel_rfl) (fun _ _ _ h => by rw [HQ0.out] at h; cases h.1) (yields_val rfl (fun w => by go_simp)) ?_
                generalize hKK : wpAny Try.prog _ _ _ _ _ = KK
                go_simp
                subst hKK
                have HTE := HT34
                have hlt := (HT32.out.hblk _ rfl).1.lt
                refine wpAny_seq 9 (by kernel_rfl) (by kernel_rfl) ?_
                simp only [List.drop_succ_cons, List.drop_zero]
                have HJ := Hid.intro' (HTE.out.hblk _ rfl).1
                have hcb := (HTE.out.hblk _ rfl).2
                go_wp2_with (refine wpList_storeJ rfl _ _ rfl cb rfl rfl HJ.out ?_)
                intro WE hkE hgE
                have HJE := Hid.intro' hgE
                have HRE : Hid (RL (fun _ => True) WE (.slice ap p.length kp) p) := (HRL.out.keep hkE.size fun g hg hlt2 => hkE.block g hlt2 (fun e => by omega)).mono fun _ _ _ _ => trivial
                have HBE := Hid.intro' (hkE.below HTE.out.bel HTE.out.bel.size (fun i hi e => by omega))
                clear hkE hgE HJ hcb hlt HRL HTE
                go_wp2_with fail
                rw [HQ0.out]
                exact ⟨rfl, ⟨_, _, _, _, _, rfl, HJE.out, HRE.out, HBE.out⟩⟩
            · refine wpOp_val (v := .pointer (some ⟨X25.heap.size, 0, none⟩)) (w' := X25.alloc (.cells #[.bool false, .int .i64 0, .slice none 0 0] 43)) rfl rfl (by go_simp) ?_
              generalize hKK : wpAny Try.prog _ _ _ _ _ = KK
              go_simp
              subst hKK
              have HT36 := Hid.intro' HT26.out.new
              generalize X25.alloc (.cells #[.bool false, .int .i64 0, .slice none 0 0] 43) = X35 at HT36 ⊢
              generalize X25.heap.size = cb at HT36 ⊢
              refine wpAny_all (rs := [3]) (by kernel_rfl) (by simp) (fun ii hii => ?_)
              obtain rfl : ii = 3 := by simpa using hii
              clear hii
              refine wpOp_appY rfl rfl (.tmp 20) (.tmp 21) rfl W2.heap.size v20 (.slice av b.length kv) [] b (fun _ => True) (by rfl) (HT36.out.hrow _ _ rfl) (by rfl) (HYX.out X35 HT36.out.bel) (by simp; omega) HT36.out.bel.size ?_
              intro v22 X37 ho hgr hown
              have HT38 := Hid.intro' (HT36.out.app ho hgr hown)
              clear ho hgr hown
              generalize hKK : wpAny Try.prog _ _ _ _ _ = KK
              go_simp
              subst hKK
              refine wpAny_all (rs := [4]) (by kernel_rfl) (by simp) (fun ii hii => ?_)
              obtain rfl : ii = 4 := by simpa using hii
              clear hii
              refine wpOp_call rfl rfl ?hrun (HCX.out X37 v22 HT38.out.bel (HT38.out.hrow _ _ rfl)) ?_
              case hrun => unfold execOp; simp [resolve, invoke, go_sem]
              rintro ee X39 ⟨hbv, vp, rfl, hrl⟩
              rw [HX.out] at hrl ⊢
              dsimp only at hrl ⊢
              obtain ⟨ap, kp, rfl, _, _⟩ := hrl.form
              have HT40 := Hid.intro' (HT38.out.next hbv)
              have HRL : Hid (RL (fun g => X37.heap.size ≤ g) X39 (.slice ap p.length kp) p) := hrl
              clear hrl hbv
              refine ⟨_, rfl, ?_⟩
              generalize hKK : wpAny Try.prog _ _ _ _ _ = KK
              go_simp
              subst hKK
              refine wpAny_take (i := 5) rfl (by kernel_rfl) (by kernel_rfl) (by kernel_rfl) (fun _ _ _ h => by rw [HQ0.out] at h; cases h.1) (yields_move _ rfl rfl) ?_
              generalize hKK : wpAny Try.prog _ _ _ _ _ = KK
              go_simp
              subst hKK
              refine wpAny_take (i := 6) (v := .agg #[.bool ok, .int .i64 co, .slice ap p.length kp]) rfl (by kernel_rfl) (by kernel_rfl) (by kernel_rfl) (fun _ _ _ h => by rw [HQ0.out] at h; cases h.1) (yields_val rfl (fun w => by go_simp)) ?_
              generalize hKK : wpAny Try.prog _ _ _ _ _ = KK
              go_simp
              subst hKK
              refine wpAny_take (i := 7) (v := .int .i64 (n : Int)) rfl (by kernel_rfl) (by kernel_rfl) (by kernel_rfl) (fun _ _ _ h => by rw [HQ0.out] at h; cases h.1) (yields_val rfl (fun w => by go_simp)) ?_
              generalize hKK : wpAny Try.prog _ _ _ _ _ = KK
              go_simp
              subst hKK
              have HTE := HT40
              have hlt := (HT38.out.hblk _ rfl).1.lt
              refine wpAny_seq 9 (by kernel_rfl) (by kernel_rfl) ?_
              simp only [List.drop_succ_cons, List.drop_zero]
              have HJ := Hid.intro' (HTE.out.hblk _ rfl).1
              have hcb := (HTE.out.hblk _ rfl).2
              go_wp2_with (refine wpList_storeJ rfl _ _ rfl cb rfl rfl HJ.out ?_)
              intro WE hkE hgE
              have HJE := Hid.intro' hgE
              have HRE : Hid (RL (fun _ => True) WE (.slice ap p.length kp) p) := (HRL.out.keep hkE.size fun g hg hlt2 => hkE.block g hlt2 (fun e => by omega)).mono fun _ _ _ _ => trivial
              have HBE := Hid.intro' (hkE.below HTE.out.bel HTE.out.bel.size (fun i hi e => by omega))
              clear hkE hgE HJ hcb hlt HRL HTE
              go_wp2_with fail
              rw [HQ0.out]
              exact ⟨rfl, ⟨_, _, _, _, _, rfl, HJE.out, HRE.out, HBE.out⟩⟩
          · refine wpOp_appY rfl rfl (.tmp 20) (.tmp 21) rfl W2.heap.size v20 (.slice av b.length kv) [] b (fun _ => True) (by rfl) (HT26.out.hrow _ _ rfl) (by rfl) (HYX.out X25 HT26.out.bel) (by simp; omega) HT26.out.bel.size ?_
            intro v22 X41 ho hgr hown
            have HT42 := Hid.intro' (HT26.out.app ho hgr hown)
            clear ho hgr hown
            generalize hKK : wpAny Try.prog _ _ _ _ _ = KK
            go_simp
            subst hKK
            refine wpAny_all (rs := [0, 8]) (by kernel_rfl) (by simp) (fun ii hii => ?_)
            have h7 : ii = 0 ∨ ii = 8 := by simpa using hii
            clear hii
            rcases h7 with rfl | rfl
            · refine wpOp_load27 rfl rfl _ rfl w.heap.size s.st _ _ rfl (HNX.out X41 HT42.out.bel) ?_
              generalize hKK : wpAny Try.prog _ _ _ _ _ = KK
              go_simp
              subst hKK
              refine wpAny_all (rs := [4, 8]) (by kernel_rfl) (by simp) (fun ii hii => ?_)
              have h7 : ii = 4 ∨ ii = 8 := by simpa using hii
              clear hii
              rcases h7 with rfl | rfl
              · refine wpOp_call rfl rfl ?hrun (HCX.out X41 v22 HT42.out.bel (HT42.out.hrow _ _ rfl)) ?_
                case hrun => unfold execOp; simp [resolve, invoke, go_sem]
                rintro ee X43 ⟨hbv, vp, rfl, hrl⟩
                rw [HX.out] at hrl ⊢
                dsimp only at hrl ⊢
                obtain ⟨ap, kp, rfl, _, _⟩ := hrl.form
                have HT44 := Hid.intro' (HT42.out.next hbv)
                have HRL : Hid (RL (fun g => X41.heap.size ≤ g) X43 (.slice ap p.length kp) p) := hrl
                clear hrl hbv
                refine ⟨_, rfl, ?_⟩
                generalize hKK : wpAny Try.prog _ _ _ _ _ = KK
                go_simp
                subst hKK
                refine wpAny_take (i := 5) rfl (by kernel_rfl) (by kernel_rfl) (by kernel_rfl) (fun _ _ _ h => by rw [HQ0.out] at h; cases h.1) (yields_move _ rfl rfl) ?_
                generalize hKK : wpAny Try.prog _ _ _ _ _ = KK
                go_simp
                subst hKK
                refine wpAny_take (i := 6) (v := .agg #[.bool ok, .int .i64 co, .slice ap p.length kp]) rfl (by kernel_rfl) (by kernel_rfl) (by kernel_rfl) (fun _ _ _ h => by rw [HQ0.out] at h; cases h.1) (yields_val rfl (fun w => by go_simp)) ?_
                generalize hKK : wpAny Try.prog _ _ _ _ _ = KK
                go_simp
                subst hKK
                refine wpAny_take (i := 7) (v := .int .i64 (n : Int)) rfl (by kernel_rfl) (by kernel_rfl) (by kernel_rfl) (fun _ _ _ h => by rw [HQ0.out] at h; cases h.1) (yields_val rfl (fun w => by go_simp)) ?_
                generalize hKK : wpAny Try.prog _ _ _ _ _ = KK
                go_simp
                subst hKK
                have HTE := HT44
                refine wpAny_seq 8 (by kernel_rfl) (by kernel_rfl) ?_
                simp only [List.drop_succ_cons, List.drop_zero]
                have HJ := Hid.intro' (JB.new X43 false 0 (.slice none 0 0))
                have HBZ := Hid.intro' ((Below.refl X43.heap.size X43).alloc (Nat.le_refl _) (.cells #[.bool false, .int .i64 0, .slice none 0 0] 43))
                have hwe := HTE.out.bel.size
                go_wp2_with (refine wpList_storeJ rfl _ _ rfl X43.heap.size rfl rfl HJ.out ?_)
                intro WE hkE hgE
                have HJE := Hid.intro' hgE
                have HBF := Hid.intro' (hkE.below HBZ.out HBZ.out.size (fun i hi e => by omega))
                have HRE : Hid (RL (fun _ => True) WE (.slice ap p.length kp) p) := (HRL.out.below' HBF.out).mono fun _ _ _ _ => trivial
                have HBE := Hid.intro' (below_class HTE.out.bel HBF.out)
                clear hkE hgE HJ hwe HRL HTE HBZ HBF
                generalize X43.heap.size = cb at HJE ⊢
                go_wp2_with fail
                rw [HQ0.out]
                exact ⟨rfl, ⟨_, _, _, _, _, rfl, HJE.out, HRE.out, HBE.out⟩⟩
              · refine wpOp_val (v := .pointer (some ⟨X41.heap.size, 0, none⟩)) (w' := X41.alloc (.cells #[.bool false, .int .i64 0, .slice none 0 0] 43)) rfl rfl (by go_simp) ?_
                generalize hKK : wpAny Try.prog _ _ _ _ _ = KK
                go_simp
                subst hKK
                have HT46 := Hid.intro' HT42.out.new
                generalize X41.alloc (.cells #[.bool false, .int .i64 0, .slice none 0 0] 43) = X45 at HT46 ⊢
                generalize X41.heap.size = cb at HT46 ⊢
                refine wpAny_all (rs := [4]) (by kernel_rfl) (by simp) (fun ii hii => ?_)
                obtain rfl : ii = 4 := by simpa using hii
                clear hii
                refine wpOp_call rfl rfl ?hrun (HCX.out X45 v22 HT46.out.bel (HT46.out.hrow _ _ rfl)) ?_
                case hrun => unfold execOp; simp [resolve, invoke, go_sem]
                rintro ee X47 ⟨hbv, vp, rfl, hrl⟩
                rw [HX.out] at hrl ⊢
                dsimp only at hrl ⊢
                obtain ⟨ap, kp, rfl, _, _⟩ := hrl.form
                have HT48 := Hid.intro' (HT46.out.next hbv)
                have HRL : Hid (RL (fun g => X45.heap.size ≤ g) X47 (.slice ap p.length kp) p) := hrl
                clear hrl hbv
                refine ⟨_, rfl, ?_⟩
                generalize hKK : wpAny Try.prog _ _ _ _ _ = KK
                go_simp
                subst hKK
                refine wpAny_take (i := 5) rfl (by kernel_rfl) (by kernel_rfl) (by kernel_rfl) (fun _ _ _ h => by rw [HQ0.out] at h; cases h.1) (yields_move _ rfl rfl) ?_
                generalize hKK : wpAny Try.prog _ _ _ _ _ = KK
                go_simp
                subst hKK
                refine wpAny_take (i := 6) (v := .agg #[.bool ok, .int .i64 co, .slice ap p.length kp]) rfl (by kernel_rfl) (by kernel_rfl) (by kernel_rfl) (fun _ _ _ h => by rw [HQ0.out] at h; cases h.1) (yields_val rfl (fun w => by go_simp)) ?_
                generalize hKK : wpAny Try.prog _ _ _ _ _ = KK
                go_simp
                subst hKK
                refine wpAny_take (i := 7) (v := .int .i64 (n : Int)) rfl (by kernel_rfl) (by kernel_rfl) (by kernel_rfl) (fun _ _ _ h => by rw [HQ0.out] at h; cases h.1) (yields_val rfl (fun w => by go_simp)) ?_
                generalize hKK : wpAny Try.prog _ _ _ _ _ = KK
                go_simp
                subst hKK
                have HTE := HT48
                have hlt := (HT46.out.hblk _ rfl).1.lt
                refine wpAny_seq 9 (by kernel_rfl) (by kernel_rfl) ?_
                simp only [List.drop_succ_cons, List.drop_zero]
                have HJ := Hid.intro' (HTE.out.hblk _ rfl).1
                have hcb := (HTE.out.hblk _ rfl).2
                go_wp2_with (refine wpList_storeJ rfl _ _ rfl cb rfl rfl HJ.out ?_)
                intro WE hkE hgE
                have HJE := Hid.intro' hgE
                have HRE : Hid (RL (fun _ => True) WE (.slice ap p.length kp) p) := (HRL.out.keep hkE.size fun g hg hlt2 => hkE.block g hlt2 (fun e => by omega)).mono fun _ _ _ _ => trivial
                have HBE := Hid.intro' (hkE.below HTE.out.bel HTE.out.bel.size (fun i hi e => by omega))
                clear hkE hgE HJ hcb hlt HRL HTE
                go_wp2_with fail
                rw [HQ0.out]
                exact ⟨rfl, ⟨_, _, _, _, _, rfl, HJE.out, HRE.out, HBE.out⟩⟩
            · refine wpOp_val (v := .pointer (some ⟨X41.heap.size, 0, none⟩)) (w' := X41.alloc (.cells #[.bool false, .int .i64 0, .slice none 0 0] 43)) rfl rfl (by go_simp) ?_
              generalize hKK : wpAny Try.prog _ _ _ _ _ = KK
              go_simp
              subst hKK
              have HT50 := Hid.intro' HT42.out.new
              generalize X41.alloc (.cells #[.bool false, .int .i64 0, .slice none 0 0] 43) = X49 at HT50 ⊢
              generalize X41.heap.size = cb at HT50 ⊢
              refine wpAny_all (rs := [0]) (by kernel_rfl) (by simp) (fun ii hii => ?_)
              obtain rfl : ii = 0 := by simpa using hii
              clear hii
              refine wpOp_load27 rfl rfl _ rfl w.heap.size s.st _ _ rfl (HNX.out X49 HT50.out.bel) ?_
              generalize hKK : wpAny Try.prog _ _ _ _ _ = KK
              go_simp
              subst hKK
              refine wpAny_all (rs := [4]) (by kernel_rfl) (by simp) (fun ii hii => ?_)
              obtain rfl : ii = 4 := by simpa using hii
              clear hii
              refine wpOp_call rfl rfl ?hrun (HCX.out X49 v22 HT50.out.bel (HT50.out.hrow _ _ rfl)) ?_
              case hrun => unfold execOp; simp [resolve, invoke, go_sem]
              rintro ee X51 ⟨hbv, vp, rfl, hrl⟩
              rw [HX.out] at hrl ⊢
              dsimp only at hrl ⊢
              obtain ⟨ap, kp, rfl, _, _⟩ := hrl.form
              have HT52 := Hid.intro' (HT50.out.next hbv)
              have HRL : Hid (RL (fun g => X49.heap.size ≤ g) X51 (.slice ap p.length kp) p) := hrl
              clear hrl hbv
              refine ⟨_, rfl, ?_⟩
              generalize hKK : wpAny Try.prog _ _ _ _ _ = KK
              go_simp
              subst hKK
              refine wpAny_take (i := 5) rfl (by kernel_rfl) (by kernel_rfl) (by kernel_rfl) (fun _ _ _ h => by rw [HQ0.out] at h; cases h.1) (yields_move _ rfl rfl) ?_
              generalize hKK : wpAny Try.prog _ _ _ _ _ = KK
              go_simp
              subst hKK
              refine wpAny_take (i := 6) (v := .agg #[.bool ok, .int .i64 co, .slice ap p.length kp]) rfl (by kernel_rfl) (by kernel_rfl) (by kernel_rfl) (fun _ _ _ h => by rw [HQ0.out] at h; cases h.1) (yields_val rfl (fun w => by go_simp)) ?_
              generalize hKK : wpAny Try.prog _ _ _ _ _ = KK
              go_simp
              subst hKK
              refine wpAny_take (i := 7) (v := .int .i64 (n : Int)) rfl (by kernel_rfl) (by kernel_rfl) (by kernel_rfl) (fun _ _ _ h => by rw [HQ0.out] at h; cases h.1) (yields_val rfl (fun w => by go_simp)) ?_
              generalize hKK : wpAny Try.prog _ _ _ _ _ = KK
              go_simp
              subst hKK
              have HTE := HT52
              have hlt := (HT50.out.hblk _ rfl).1.lt
              refine wpAny_seq 9 (by kernel_rfl) (by kernel_rfl) ?_
              simp only [List.drop_succ_cons, List.drop_zero]
              have HJ := Hid.intro' (HTE.out.hblk _ rfl).1
              have hcb := (HTE.out.hblk _ rfl).2
              go_wp2_with (refine wpList_storeJ rfl _ _ rfl cb rfl rfl HJ.out ?_)
              intro WE hkE hgE
              have HJE := Hid.intro' hgE
              have HRE : Hid (RL (fun _ => True) WE (.slice ap p.length kp) p) := (HRL.out.keep hkE.size fun g hg hlt2 => hkE.block g hlt2 (fun e => by omega)).mono fun _ _ _ _ => trivial
              have HBE := Hid.intro' (hkE.below HTE.out.bel HTE.out.bel.size (fun i hi e => by omega))
              clear hkE hgE HJ hcb hlt HRL HTE
              go_wp2_with fail
              rw [HQ0.out]
              exact ⟨rfl, ⟨_, _, _, _, _, rfl, HJE.out, HRE.out, HBE.out⟩⟩
          · refine wpOp_val (v := .pointer (some ⟨X25.heap.size, 0, none⟩)) (w' := X25.alloc (.cells #[.bool false, .int .i64 0, .slice none 0 0] 43)) rfl rfl (by go_simp) ?_
            generalize hKK : wpAny Try.prog _ _ _ _ _ = KK
            go_simp
            subst hKK
            have HT54 := Hid.intro' HT26.out.new
            generalize X25.alloc (.cells #[.bool false, .int .i64 0, .slice none 0 0] 43) = X53 at HT54 ⊢
            generalize X25.heap.size = cb at HT54 ⊢
            refine wpAny_all (rs := [0, 3]) (by kernel_rfl) (by simp) (fun ii hii => ?_)
            have h7 : ii = 0 ∨ ii = 3 := by simpa using hii
            clear hii
            rcases h7 with rfl | rfl
            · refine wpOp_load27 rfl rfl _ rfl w.heap.size s.st _ _ rfl (HNX.out X53 HT54.out.bel) ?_
              generalize hKK : wpAny Try.prog _ _ _ _ _ = KK
              go_simp
              subst hKK
              refine wpAny_all (rs := [3]) (by kernel_rfl) (by simp) (fun ii hii => ?_)
              obtain rfl : ii = 3 := by simpa using hii
              clear hii
              refine wpOp_appY rfl rfl (.tmp 20) (.tmp 21) rfl W2.heap.size v20 (.slice av b.length kv) [] b (fun _ => True) (by rfl) (HT54.out.hrow _ _ rfl) (by rfl) (HYX.out X53 HT54.out.bel) (by simp; omega) HT54.out.bel.size ?_
              intro v22 X55 ho hgr hown
              have HT56 := Hid.intro' (HT54.out.app ho hgr hown)
              clear ho hgr hown
              generalize hKK : wpAny Try.prog _ _ _ _ _ = KK
              go_simp
              subst hKK
              refine wpAny_all (rs := [4]) (by kernel_rfl) (by simp) (fun ii hii => ?_)
              obtain rfl : ii = 4 := by simpa using hii
              clear hii
              refine wpOp_call rfl rfl ?hrun (HCX.out X55 v22 HT56.out.bel (HT56.out.hrow _ _ rfl)) ?_
              case hrun => unfold execOp; simp [resolve, invoke, go_sem]
              rintro ee X57 ⟨hbv, vp, rfl, hrl⟩
              rw [HX.out] at hrl ⊢
              dsimp only at hrl ⊢
              obtain ⟨ap, kp, rfl, _, _⟩ := hrl.form
              have HT58 := Hid.intro' (HT56.out.next hbv)
              have HRL : Hid (RL (fun g => X55.heap.size ≤ g) X57 (.slice ap p.length kp) p) := hrl
              clear hrl hbv
              refine ⟨_, rfl, ?_⟩
              generalize hKK : wpAny Try.prog _ _ _ _ _ = KK
              go_simp
              subst hKK
              refine wpAny_take (i := 5) rfl (by kernel_rfl) (by kernel_rfl) (by kernel_rfl) (fun _ _ _ h => by rw [HQ0.out] at h; cases h.1) (yields_move _ rfl rfl) ?_
              generalize hKK : wpAny Try.prog _ _ _ _ _ = KK
              go_simp
              subst hKK
              refine wpAny_take (i := 6) (v := .agg #[.bool ok, .int .i64 co, .slice ap p.length kp]) rfl (by kernel_rfl) (by kernel_rfl) (by kernel_rfl) (fun _ _ _ h => by rw [HQ0.out] at h; cases h.1) (yields_val rfl (fun w => by go_simp)) ?_
              generalize hKK : wpAny Try.prog _ _ _ _ _ = KK
              go_simp
              subst hKK
              refine wpAny_take (i := 7) (v := .int .i64 (n : Int)) rfl (by kernel_rfl) (by kernel_rfl) (by kernel_rfl) (fun _ _ _ h => by rw [HQ0.out] at h; cases h.1) (yields_val rfl (fun w => by go_simp)) ?_
              generalize hKK : wpAny Try.prog _ _ _ _ _ = KK
              go_simp
              subst hKK
              have HTE := HT58
              have hlt := (HT56.out.hblk _ rfl).1.lt
              refine wpAny_seq 9 (by kernel_rfl) (by kernel_rfl) ?_
              simp only [List.drop_succ_cons, List.drop_zero]
              have HJ := Hid.intro' (HTE.out.hblk _ rfl).1
              have hcb := (HTE.out.hblk _ rfl).2
              go_wp2_with (refine wpList_storeJ rfl _ _ rfl cb rfl rfl HJ.out ?_)
              intro WE hkE hgE
              have HJE := Hid.intro' hgE
              have HRE : Hid (RL (fun _ => True) WE (.slice ap p.length kp) p) := (HRL.out.keep hkE.size fun g hg hlt2 => hkE.block g hlt2 (fun e => by omega)).mono fun _ _ _ _ => trivial
              have HBE := Hid.intro' (hkE.below HTE.out.bel HTE.out.bel.size (fun i hi e => by omega))
              clear hkE hgE HJ hcb hlt HRL HTE
              go_wp2_with fail
              rw [HQ0.out]
              exact ⟨rfl, ⟨_, _, _, _, _, rfl, HJE.out, HRE.out, HBE.out⟩⟩
            · refine wpOp_appY rfl rfl (.tmp 20) (.tmp 21) rfl W2.heap.size v20 (.slice av b.length kv) [] b (fun _ => True) (by rfl) (HT54.out.hrow _ _ rfl) (by rfl) (HYX.out X53 HT54.out.bel) (by simp; omega) HT54.out.bel.size ?_
              intro v22 X59 ho hgr hown
              have HT60 := Hid.intro' (HT54.out.app ho hgr hown)
              clear ho hgr hown
              generalize hKK : wpAny Try.prog _ _ _ _ _ = KK
              go_simp
              subst hKK
              refine wpAny_all (rs := [0]) (by kernel_rfl) (by simp) (fun ii hii => ?_)
              obtain rfl : ii = 0 := by simpa using hii
              clear hii
              refine wpOp_load27 rfl rfl _ rfl w.heap.size s.st _ _ rfl (HNX.out X59 HT60.out.bel) ?_
              generalize hKK : wpAny Try.prog _ _ _ _ _ = KK
              go_simp
              subst hKK
              refine wpAny_all (rs := [4]) (by kernel_rfl) (by simp) (fun ii hii => ?_)
              obtain rfl : ii = 4 := by simpa using hii
              clear hii
              refine wpOp_call rfl rfl ?hrun (HCX.out X59 v22 HT60.out.bel (HT60.out.hrow _ _ rfl)) ?_
              case hrun => unfold execOp; simp [resolve, invoke, go_sem]
              rintro ee X61 ⟨hbv, vp, rfl, hrl⟩
              rw [HX.out] at hrl ⊢
              dsimp only at hrl ⊢
              obtain ⟨ap, kp, rfl, _, _⟩ := hrl.form
              have HT62 := Hid.intro' (HT60.out.next hbv)
              have HRL : Hid (RL (fun g => X59.heap.size ≤ g) X61 (.slice ap p.length kp) p) := hrl
              clear hrl hbv
              refine ⟨_, rfl, ?_⟩
              generalize hKK : wpAny Try.prog _ _ _ _ _ = KK
              go_simp
              subst hKK
              refine wpAny_take (i := 5) rfl (by kernel_rfl) (by kernel_rfl) (by kernel_rfl) (fun _ _ _ h => by rw [HQ0.out] at h; cases h.1) (yields_move _ rfl rfl) ?_
              generalize hKK : wpAny Try.prog _ _ _ _ _ = KK
              go_simp
              subst hKK
              refine wpAny_take (i := 6) (v := .agg #[.bool ok, .int .i64 co, .slice ap p.length kp]) rfl (by kernel_rfl) (by kernel_rfl) (by kernel_rfl) (fun _ _ _ h => by rw [HQ0.out] at h; cases h.1) (yields_val rfl (fun w => by go_simp)) ?_
              generalize hKK : wpAny Try.prog _ _ _ _ _ = KK
              go_simp
              subst hKK
              refine wpAny_take (i := 7) (v := .int .i64 (n : Int)) rfl (by kernel_rfl) (by kernel_rfl) (by kernel_rfl) (fun _ _ _ h => by rw [HQ0.out] at h; cases h.1) (yields_val rfl (fun w => by go_simp)) ?_
              generalize hKK : wpAny Try.prog _ _ _ _ _ = KK
              go_simp
              subst hKK
              have HTE := HT62
              have hlt := (HT60.out.hblk _ rfl).1.lt
              refine wpAny_seq 9 (by kernel_rfl) (by kernel_rfl) ?_
              simp only [List.drop_succ_cons, List.drop_zero]
              have HJ := Hid.intro' (HTE.out.hblk _ rfl).1
              have hcb := (HTE.out.hblk _ rfl).2
              go_wp2_with (refine wpList_storeJ rfl _ _ rfl cb rfl rfl HJ.out ?_)
              intro WE hkE hgE
              have HJE := Hid.intro' hgE
              have HRE : Hid (RL (fun _ => True) WE (.slice ap p.length kp) p) := (HRL.out.keep hkE.size fun g hg hlt2 => hkE.block g hlt2 (fun e => by omega)).mono fun _ _ _ _ => trivial
              have HBE := Hid.intro' (hkE.below HTE.out.bel HTE.out.bel.size (fun i hi e => by omega))
              clear hkE hgE HJ hcb hlt HRL HTE
              go_wp2_with fail
              rw [HQ0.out]
              exact ⟨rfl, ⟨_, _, _, _, _, rfl, HJE.out, HRE.out, HBE.out⟩⟩
        · refine wpOp_val (v := .pointer (some ⟨X0.heap.size, 0, none⟩)) (w' := X0.alloc (.cells #[.bool false, .int .i64 0, .slice none 0 0] 43)) rfl rfl (by go_simp) ?_
          generalize hKK : wpAny Try.prog _ _ _ _ _ = KK
          go_simp
          subst hKK
          have HT64 := Hid.intro' HT0.out.new
          generalize X0.alloc (.cells #[.bool false, .int .i64 0, .slice none 0 0] 43) = X63 at HT64 ⊢
          generalize X0.heap.size = cb at HT64 ⊢
          refine wpAny_all (rs := [0, 1]) (by kernel_rfl) (by simp) (fun ii hii => ?_)
          have h7 : ii = 0 ∨ ii = 1 := by simpa using hii
          clear hii
          rcases h7 with rfl | rfl
          · refine wpOp_load27 rfl rfl _ rfl w.heap.size s.st _ _ rfl (HNX.out X63 HT64.out.bel) ?_
            generalize hKK : wpAny Try.prog _ _ _ _ _ = KK
            go_simp
            subst hKK
            refine wpAny_all (rs := [1]) (by kernel_rfl) (by simp) (fun ii hii => ?_)
            obtain rfl : ii = 1 := by simpa using hii
            clear hii
            refine wpOp_val (v := .slice (some ⟨X63.heap.size, 0, none⟩) 0 0) (w' := X63.alloc (.cells #[] 5)) rfl rfl (by go_simp) ?_
            generalize hKK : wpAny Try.prog _ _ _ _ _ = KK
            go_simp
            subst hKK
            have HT66 := Hid.intro' HT64.out.lit
            generalize X63.alloc (.cells #[] 5) = X65 at HT66 ⊢
            generalize Value.slice (some ⟨X63.heap.size, 0, none⟩) 0 0 = v20 at HT66 ⊢
            refine wpAny_all (rs := [3]) (by kernel_rfl) (by simp) (fun ii hii => ?_)
            obtain rfl : ii = 3 := by simpa using hii
            clear hii
            refine wpOp_appY rfl rfl (.tmp 20) (.tmp 21) rfl W2.heap.size v20 (.slice av b.length kv) [] b (fun _ => True) (by rfl) (HT66.out.hrow _ _ rfl) (by rfl) (HYX.out X65 HT66.out.bel) (by simp; omega) HT66.out.bel.size ?_
            intro v22 X67 ho hgr hown
            have HT68 := Hid.intro' (HT66.out.app ho hgr hown)
            clear ho hgr hown
            generalize hKK : wpAny Try.prog _ _ _ _ _ = KK
            go_simp
            subst hKK
            refine wpAny_all (rs := [4]) (by kernel_rfl) (by simp) (fun ii hii => ?_)
            obtain rfl : ii = 4 := by simpa using hii
            clear hii
            refine wpOp_call rfl rfl ?hrun (HCX.out X67 v22 HT68.out.bel (HT68.out.hrow _ _ rfl)) ?_
            case hrun => unfold execOp; simp [resolve, invoke, go_sem]
            rintro ee X69 ⟨hbv, vp, rfl, hrl⟩
            rw [HX.out] at hrl ⊢
            dsimp only at hrl ⊢
            obtain ⟨ap, kp, rfl, _, _⟩ := hrl.form
            have HT70 := Hid.intro' (HT68.out.next hbv)
            have HRL : Hid (RL (fun g => X67.heap.size ≤ g) X69 (.slice ap p.length kp) p) := hrl
            clear hrl hbv
            refine ⟨_, rfl, ?_⟩
            generalize hKK : wpAny Try.prog _ _ _ _ _ = KK
            go_simp
            subst hKK
            refine wpAny_take (i := 5) rfl (by kernel_rfl) (by kernel_rfl) (by kernel_rfl) (fun _ _ _ h => by rw [HQ0.out] at h; cases h.1) (yields_move _ rfl rfl) ?_
            generalize hKK : wpAny Try.prog _ _ _ _ _ = KK
            go_simp
            subst hKK
            refine wpAny_take (i := 6) (v := .agg #[.bool ok, .int .i64 co, .slice ap p.length kp]) rfl (by kernel_rfl) (by kernel_rfl) (by kernel_rfl) (fun _ _ _ h => by rw [HQ0.out] at h; cases h.1) (yields_val rfl (fun w => by go_simp)) ?_
            generalize hKK : wpAny Try.prog _ _ _ _ _ = KK
            go_simp
            subst hKK
            refine wpAny_take (i := 7) (v := .int .i64 (n : Int)) rfl (by kernel_rfl) (by kernel_rfl) (by kernel_rfl) (fun _ _ _ h => by rw [HQ0.out] at h; cases h.1) (yields_val rfl (fun w => by go_simp)) ?_
            generalize hKK : wpAny Try.prog _ _ _ _ _ = KK
            go_simp
            subst hKK
            have HTE := HT70
            have hlt := (HT68.out.hblk _ rfl).1.lt
            refine wpAny_seq 9 (by kernel_rfl) (by kernel_rfl) ?_
            simp only [List.drop_succ_cons, List.drop_zero]
            have HJ := Hid.intro' (HTE.out.hblk _ rfl).1
            have hcb := (HTE.out.hblk _ rfl).2
            go_wp2_with (refine wpList_storeJ rfl _ _ rfl cb rfl rfl HJ.out ?_)
            intro WE hkE hgE
            have HJE := Hid.intro' hgE
            have HRE : Hid (RL (fun _ => True) WE (.slice ap p.length kp) p) := (HRL.out.keep hkE.size fun g hg hlt2 => hkE.block g hlt2 (fun e => by omega)).mono fun _ _ _ _ => trivial
            have HBE := Hid.intro' (hkE.below HTE.out.bel HTE.out.bel.size (fun i hi e => by omega))
            clear hkE hgE HJ hcb hlt HRL HTE
            go_wp2_with fail
            rw [HQ0.out]
            exact ⟨rfl, ⟨_, _, _, _, _, rfl, HJE.out, HRE.out, HBE.out⟩⟩
          · refine wpOp_val (v := .slice (some ⟨X63.heap.size, 0, none⟩) 0 0) (w' := X63.alloc (.cells #[] 5)) rfl rfl (by go_simp) ?_
            generalize hKK : wpAny Try.prog _ _ _ _ _ = KK
            go_simp
            subst hKK
            have HT72 := Hid.intro' HT64.out.lit
            generalize X63.alloc (.cells #[] 5) = X71 at HT72 ⊢
            generalize Value.slice (some ⟨X63.heap.size, 0, none⟩) 0 0 = v20 at HT72 ⊢
            refine wpAny_all (rs := [0, 3]) (by kernel_rfl) (by simp) (fun ii hii => ?_)
            have h7 : ii = 0 ∨ ii = 3 := by simpa using hii
            clear hii
            rcases h7 with rfl | rfl
            · refine wpOp_load27 rfl rfl _ rfl w.heap.size s.st _ _ rfl (HNX.out X71 HT72.out.bel) ?_
              generalize hKK : wpAny Try.prog _ _ _ _ _ = KK
              go_simp
              subst hKK
              refine wpAny_all (rs := [3]) (by kernel_rfl) (by simp) (fun ii hii => ?_)
              obtain rfl : ii = 3 := by simpa using hii
              clear hii
              refine wpOp_appY rfl rfl (.tmp 20) (.tmp 21) rfl W2.heap.size v20 (.slice av b.length kv) [] b (fun _ => True) (by rfl) (HT72.out.hrow _ _ rfl) (by rfl) (HYX.out X71 HT72.out.bel) (by simp; omega) HT72.out.bel.size ?_
              intro v22 X73 ho hgr hown
              have HT74 := Hid.intro' (HT72.out.app ho hgr hown)
              clear ho hgr hown
              generalize hKK : wpAny Try.prog _ _ _ _ _ = KK
              go_simp
              subst hKK
              refine wpAny_all (rs := [4]) (by kernel_rfl) (by simp) (fun ii hii => ?_)
              obtain rfl : ii = 4 := by simpa using hii
              clear hii
              refine wpOp_call rfl rfl ?hrun (HCX.out X73 v22 HT74.out.bel (HT74.out.hrow _ _ rfl)) ?_
              case hrun => unfold execOp; simp [resolve, invoke, go_sem]
              rintro ee X75 ⟨hbv, vp, rfl, hrl⟩
              rw [HX.out] at hrl ⊢
              dsimp only at hrl ⊢
              obtain ⟨ap, kp, rfl, _, _⟩ := hrl.form
              have HT76 := Hid.intro' (HT74.out.next hbv)
              have HRL : Hid (RL (fun g => X73.heap.size ≤ g) X75 (.slice ap p.length kp) p) := hrl
              clear hrl hbv
              refine ⟨_, rfl, ?_⟩
              generalize hKK : wpAny Try.prog _ _ _ _ _ = KK
              go_simp
              subst hKK
              refine wpAny_take (i := 5) rfl (by kernel_rfl) (by kernel_rfl) (by kernel_rfl) (fun _ _ _ h => by rw [HQ0.out] at h; cases h.1) (yields_move _ rfl rfl) ?_
              generalize hKK : wpAny Try.prog _ _ _ _ _ = KK
              go_simp
              subst hKK
              refine wpAny_take (i := 6) (v := .agg #[.bool ok, .int .i64 co, .slice ap p.length kp]) rfl (by kernel_rfl) (by kernel_rfl) (by kernel_rfl) (fun _ _ _ h => by rw [HQ0.out] at h; cases h.1) (yields_val rfl (fun w => by go_simp)) ?_
              generalize hKK : wpAny Try.prog _ _ _ _ _ = KK
              go_simp
              subst hKK
              refine wpAny_take (i := 7) (v := .int .i64 (n : Int)) rfl (by kernel_rfl) (by kernel_rfl) (by kernel_rfl) (fun _ _ _ h => by rw [HQ0.out] at h; cases h.1) (yields_val rfl (fun w => by go_simp)) ?_
              generalize hKK : wpAny Try.prog _ _ _ _ _ = KK
              go_simp
              subst hKK
              have HTE := HT76
              have hlt := (HT74.out.hblk _ rfl).1.lt
              refine wpAny_seq 9 (by kernel_rfl) (by kernel_rfl) ?_
              simp only [List.drop_succ_cons, List.drop_zero]
              have HJ := Hid.intro' (HTE.out.hblk _ rfl).1
              have hcb := (HTE.out.hblk _ rfl).2
              go_wp2_with (refine wpList_storeJ rfl _ _ rfl cb rfl rfl HJ.out ?_)
              intro WE hkE hgE
              have HJE := Hid.intro' hgE
              have HRE : Hid (RL (fun _ => True) WE (.slice ap p.length kp) p) := (HRL.out.keep hkE.size fun g hg hlt2 => hkE.block g hlt2 (fun e => by omega)).mono fun _ _ _ _ => trivial
              have HBE := Hid.intro' (hkE.below HTE.out.bel HTE.out.bel.size (fun i hi e => by omega))
              clear hkE hgE HJ hcb hlt HRL HTE
              go_wp2_with fail
              rw [HQ0.out]
              exact ⟨rfl, ⟨_, _, _, _, _, rfl, HJE.out, HRE.out, HBE.out⟩⟩
            · refine wpOp_appY rfl rfl (.tmp 20) (.tmp 21) rfl W2.heap.size v20 (.slice av b.length kv) [] b (fun _ => True) (by rfl) (HT72.out.hrow _ _ rfl) (by rfl) (HYX.out X71 HT72.out.bel) (by simp; omega) HT72.out.bel.size ?_
              intro v22 X77 ho hgr hown
              have HT78 := Hid.intro' (HT72.out.app ho hgr hown)
              clear ho hgr hown
              generalize hKK : wpAny Try.prog _ _ _ _ _ = KK
              go_simp
              subst hKK
              refine wpAny_all (rs := [0]) (by kernel_rfl) (by simp) (fun ii hii => ?_)
              obtain rfl : ii = 0 := by simpa using hii
              clear hii
              refine wpOp_load27 rfl rfl _ rfl w.heap.size s.st _ _ rfl (HNX.out X77 HT78.out.bel) ?_
              generalize hKK : wpAny Try.prog _ _ _ _ _ = KK
              go_simp
              subst hKK
              refine wpAny_all (rs := [4]) (by kernel_rfl) (by simp) (fun ii hii => ?_)
              obtain rfl : ii = 4 := by simpa using hii
              clear hii
              refine wpOp_call rfl rfl ?hrun (HCX.out X77 v22 HT78.out.bel (HT78.out.hrow _ _ rfl)) ?_
              case hrun => unfold execOp; simp [resolve, invoke, go_sem]
              rintro ee X79 ⟨hbv, vp, rfl, hrl⟩
              rw [HX.out] at hrl ⊢
              dsimp only at hrl ⊢
              obtain ⟨ap, kp, rfl, _, _⟩ := hrl.form
              have HT80 := Hid.intro' (HT78.out.next hbv)
              have HRL : Hid (RL (fun g => X77.heap.size ≤ g) X79 (.slice ap p.length kp) p) := hrl
              clear hrl hbv
              refine ⟨_, rfl, ?_⟩
              generalize hKK : wpAny Try.prog _ _ _ _ _ = KK
              go_simp
              subst hKK
              refine wpAny_take (i := 5) rfl (by kernel_rfl) (by kernel_rfl) (by kernel_rfl) (fun _ _ _ h => by rw [HQ0.out] at h; cases h.1) (yields_move _ rfl rfl) ?_
              generalize hKK : wpAny Try.prog _ _ _ _ _ = KK
              go_simp
              subst hKK
              refine wpAny_take (i := 6) (v := .agg #[.bool ok, .int .i64 co, .slice ap p.length kp]) rfl (by kernel_rfl) (by kernel_rfl) (by kernel_rfl) (fun _ _ _ h => by rw [HQ0.out] at h; cases h.1) (yields_val rfl (fun w => by go_simp)) ?_
              generalize hKK : wpAny Try.prog _ _ _ _ _ = KK
              go_simp
              subst hKK
              refine wpAny_take (i := 7) (v := .int .i64 (n : Int)) rfl (by kernel_rfl) (by kernel_rfl) (by kernel_rfl) (fun _ _ _ h => by rw [HQ0.out] at h; cases h.1) (yields_val rfl (fun w => by go_simp)) ?_
              generalize hKK : wpAny Try.prog _ _ _ _ _ = KK
              go_simp
              subst hKK
              have HTE := HT80
              have hlt := (HT78.out.hblk _ rfl).1.lt
              refine wpAny_seq 9 (by kernel_rfl) (by kernel_rfl) ?_
              simp only [List.drop_succ_cons, List.drop_zero]
              have HJ := Hid.intro' (HTE.out.hblk _ rfl).1
              have hcb := (HTE.out.hblk _ rfl).2
              go_wp2_with (refine wpList_storeJ rfl _ _ rfl cb rfl rfl HJ.out ?_)
              intro WE hkE hgE
              have HJE := Hid.intro' hgE
              have HRE : Hid (RL (fun _ => True) WE (.slice ap p.length kp) p) := (HRL.out.keep hkE.size fun g hg hlt2 => hkE.block g hlt2 (fun e => by omega)).mono fun _ _ _ _ => trivial
              have HBE := Hid.intro' (hkE.below HTE.out.bel HTE.out.bel.size (fun i hi e => by omega))
              clear hkE hgE HJ hcb hlt HRL HTE
              go_wp2_with fail
              rw [HQ0.out]
              exact ⟨rfl, ⟨_, _, _, _, _, rfl, HJE.out, HRE.out, HBE.out⟩⟩
      case rest =>
        intro ex a W3 h
        rw [HQ0.out] at h
        obtain ⟨rfl, ⟨cb, v20, v22, ap, kp, rfl, hj3, hr3, hb3⟩⟩ := h
        have HB3 := Hid.intro' (below_class HB2.out hb3)
        have HN3 := Hid.intro' (HN2.out.below' hb3)
        have HRC := Hid.intro' (rcheck_any s (fun _ => True) _ _ _ b W3 (HC2.out.below' hb3) (HW2.out.below' hb3) (HYX.out W3 hb3) (by omega))
        have HJ3 := Hid.intro' hj3
        have HR3 := Hid.intro' hr3
        clear hb3 hj3 hr3 HNX HCX HQ0 HB2 HN2 HC2 HW2
        go_wp2_with (refine wpList_load27g rfl _ rfl w.heap.size s.st _ _ rfl HN3.out ?_)
        refine HRC.out.mono ?_
        rintro e W4 ⟨hb4, vq, rfl, hrq⟩
        rw [HX.out] at hrq ⊢
        dsimp only at hrq ⊢
        obtain ⟨aq, kq, rfl, _, _⟩ := hrq.form
        have HB4 := Hid.intro' (below_class HB3.out hb4)
        have HJ4 := Hid.intro' (HJ3.out.below' hb4)
        have HR4 := Hid.intro' (HR3.out.below' hb4)
        have HQ4 : Hid (RL (fun _ => True) W4 (.slice aq p.length kq) p) := hrq.mono fun _ _ _ _ => trivial
        have HZ := Hid.intro' (DcB.new W4 false 0 (.slice none 0 0))
        have HBZ := Hid.intro' ((Below.refl W4.heap.size W4).alloc (Nat.le_refl _) (.cells #[.bool false, .int .i64 0, .slice none 0 0] 46))
        clear hb4 hrq HRC HB3 HN3 HJ3 HR3
        go_wp2_with (refine wpList_storeDc rfl _ _ rfl W4.heap.size rfl rfl HZ.out ?_)
        intro W5 hk5 hg5
        have hb5 := hk5.below HBZ.out HBZ.out.size (fun i hi e => by omega)
        have HB5 := Hid.intro' (below_class HB4.out hb5)
        have hj5 := HJ4.out.below' hb5
        have hbd := ckw_bd HX.out HY.out.1
        dsimp only at hbd
        have HSM := Hid.intro' (psame_any _ _ _ _ p W5 (HR4.out.below' hb5) (HQ4.out.below' hb5) hbd.1 hbd.2)
        generalize W4.heap.size = db at hg5 ⊢
        have j0 : W5.cell? ⟨cb, 0, none⟩ = some (.bool ok) := hj5.cell 0
        have j1 : W5.cell? ⟨cb, 1, none⟩ = some (.int .i64 co) := hj5.cell 1
        have j2 : W5.cell? ⟨cb, 2, none⟩ = some (.slice ap p.length kp) := hj5.cell 2
        have d0 : W5.cell? ⟨db, 0, none⟩ = some (.bool ok) := hg5.cell 0
        have d1 : W5.cell? ⟨db, 1, none⟩ = some (.int .i64 co) := hg5.cell 1
        have d2 : W5.cell? ⟨db, 2, none⟩ = some (.slice aq p.length kq) := hg5.cell 2
        clear hk5 hg5 hb5 hj5 hbd HB4 HJ4 HR4 HQ4 HZ HBZ
        go_wp2_with fail
        refine HSM.out.mono ?_
        rintro e W6 ⟨rfl, hb6⟩
        have HB6 := Hid.intro' (below_class HB5.out hb6)
        clear hb6 HSM HB5
        go_wp2
        go_ret
        exact ⟨rfl, HB6.out⟩
end Go.Proofs.Ytagmidolcdefiah
