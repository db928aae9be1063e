/- A visit, as the document makes it. -/
import Derived.Test.YtigjbgecdaljkagPk15
import Derived.Test.YtigjbgecdaljkagBdD
namespace Go.Proofs.Ytigjbgecdaljkag
open Go.RowKit Go.Shelf

section
variable {s : Sn} {B f k nd : Nat} {b pl : List (List Int)} {st : List Bool} {co : Int} {ms : List Nat}
theorem vis_b (h : nd = B) : vis s B (f + 1) k b st ⟨nd, false, pl, co, ms⟩ = ⟨nd, true, pl, co, ms⟩ := by
  show vst s B _ k b st _ = _
  unfold vst
  rw [if_neg (by simp), if_pos h]
theorem vis_leaf1 (h : ¬ nd = B) (h3 : lfs s st = []) (h4 : RM.cst s.st s.ws s.cs b < co) : vis s B (f + 1) k b st ⟨nd, false, pl, co, ms⟩ = ⟨nd + 1, false, b, RM.cst s.st s.ws s.cs b, ms ++ [2]⟩ := by
  show vst s B _ k b st _ = _
  unfold vst
  rw [if_neg (by simp), if_neg h, if_pos h3, if_pos h4]
theorem vis_leaf2 (h : ¬ nd = B) (h3 : lfs s st = []) (h4 : ¬ RM.cst s.st s.ws s.cs b < co) : vis s B (f + 1) k b st ⟨nd, false, pl, co, ms⟩ = ⟨nd + 1, false, pl, co, ms ++ [2]⟩ := by
  show vst s B _ k b st _ = _
  unfold vst
  rw [if_neg (by simp), if_neg h, if_pos h3, if_neg h4]
theorem vis_cut (h : ¬ nd = B) (h3 : ¬ lfs s st = []) (h4 : co ≤ lsv s k b st) : vis s B (f + 1) k b st ⟨nd, false, pl, co, ms⟩ = ⟨nd + 1, false, pl, co, ms ++ [0]⟩ := by
  show vst s B _ k b st _ = _
  unfold vst
  rw [if_neg (by simp), if_neg h, if_neg h3, if_pos h4]
theorem vis_go (h : ¬ nd = B) (h3 : ¬ lfs s st = []) (h4 : ¬ co ≤ lsv s k b st) : vis s B (f + 1) k b st ⟨nd, false, pl, co, ms⟩ = nxt (vis s B f) k b st (kids s (vis s B f) k b st (lfs s st) ⟨nd + 1, false, pl, co, ms ++ [1]⟩) := by
  show vst s B _ k b st _ = _
  unfold vst
  rw [if_neg (by simp), if_neg h, if_neg h3, if_neg h4]
end

/-- what is claimed of visits of that fuel -/
def Vis (s : Sn) (B xb : Nat) (vc vw : Value) (f : Nat) : Prop := ∀ (k : Nat) (b : List (List Int)) (st : List Bool) (x : Sx) (w : World) (v vp vm : Value), b.length - k + PM.lf st ≤ f → bgn s (k : Int) b = some st → (∀ l ∈ b, l.length + PM.lf st ≤ 128) → Sxo s B x → x.marks.length = x.nodes → XS w xb s vc vw B x vp vm → RL (Dv xb vm) w v b →
  Calls Try.prog 45 #[.pointer (some ⟨xb, 0, none⟩), .int .i64 (k : Int), v] w fun e w' => e = .returned (.tuple #[]) ∧ ∃ vp' vm', Mv xb vm vm' w w' ∧ XS w' xb s vc vw B (vis s B f k b st x) vp' vm'

set_option maxRecDepth 100000 in
set_option maxHeartbeats 16000000 in
theorem visit_step (s : Sn) (B xb : Nat) (vc vw : Value) (hB : B ≤ 1000000) (f : Nat) (ih : Vis s B xb vc vw f) : Vis s B xb vc vw (f + 1) := by
  intro k b st x w v vp vm hf hb hll hx hml hXS hv
  have IH := Hid.intro' ih
  have HX := Hid.intro' hXS
  have HV := Hid.intro' hv
  obtain ⟨av, kv, rfl, _, _⟩ := hv.form
  have HF := Hid.intro' hf
  have HBG := Hid.intro' hb
  have HLL := Hid.intro' hll
  have HLX : Hid (∀ l ∈ b, l.length ≤ 1000) := fun l hl => by have := hll l hl; omega
  have HOK := Hid.intro' hx
  have HML := Hid.intro' hml
  have HBS := Hid.intro' (bgn_bs hb)
  have hp8 : b.length ≤ 8 := (bgn_bs hb).p8
  have hkl : k < b.length := (bgn_bs hb).kl
  have hwl : s.ws.length ≤ 128 := (bgn_bs hb).wl
  obtain ⟨nd, en, pl, co, ms⟩ := x
  obtain ⟨am, cm, rfl⟩ := hXS.ms.slice
  clear ih hXS hv hf hb hll hx hml
  cases en with
  | true =>
    have c19 : w.cell? ⟨xb, 19, none⟩ = some (.bool true) := HX.out.cell 19
    go_enter Try.func45, Try.ntmps45
    go_wp2
    refine bodyPost_ret (results_none rfl _ _ _) rfl ?_
    exact ⟨rfl, vp, _, Mv.refl xb _ w, by rw [vis_ended _ _ _ _ _ rfl]; exact HX.out⟩
  | false =>
    have c19 : w.cell? ⟨xb, 19, none⟩ = some (.bool false) := HX.out.cell 19
    have H18 : Hid (∀ w', Below w.heap.size w w' → w'.cell? ⟨xb, 18, none⟩ = some (.int .i64 (nd : Int))) := fun w' hw => (HX.out.next hw).cell 18
    have H15 : Hid (∀ w', Below w.heap.size w w' → w'.cell? ⟨xb, 15, none⟩ = some (.int .i64 (B : Int))) := fun w' hw => (HX.out.next hw).cell 15
    go_enter Try.func45, Try.ntmps45
    go_wp2_with fail
    clear c19
    refine wp_region_quiet (C := fun w' => Below w.heap.size w w') (by kernel_rfl) (by kernel_rfl) ((Below.refl _ _).drew) ?_
    simp only []
    unfold wpQuiet
    generalize hK : wpQuiet Try.prog _ _ _ _ = K
    go_simp
    refine ⟨_, fun _ _ => rfl, ?_⟩
    subst hK
    unfold wpQuiet
    generalize hK : wpQuiet Try.prog _ _ _ _ = K
    go_simp
    refine ⟨_, fun _ _ => rfl, ?_⟩
    subst hK
    unfold wpQuiet
    generalize hK : wpQuiet Try.prog _ _ _ _ = K
    go_simp
    refine ⟨_, fun _ _ => rfl, ?_⟩
    subst hK
    unfold wpQuiet
    generalize hK : wpQuiet Try.prog _ _ _ _ = K
    rw [if_pos (by go_simp)]
    refine quiet_load3 _ _ _ rfl rfl H18.out ?_
    go_simp
    subst hK
    unfold wpQuiet
    generalize hK : wpQuiet Try.prog _ _ _ _ = K
    go_simp
    refine ⟨_, fun _ _ => rfl, ?_⟩
    subst hK
    unfold wpQuiet
    generalize hK : wpQuiet Try.prog _ _ _ _ = K
    go_simp
    refine ⟨_, fun _ _ => rfl, ?_⟩
    subst hK
    unfold wpQuiet
    generalize hK : wpQuiet Try.prog _ _ _ _ = K
    go_simp
    refine ⟨_, fun _ _ => rfl, ?_⟩
    subst hK
    unfold wpQuiet
    generalize hK : wpQuiet Try.prog _ _ _ _ = K
    rw [if_pos (by go_simp)]
    refine quiet_load3 _ _ _ rfl rfl H15.out ?_
    go_simp
    subst hK
    unfold wpQuiet
    generalize hK : wpQuiet Try.prog _ _ _ _ = K
    go_simp
    refine ⟨_, fun _ _ => rfl, ?_⟩
    subst hK
    refine wpQuiet_nil ?_
    intro W1 hb1
    have HX1 := Hid.intro' (HX.out.next hb1)
    have HM1 := Hid.intro' (Mv.below xb (.slice am ms.length cm) hb1)
    have HV1 := Hid.intro' (HM1.out.rl HV.out)
    clear hb1 H18 H15 HX HV
    by_cases hn : nd = B
    · have hnz : (nd : Int) = (B : Int) := by omega
      have d1 : W1.cell? ⟨xb, 19, none⟩ = some (.bool false) := HX1.out.cell 19
      have d2 := HX1.out.fr 19
      have HX2 := Hid.intro' (HX1.out.put 19 (.bool true) (x' := ⟨nd, true, pl, co, ms⟩) (vp' := vp) rfl rfl HX1.out.pl)
      have HM2 := Hid.intro' (HM1.out.trans (Mv.set (i := 19) (v := .bool true) W1))
      clear HX1 HM1
      go_wp2
      refine bodyPost_ret (results_none rfl _ _ _) rfl ?_
      exact ⟨rfl, vp, _, HM2.out, by rw [vis_b hn]; exact HX2.out⟩
    · have hnz : ¬ (nd : Int) = (B : Int) := by omega
      have hnb : nd < B := by have := HOK.out.nb; simp only at this; omega
      have d1 : W1.cell? ⟨xb, 18, none⟩ = some (.int .i64 (nd : Int)) := HX1.out.cell 18
      have d2 := HX1.out.fr 18
      have hw1 : IntKind.i64.wrap ((nd : Int) + 1) = (nd : Int) + 1 := IntWalk.i64_in _ (by omega)
      have HX2 := Hid.intro' (HX1.out.put 18 (.int .i64 ((nd : Int) + 1)) (x' := ⟨nd + 1, false, pl, co, ms⟩) (vp' := vp) rfl rfl HX1.out.pl)
      have HM2 := Hid.intro' (HM1.out.trans (Mv.set (i := 18) (v := .int .i64 ((nd : Int) + 1)) W1))
      have HV2 := Hid.intro' ((Mv.set (i := 18) (v := .int .i64 ((nd : Int) + 1)) W1).rl HV1.out)
      clear HX1 HM1 HV1
      generalize hW2 : W1.setCell ⟨xb, 18, none⟩ (.int .i64 ((nd : Int) + 1)) = W2 at HX2 HM2 HV2
      have HLF := Hid.intro' (rleft_any s (Dv xb (.slice am ms.length cm)) vc vw _ (k : Int) b W2 HX2.out.cs HX2.out.ws HV2.out (by omega) HLX.out)
      go_wp2_with (refine wpList_load27r rfl _ rfl xb s.st _ _ rfl HX2.out.range ?_)
      refine HLF.out.mono ?_
      rintro e W3 hLP
      obtain ⟨hb3, hout⟩ := hLP
      rcases hout with ⟨st', vl, hst, rfl, hol⟩ | ⟨hst, _⟩
      case inr =>
        rw [HBG.out] at hst
        cases hst
      obtain rfl : st = st' := by
        rw [HBG.out] at hst
        cases hst; rfl
      change OI W3 W2.heap.size vl (lfs s st) at hol
      have HX3 := Hid.intro' (HX2.out.next hb3)
      have HM3 := Hid.intro' (HM2.out.trans (Mv.below xb _ hb3))
      have HV3 := Hid.intro' ((Mv.below xb _ hb3).rl HV2.out)
      have HL3 : Hid (RI (Dv xb (.slice am ms.length cm)) W3 vl (lfs s st)) := hol.ri fun g hg => HX2.out.dv (hol.lt g hg).1
      have HLM : Hid (∀ x ∈ lfs s st, ∃ q : Nat, x = (q : Int) ∧ q < s.ws.length ∧ st[q]? = some false) := fun x hx => lfs_mem.1 hx
      have hLn : (lfs s st).length ≤ 128 := by have := lfk_length st s.ws.length; unfold lfs; omega
      obtain ⟨al, kl, rfl⟩ := hol.slice
      clear hol hb3 hst hW2 HLF HX2 HM2 HV2 d1 d2
      obtain ⟨L, HLD⟩ : ∃ L, Hid (lfs s st = L) := ⟨_, Hid.intro' rfl⟩
      rw [HLD.out] at HL3 HLM hLn ⊢
      by_cases hem : L = []
      · subst hem
        have HOM := Hid.intro' (HX3.out.ms.alloc (.cells #[.int .u8 2] 5))
        have HCM : Hid ((W3.alloc (.cells #[.int .u8 2] 5)).cell? ⟨W3.heap.size, 0, none⟩ = some (.int .u8 2)) := (OY.lit (B := 0) W3 [2] (Nat.zero_le _) (by unfold maxLen; simp)).cell (i := 0) rfl
        have c20 : W3.cell? ⟨xb, 20, none⟩ = some (.slice am ms.length cm) := HX3.out.cell 20
        have hmsl : ms.length ≤ 2000000 := by have := HML.out; omega
        go_wp2_with (at_builtin; refine wpList_appY rfl _ _ rfl 0 _ ms rfl HOM.out W3.heap.size 1 2 rfl HCM.out hmsl (Nat.zero_le _) ?_)
        intro g5 c5 W5 ho5 hg5 hat5 hlt5
        have hal := (Below.refl W3.heap.size W3).alloc (Nat.le_refl _) (.cells #[.int .u8 2] 5)
        have hXA := HX3.out.next hal
        have hmk := hXA.mark (m := 2) hg5 (q := g5) (vm' := .slice (some ⟨g5, 0, none⟩) (ms.length + 1) c5) rfl (hat5.imp id fun e => by rw [e]; simp) ho5
        have d1 : W5.cell? ⟨xb, 20, none⟩ = some (.slice am ms.length cm) := (hXA.grown hg5 20).1
        have d2 : W5.frozen? ⟨xb, 20, none⟩ = false := (hXA.grown hg5 20).2
        have HX6 := Hid.intro' hmk.1
        have hm6 := (Mv.below xb (.slice am ms.length cm) hal).trans hmk.2
        have HM6 := Hid.intro' (HM3.out.trans hm6)
        have HV6 := Hid.intro' (hm6.rl HV3.out)
        clear HOM HCM c20 ho5 hg5 hat5 hlt5 hal hXA hmk hm6 HX3 HM3 HV3
        generalize hW6 : W5.setCell ⟨xb, 20, none⟩ (.slice (some ⟨g5, 0, none⟩) (ms.length + 1) c5) = W6 at HX6 HM6 HV6
        have HCO := Hid.intro' (rcost_any s (Dv xb (.slice (some ⟨g5, 0, none⟩) (ms.length + 1) c5)) vc vw _ b W6 HX6.out.cs HX6.out.ws HV6.out (bgn_leaf HBG.out HLD.out) HLX.out)
        go_wp2_with (refine wpList_load27r rfl _ rfl xb s.st _ _ rfl HX6.out.range ?_)
        refine HCO.out.mono ?_
        rintro e W7 ⟨rfl, hb7⟩
        have HX7 := Hid.intro' (HX6.out.next hb7)
        have HM7 := Hid.intro' (HM6.out.trans (Mv.below xb _ hb7))
        have HV7 := Hid.intro' ((Mv.below xb _ hb7).rl HV6.out)
        clear HX6 HM6 HV6 hb7 hW6 d1 d2 HCO
        obtain ⟨ct, HCT⟩ : ∃ c, Hid (RM.cst s.st s.ws s.cs b = c) := ⟨_, Hid.intro' rfl⟩
        rw [HCT.out]
        have d1 : W7.cell? ⟨xb, 17, none⟩ = some (.int .i64 co) := HX7.out.cell 17
        have d2 := HX7.out.fr 17
        by_cases hc : ct < co
        · have HX8 := Hid.intro' (HX7.out.put 17 (.int .i64 ct) (x' := ⟨nd + 1, false, pl, ct, ms ++ [2]⟩) (vp' := vp) rfl rfl HX7.out.pl)
          have HM8 := Hid.intro' (HM7.out.trans (Mv.set (i := 17) (v := .int .i64 ct) W7))
          have HV8 := Hid.intro' ((Mv.set (i := 17) (v := .int .i64 ct) W7).rl HV7.out)
          generalize hW8 : W7.setCell ⟨xb, 17, none⟩ (.int .i64 ct) = W8 at HX8 HM8 HV8
          have d3 : W8.cell? ⟨xb, 16, none⟩ = some vp := HX8.out.cell 16
          have d4 := HX8.out.fr 16
          have HX9 := Hid.intro' (HX8.out.put 16 (.slice av b.length kv) (x' := ⟨nd + 1, false, b, ct, ms ++ [2]⟩) (vp' := .slice av b.length kv) rfl rfl HV8.out)
          have HM9 := Hid.intro' (HM8.out.trans (Mv.set (i := 16) (v := .slice av b.length kv) W8))
          clear HX7 HM7 HV7 HX8 HM8 HV8
          go_wp2
          refine bodyPost_ret (results_none rfl _ _ _) rfl ?_
          exact ⟨rfl, _, _, HM9.out, by rw [vis_leaf1 hn HLD.out (by rw [HCT.out]; exact hc), HCT.out]; exact HX9.out⟩
        · clear HV7
          go_wp2
          refine bodyPost_ret (results_none rfl _ _ _) rfl ?_
          exact ⟨rfl, _, _, HM7.out, by rw [vis_leaf2 hn HLD.out (by rw [HCT.out]; omega)]; exact HX7.out⟩
      · have hnl : ¬ (L.length : Int) = 0 := fun e => hem (List.length_eq_zero_iff.1 (by omega))
        obtain ⟨T, HT⟩ : ∃ T, Hid (lsv s k b st = T) := ⟨_, Hid.intro' rfl⟩
        have HRG : Hid (∀ w', Below W3.heap.size W3 w' → w'.rangeAt xb 0 (nv s.st vc vw)) := fun w' hw => (HX3.out.next hw).range
        have H17 : Hid (∀ w', Below W3.heap.size W3 w' → w'.cell? ⟨xb, 17, none⟩ = some (.int .i64 co)) := fun w' hw => (HX3.out.next hw).cell 17
        have HLE : Hid (∀ w', Below W3.heap.size W3 w' → Calls Try.prog 15 #[.agg (nv s.st vc vw).toArray, .int .i64 (k : Int), .slice av b.length kv, .slice al L.length kl] w' fun e w'' => e = .returned (.int .i64 T) ∧ Below w'.heap.size w' w'') := fun w' hw =>
          rleast_any s (Dv xb (.slice am ms.length cm)) vc vw _ _ k b st w' (HX3.out.next hw).cs (HX3.out.next hw).ws (HV3.out.below' hw) (by rw [show lfk st s.ws.length = L from HLD.out]; exact HL3.out.below' hw) HBG.out HLX.out T HT
        go_wp2_with fail
        refine wp_region_quiet (C := fun w' => Below W3.heap.size W3 w') (by kernel_rfl) (by kernel_rfl) ((Below.refl _ _).drew) ?_
        simp only []
        unfold wpQuiet
        generalize hK : wpQuiet Try.prog _ _ _ _ = K
        go_simp
        refine ⟨_, fun _ _ => rfl, ?_⟩
        subst hK
        unfold wpQuiet
        generalize hK : wpQuiet Try.prog _ _ _ _ = K
        go_simp
        refine ⟨_, fun _ _ => rfl, ?_⟩
        subst hK
        unfold wpQuiet
        generalize hK : wpQuiet Try.prog _ _ _ _ = K
        go_simp
        refine ⟨_, fun _ _ => rfl, ?_⟩
        subst hK
        unfold wpQuiet
        generalize hK : wpQuiet Try.prog _ _ _ _ = K
        rw [if_pos (by go_simp)]
        refine quiet_load27r _ xb s.st _ _ rfl rfl HRG.out ?_
        go_simp
        subst hK
        unfold wpQuiet
        generalize hK : wpQuiet Try.prog _ _ _ _ = K
        go_simp
        refine ⟨_, fun _ _ => rfl, ?_⟩
        subst hK
        unfold wpQuiet
        generalize hK : wpQuiet Try.prog _ _ _ _ = K
        go_simp
        refine ⟨_, fun _ _ => rfl, ?_⟩
        subst hK
        unfold wpQuiet
        generalize hK : wpQuiet Try.prog _ _ _ _ = K
        go_simp
        refine ⟨_, fun _ _ => rfl, ?_⟩
        subst hK
        unfold wpQuiet
        generalize hK : wpQuiet Try.prog _ _ _ _ = K
        go_simp
        refine ⟨_, fun w' hw => (HLE.out w' hw).mono fun e w'' hh => ⟨hh.1, below_class hw hh.2⟩, ?_⟩
        subst hK
        unfold wpQuiet
        generalize hK : wpQuiet Try.prog _ _ _ _ = K
        go_simp
        refine ⟨_, fun _ _ => rfl, ?_⟩
        subst hK
        unfold wpQuiet
        generalize hK : wpQuiet Try.prog _ _ _ _ = K
        go_simp
        refine ⟨_, fun _ _ => rfl, ?_⟩
        subst hK
        unfold wpQuiet
        generalize hK : wpQuiet Try.prog _ _ _ _ = K
        go_simp
        refine ⟨_, fun _ _ => rfl, ?_⟩
        subst hK
        unfold wpQuiet
        generalize hK : wpQuiet Try.prog _ _ _ _ = K
        rw [if_pos (by go_simp)]
        refine quiet_load3 _ _ _ rfl rfl H17.out ?_
        go_simp
        subst hK
        unfold wpQuiet
        generalize hK : wpQuiet Try.prog _ _ _ _ = K
        go_simp
        refine ⟨_, fun _ _ => rfl, ?_⟩
        subst hK
        refine wpQuiet_nil ?_
        intro W4 hb4
        have HX4 := Hid.intro' (HX3.out.next hb4)
        have HM4 := Hid.intro' (HM3.out.trans (Mv.below xb _ hb4))
        have HV4 := Hid.intro' ((Mv.below xb _ hb4).rl HV3.out)
        have HL4 := Hid.intro' ((Mv.below xb _ hb4).ri HL3.out)
        clear hb4 HRG H17 HLE HX3 HM3 HV3 HL3
        by_cases hcut : co ≤ T
        · clear HL4
          have HOM := Hid.intro' (HX4.out.ms.alloc (.cells #[.int .u8 0] 5))
          have HCM : Hid ((W4.alloc (.cells #[.int .u8 0] 5)).cell? ⟨W4.heap.size, 0, none⟩ = some (.int .u8 0)) := (OY.lit (B := 0) W4 [0] (Nat.zero_le _) (by unfold maxLen; simp)).cell (i := 0) rfl
          have c20 : W4.cell? ⟨xb, 20, none⟩ = some (.slice am ms.length cm) := HX4.out.cell 20
          have hmsl : ms.length ≤ 2000000 := by have := HML.out; omega
          go_wp2_with (at_builtin; refine wpList_appY rfl _ _ rfl 0 _ ms rfl HOM.out W4.heap.size 1 0 rfl HCM.out hmsl (Nat.zero_le _) ?_)
          intro g5 c5 W5 ho5 hg5 hat5 hlt5
          have hal := (Below.refl W4.heap.size W4).alloc (Nat.le_refl _) (.cells #[.int .u8 0] 5)
          have hXA := HX4.out.next hal
          have hmk := hXA.mark (m := 0) hg5 (q := g5) (vm' := .slice (some ⟨g5, 0, none⟩) (ms.length + 1) c5) rfl (hat5.imp id fun e => by rw [e]; simp) ho5
          have d1 : W5.cell? ⟨xb, 20, none⟩ = some (.slice am ms.length cm) := (hXA.grown hg5 20).1
          have d2 : W5.frozen? ⟨xb, 20, none⟩ = false := (hXA.grown hg5 20).2
          have HX6 := Hid.intro' hmk.1
          have hm6 := (Mv.below xb (.slice am ms.length cm) hal).trans hmk.2
          have HM6 := Hid.intro' (HM4.out.trans hm6)
          have HV6 := Hid.intro' (hm6.rl HV4.out)
          clear HOM HCM c20 ho5 hg5 hat5 hlt5 hal hXA hmk hm6 HX4 HM4 HV4
          generalize hW6 : W5.setCell ⟨xb, 20, none⟩ (.slice (some ⟨g5, 0, none⟩) (ms.length + 1) c5) = W6 at HX6 HM6 HV6
          clear HV6
          go_wp2
          refine bodyPost_ret (results_none rfl _ _ _) rfl ?_
          exact ⟨rfl, _, _, HM6.out, by rw [vis_cut hn (by rw [HLD.out]; exact hem) (by rw [HT.out]; exact hcut)]; exact HX6.out⟩
        · have HGO := Hid.intro' (vis_go (s := s) (B := B) (f := f) (k := k) (b := b) (pl := pl) (ms := ms) (st := st) (co := co) hn (by rw [HLD.out]; exact hem) (by rw [HT.out]; exact hcut))
          have HOM := Hid.intro' (HX4.out.ms.alloc (.cells #[.int .u8 1] 5))
          have HCM : Hid ((W4.alloc (.cells #[.int .u8 1] 5)).cell? ⟨W4.heap.size, 0, none⟩ = some (.int .u8 1)) := (OY.lit (B := 0) W4 [1] (Nat.zero_le _) (by unfold maxLen; simp)).cell (i := 0) rfl
          have c20 : W4.cell? ⟨xb, 20, none⟩ = some (.slice am ms.length cm) := HX4.out.cell 20
          have hmsl : ms.length ≤ 2000000 := by have := HML.out; omega
          go_wp2_with (at_builtin; refine wpList_appY rfl _ _ rfl 0 _ ms rfl HOM.out W4.heap.size 1 1 rfl HCM.out hmsl (Nat.zero_le _) ?_)
          intro g5 c5 W5 ho5 hg5 hat5 hlt5
          have hal := (Below.refl W4.heap.size W4).alloc (Nat.le_refl _) (.cells #[.int .u8 1] 5)
          have hXA := HX4.out.next hal
          have hmk := hXA.mark (m := 1) hg5 (q := g5) (vm' := .slice (some ⟨g5, 0, none⟩) (ms.length + 1) c5) rfl (hat5.imp id fun e => by rw [e]; simp) ho5
          have d1 : W5.cell? ⟨xb, 20, none⟩ = some (.slice am ms.length cm) := (hXA.grown hg5 20).1
          have d2 : W5.frozen? ⟨xb, 20, none⟩ = false := (hXA.grown hg5 20).2
          have HX6 := Hid.intro' hmk.1
          have hm6 := (Mv.below xb (.slice am ms.length cm) hal).trans hmk.2
          have HM6 := Hid.intro' (HM4.out.trans hm6)
          have HV6 := Hid.intro' (hm6.rl HV4.out)
          have HL6 := Hid.intro' (hm6.ri HL4.out)
          clear HOM HCM c20 ho5 hg5 hat5 hlt5 hal hXA hmk hm6 HX4 HM4 HV4 HL4
          generalize hW6 : W5.setCell ⟨xb, 20, none⟩ (.slice (some ⟨g5, 0, none⟩) (ms.length + 1) c5) = W6 at HX6 HM6 HV6 HL6
          go_wp2_with fail
          clear hW6 d1 d2
          have HOK6 : Hid (Sxo s B ⟨nd + 1, false, pl, co, ms ++ [1]⟩) := ⟨HOK.out.fe, HOK.out.co, hnb, fun e => by cases e⟩
          have HML6 : Hid ((⟨nd + 1, false, pl, co, ms ++ [1]⟩ : Sx).marks.length = (⟨nd + 1, false, pl, co, ms ++ [1]⟩ : Sx).nodes) := by
            show (ms ++ [1]).length = nd + 1
            rw [List.length_append]
            exact congrArg (· + 1) HML.out
          rw [HLD.out] at HGO
          generalize (⟨nd + 1, false, pl, co, ms ++ [1]⟩ : Sx) = x1 at HX6 HGO HOK6 HML6
          generalize Value.slice (some ⟨g5, 0, none⟩) (ms.length + 1) c5 = vm6 at HX6 HM6 HV6 HL6
          clear HOK HML
          go_loopw [9] (fun iv wr => ∃ (i : Nat) (vp' vm' : Value), i ≤ L.length ∧ iv = .int .i64 (i : Int) ∧ Hid (XS wr xb s vc vw B (kids s (vis s B f) k b st (L.take i) x1) vp' vm') ∧ Hid (Mv xb vm6 vm' W6 wr) ∧ Hid (Sxo s B (kids s (vis s B f) k b st (L.take i) x1)) ∧ Hid ((kids s (vis s B f) k b st (L.take i) x1).marks.length = (kids s (vis s B f) k b st (L.take i) x1).nodes)) (fun iv _ => L.length - (intOf iv).toNat)
          case atStart => exact ⟨0, _, _, Nat.zero_le _, rfl, HX6, Mv.refl _ _ _, HOK6, HML6⟩
          case round =>
            obtain ⟨i, vp1, vm1, hi, rfl, HX, HM, HOK1, HML1⟩ := hrel
            have HV := Hid.intro' (HM.out.rl HV6.out)
            have HL := Hid.intro' (HM.out.ri HL6.out)
            by_cases hlt : i < L.length
            · have hiz : (i : Int) < (L.length : Int) := by omega
              obtain ⟨z, hz⟩ : ∃ z, L[i]? = some z := ⟨_, List.getElem?_eq_getElem hlt⟩
              obtain ⟨q, rfl, hqn, hqs⟩ := HLM.out z (List.mem_of_getElem? hz)
              obtain ⟨y, hy⟩ : ∃ y, s.ws[q]? = some y := ⟨_, List.getElem?_eq_getElem hqn⟩
              obtain ⟨n8, hrs⟩ := rgt_rs HBS.out.rg
              obtain ⟨m, hm, hym⟩ := hrs.mm.eq q y hy
              have hm8 : m ≤ 100000 := by
                have h1 := hrs.lt m (List.mem_of_getElem? hm)
                have h2 : 2 ^ n8 ≤ 2 ^ 8 := Nat.pow_le_pow_right (by omega) hrs.n8
                omega
              have HMY : Hid (mayk s k (q : Int) = PM.bt m k) := by
                show _ = _
                unfold mayk; rw [Int.toNat_natCast, hm]; rfl
              have HTS : Hid (kids s (vis s B f) k b st (L.take (i + 1)) x1 = if mayk s k (q : Int) = true then vis s B f k (PM.add b k (q : Int)) (st.set q true) (kids s (vis s B f) k b st (L.take i) x1) else kids s (vis s B f) k b st (L.take i) x1) := by
                show _ = _
                rw [take_snoc hz, kids_append]; rfl
              have HQS := Hid.intro' hqs
              have HZ := Hid.intro' hz
              obtain ⟨gl, ol, rfl, hcl⟩ := HL.out.at hz
              have HRG : Hid (∀ w', Below wr.heap.size wr w' → w'.rangeAt xb 0 (nv s.st vc vw)) := fun w' hw => (HX.out.next hw).range
              have HLC : Hid (∀ w', Below wr.heap.size wr w' → w'.cell? ⟨gl, ol + i, none⟩ = some (.int .i64 (q : Int))) := fun w' hw => (hw.cell (p := ⟨gl, ol + i, none⟩) (cell_lt hcl)).trans hcl
              have HMAY : Hid (∀ w', Below wr.heap.size wr w' → Calls Try.prog 35 #[.agg (nv s.st vc vw).toArray, .int .i64 (q : Int), .int .i64 (k : Int)] w' fun e w'' => e = .returned (.bool (PM.bt m k)) ∧ Below w'.heap.size w' w'') := fun w' hw => may_any s (Dv xb vm1) _ _ w' (HX.out.next hw).ws q k m y hy hym hm8 (by omega)
              clear hz hy hm hym hqs hrs hcl
              go_wp2_with fail
              refine wp_region_quiet (C := fun w' => Below wr.heap.size wr w') (by kernel_rfl) (by kernel_rfl) ((Below.refl _ _).drew) ?_
              simp only []
              unfold wpQuiet
              generalize hK : wpQuiet Try.prog _ _ _ _ = K
              go_simp
              refine ⟨_, fun _ _ => rfl, ?_⟩
              subst hK
              unfold wpQuiet
              generalize hK : wpQuiet Try.prog _ _ _ _ = K
              go_simp
              refine ⟨_, fun _ _ => rfl, ?_⟩
              subst hK
              unfold wpQuiet
              generalize hK : wpQuiet Try.prog _ _ _ _ = K
              go_simp
              refine ⟨_, fun _ _ => rfl, ?_⟩
              subst hK
              unfold wpQuiet
              generalize hK : wpQuiet Try.prog _ _ _ _ = K
              rw [if_pos (by go_simp)]
              refine quiet_load27r _ xb s.st _ _ rfl rfl HRG.out ?_
              go_simp
              subst hK
              unfold wpQuiet
              generalize hK : wpQuiet Try.prog _ _ _ _ = K
              go_simp
              refine ⟨_, fun _ _ => rfl, ?_⟩
              subst hK
              unfold wpQuiet
              generalize hK : wpQuiet Try.prog _ _ _ _ = K
              go_simp
              refine ⟨_, fun _ _ => rfl, ?_⟩
              subst hK
              unfold wpQuiet
              generalize hK : wpQuiet Try.prog _ _ _ _ = K
              rw [if_pos (by go_simp)]
              refine quiet_ixI _ _ rfl rfl rfl hlt ?_
              go_simp
              subst hK
              unfold wpQuiet
              generalize hK : wpQuiet Try.prog _ _ _ _ = K
              rw [if_pos (by go_simp)]
              refine quiet_load3 _ _ _ rfl rfl HLC.out ?_
              go_simp
              subst hK
              unfold wpQuiet
              generalize hK : wpQuiet Try.prog _ _ _ _ = K
              go_simp
              refine ⟨_, fun _ _ => rfl, ?_⟩
              subst hK
              unfold wpQuiet
              generalize hK : wpQuiet Try.prog _ _ _ _ = K
              go_simp
              refine ⟨_, fun w' hw => (HMAY.out w' hw).mono fun e w'' hh => ⟨hh.1, below_class hw hh.2⟩, ?_⟩
              subst hK
              refine wpQuiet_nil ?_
              intro W8 hb8
              have HX8 := Hid.intro' (HX.out.next hb8)
              have HM8 := Hid.intro' (HM.out.trans (Mv.below xb _ hb8))
              have HV8 := Hid.intro' ((Mv.below xb _ hb8).rl HV.out)
              have HLC8 := Hid.intro' (HLC.out W8 hb8)
              clear hb8 HRG HLC HMAY HX HM HV HL
              cases hbt : PM.bt m k with
              | false =>
                rw [HMY.out, hbt, if_neg (by simp)] at HTS
                clear hbt HV8 HLC8
                go_wp2
                go_roundw
                case rel => exact ⟨i + 1, vp1, vm1, by omega, by go_num, by rw [HTS.out]; exact HX8, HM8, by rw [HTS.out]; exact HOK1, by rw [HTS.out]; exact HML1⟩
                case measure => simp [intOf]; omega
              | true =>
                rw [HMY.out, hbt, if_pos rfl] at HTS
                rw [hbt] at HMY
                have hmk := mkL b.length (by omega)
                clear hbt
                go_wp2_with fail
                have HO0 : Hid (OW (W8.alloc (.cells (Array.replicate b.length (Value.slice none 0 0)) 36)) W8.heap.size W8.heap.size (List.replicate b.length (Value.slice none 0 0)) (cpk b 0)) := by
                  have := OW.make (B := W8.heap.size) W8 b.length (Nat.le_refl _)
                  rw [List.toArray_replicate] at this
                  rw [cpk_zero]
                  exact this
                have HB0 := Hid.intro' ((Below.refl W8.heap.size W8).alloc (Nat.le_refl _) (.cells (Array.replicate b.length (Value.slice none 0 0)) 36))
                clear hmk
                generalize W8.alloc (.cells (Array.replicate b.length (Value.slice none 0 0)) 36) = Y at HO0 HB0 ⊢
                go_loopw [11] (fun iv wr => ∃ (c : Nat) (us : List Value), c ≤ b.length ∧ iv = .int .i64 (c : Int) ∧ Hid (OW wr W8.heap.size W8.heap.size us (cpk b c)) ∧ Hid (Below W8.heap.size W8 wr)) (fun iv _ => b.length - (intOf iv).toNat)
                case atStart => exact ⟨0, _, Nat.zero_le _, rfl, HO0, HB0⟩
                case round =>
                  clear HO0 HB0
                  obtain ⟨c, us, hc, rfl, HO, HBC⟩ := hrel
                  by_cases hcb : c < b.length
                  · have hcz : (c : Int) < (b.length : Int) := by omega
                    obtain ⟨l, hl⟩ : ∃ l, b[c]? = some l := ⟨_, List.getElem?_eq_getElem hcb⟩
                    have hln : l.length ≤ 1000 := HLX.out l (List.mem_of_getElem? hl)
                    have HL := Hid.intro' hl
                    have hal := (Below.refl wr.heap.size wr).alloc (Nat.le_refl _) (.cells #[] 3)
                    have HBA := Hid.intro' hal
                    obtain ⟨gp, op, rfl, u, hcu, hru⟩ := ((HV8.out.below' HBC.out).below' hal).at hl
                    obtain ⟨au, ku, rfl, _, _⟩ := hru.form
                    have HRU := Hid.intro' hru
                    have HO1 : Hid (OI (wr.alloc (.cells #[] 3)) wr.heap.size (.slice (some ⟨wr.heap.size, 0, none⟩) 0 0) []) := OI.lit (B := wr.heap.size) wr [] (Nat.le_refl _) (Nat.zero_le _)
                    have HSA : Hid (wr.heap.size ≤ (wr.alloc (.cells #[] 3)).heap.size) := hal.size
                    clear hl hal hru
                    go_wp2_with (at_builtin; refine wpList_appendRI rfl _ _ rfl wr.heap.size _ _ [] l (Dv xb vm1) rfl HO1.out rfl HRU.out ?qa2 HSA.out ?_)
                    case qa2 => simp; omega
                    intro v9 W9 ho9 hg9
                    have hb9 := HBA.out.grown hg9 HSA.out (fun q hq => (HO1.out.lt q hq).1)
                    have hon := HO.out.next hb9
                    obtain ⟨uc, huc⟩ : ∃ z, us[c]? = some z := ⟨_, List.getElem?_eq_getElem (by rw [HO.out.len, cpk_length hc]; exact hcb)⟩
                    have d1 : W9.cell? ⟨W8.heap.size, c, none⟩ = some uc := (blk_cell hon.hl c).trans huc
                    have d2 : W9.frozen? ⟨W8.heap.size, c, none⟩ = false := blk_fr hon.hl c
                    have hpt := HO.out.put (c := c) (u' := v9) (l := l) (by rw [cpk_length hc]; exact hcb) hb9 (fun q hq => (OI.lt ho9 q hq).1) (OI.mono ho9 HBC.out.size)
                    rw [cpk_succ HL.out] at hpt
                    have HOP := Hid.intro' hpt
                    have HBP := Hid.intro' ((below_class HBC.out hb9).setCell (p := ⟨W8.heap.size, c, none⟩) (Nat.le_refl _) v9)
                    obtain ⟨a9, c9, rfl⟩ := OI.slice ho9
                    clear ho9 hg9 hb9 hon huc hpt hcu HO HBC HBA HO1 HSA HRU
                    go_wp2
                    go_roundw
                    case rel => exact ⟨c + 1, _, by omega, by go_num, HOP, HBP⟩
                    case measure => simp [intOf]; omega
                  · have hcz : ¬ (c : Int) < (b.length : Int) := by omega
                    have hce : c = b.length := by omega
                    rw [hce, cpk_end] at HO
                    have hkz : (k : Int) < (b.length : Int) := by omega
                    obtain ⟨l, hl⟩ : ∃ l, b[k]? = some l := ⟨_, List.getElem?_eq_getElem hkl⟩
                    obtain ⟨u, hu⟩ : ∃ u, us[k]? = some u := ⟨_, List.getElem?_eq_getElem (by rw [HO.out.len]; exact hkl)⟩
                    have hln : l.length ≤ 1000 := HLX.out l (List.mem_of_getElem? hl)
                    have ou := HO.out.li k u l hu hl
                    obtain ⟨au, ku, rfl⟩ := ou.slice
                    have HL := Hid.intro' hl
                    have HU := Hid.intro' hu
                    clear hl hu hce
                    go_wp2_with fail
                    have hbd := (Below.refl wr.heap.size wr).drew
                    have hal := hbd.alloc (Nat.le_refl _) (.cells #[.int .i64 (q : Int)] 3)
                    have HOA := Hid.intro' (ou.below' hal)
                    have HQA := Hid.intro' (HO.out.next hal)
                    have HBA := Hid.intro' (below_class HBC.out hal)
                    have HCX : Hid ((wr.drew.alloc (.cells #[.int .i64 (q : Int)] 3)).cell? ⟨wr.drew.heap.size, 0, none⟩ = some (.int .i64 (q : Int))) := (OI.lit (B := 0) wr.drew [(q : Int)] (Nat.zero_le _) (by unfold maxLen; simp)).cell (i := 0) rfl
                    have k1 : wr.drew.cell? ⟨W8.heap.size, k, none⟩ = some (.slice au l.length ku) := (blk_cell (HO.out.next hbd).hl k).trans HU.out
                    have k2 : (wr.drew.alloc (.cells #[.int .i64 (q : Int)] 3)).cell? ⟨W8.heap.size, k, none⟩ = some (.slice au l.length ku) := (blk_cell HQA.out.hl k).trans HU.out
                    have k3 : wr.drew.cell? ⟨gl, ol + i, none⟩ = some (.int .i64 (q : Int)) := ((HBC.out.trans (hbd.mono HBC.out.size)).cell (p := ⟨gl, ol + i, none⟩) (cell_lt HLC8.out)).trans HLC8.out
                    have k4 : (wr.alloc (.cells #[.int .i64 (q : Int)] 3)).drew.cell? ⟨W8.heap.size, k, none⟩ = some (.slice au l.length ku) := k2
                    have k5 : (wr.alloc (.cells #[.int .i64 (q : Int)] 3)).cell? ⟨W8.heap.size, k, none⟩ = some (.slice au l.length ku) := k2
                    have hsz : W8.heap.size ≤ wr.heap.size := HBC.out.size
                    have hne : some W8.heap.size ≠ (Value.slice au l.length ku).ownBlock := fun e => HO.out.ne k _ HU.out e.symm
                    clear ou hbd hal HO HBC
                    go_region_law ((refine step_appI (by rfl) (.tmp 147) (.tmp 152) (by rfl) W8.heap.size (l := l) (y := (q : Int)) (by rfl) HOA.out hln (by rfl) HCX.out (by simp; omega) ?_; intro g' cap' W10 ho10 hg10 hat10; have p10 := (hg10.block W8.heap.size HQA.out.lt hne).trans HQA.out.hl; have q1 : W10.cell? ⟨W8.heap.size, k, none⟩ = some (.slice au l.length ku) := (blk_cell p10 k).trans HU.out; have q2 : W10.frozen? ⟨W8.heap.size, k, none⟩ = false := blk_fr p10 k))
                    all_goals
                      have hadd := HQA.out.add HU.out HL.out (x := (q : Int)) hg10 (q := g') (u' := .slice (some ⟨g', 0, none⟩) (l.length + 1) cap') rfl hat10 ho10
                      have hb10 := (HBA.out.grown hg10 (by simp; omega) (fun j hj => (HOA.out.lt j hj).1)).setCell (p := ⟨W8.heap.size, k, none⟩) (Nat.le_refl _) (.slice (some ⟨g', 0, none⟩) (l.length + 1) cap')
                      have HX10 := Hid.intro' (HX8.out.next hb10)
                      have HM10 := Hid.intro' (HM8.out.trans (Mv.below xb _ hb10))
                      have hplen : (PM.add b k (q : Int)).length = b.length := by unfold PM.add; rw [List.length_set]
                      have hrl := hadd.rl (D := Dv xb vm1) fun j hj => HX8.out.dv hj
                      rw [hplen] at hrl
                      have HP10 := Hid.intro' hrl
                      clear hadd hb10 hrl ho10 hg10 hat10 p10 q1 q2 k1 k2 k3 k4 k5 HOA HQA HBA HCX HX8 HM8 HV8 HLC8
                      generalize W10.setCell ⟨W8.heap.size, k, none⟩ (.slice (some ⟨g', 0, none⟩) (l.length + 1) cap') = W11 at HX10 HM10 HP10 ⊢
                      have hlf := PM.lf_set HQS.out
                      have hlf8 : PM.lf st ≤ 128 := by have h1 : PM.lf st ≤ st.length := List.count_le_length; have := HBS.out.sl; omega
                      have hbg := bgn_add HBG.out hqn HQS.out HMY.out
                      have HR := Hid.intro' (IH.out k (PM.add b k (q : Int)) (st.set q true) _ W11 (.slice (some ⟨W8.heap.size, 0, none⟩) b.length b.length) vp1 vm1 (by rw [hplen]; have := HF.out; omega) hbg (fun l' hl' => by
                        have := add_max (n := 128 - PM.lf st) (fun l'' hl'' => by have := HLL.out l'' hl''; omega) l' hl'
                        omega) HOK1.out HML1.out HX10.out HP10.out)
                      have HOK2 := Hid.intro' (vis_ok (s := s) (B := B) f _ hbg HOK1.out)
                      have HML2 := Hid.intro' (vis_ml (s := s) (B := B) f k (PM.add b k (q : Int)) (st.set q true) _ HML1.out)
                      rw [← HTS.out] at HOK2 HML2 HR
                      clear hlf hlf8 hbg hplen
                      go_wp2_with fail
                      refine HR.out.mono ?_
                      rintro e W12 ⟨rfl, vp2, vm2, hm12, hx12⟩
                      have HX12 := Hid.intro' hx12
                      have HM12 := Hid.intro' (HM10.out.trans hm12)
                      clear hm12 hx12 HR HX10 HM10 HP10
                      go_wp2
                      go_roundw
                      case rel => exact ⟨i + 1, vp2, vm2, by omega, by go_num, HX12, HM12, HOK2, HML2⟩
                      case measure => simp [intOf]; omega
            · have hiz : ¬ (i : Int) < (L.length : Int) := by omega
              have hie : L.take i = L := List.take_of_length_le (by omega)
              rw [hie] at HX HOK1 HML1
              by_cases hk1 : k + 1 < b.length
              · have hk1z : (k : Int) + 1 < (b.length : Int) := by omega
                have hwk : IntKind.i64.wrap ((k : Int) + 1) = (k : Int) + 1 := IntWalk.i64_in _ (by omega)
                have hcast : ((k + 1 : Nat) : Int) = (k : Int) + 1 := by omega
                have HR := Hid.intro' (IH.out (k + 1) b st _ wr _ vp1 vm1 (by have := HF.out; omega) (bgn_next HBG.out hk1) HLL.out HOK1.out HML1.out HX.out HV.out)
                rw [hcast] at HR
                clear hcast
                go_wp2_with fail
                refine HR.out.mono ?_
                rintro e W9 ⟨rfl, vp2, vm2, hm9, hx9⟩
                have HE : Hid (Mv xb (.slice am ms.length cm) vm2 w W9 ∧ XS W9 xb s vc vw B (vis s B (f + 1) k b st ⟨nd, false, pl, co, ms⟩) vp2 vm2) := by
                  refine ⟨(HM6.out.trans HM.out).trans hm9, ?_⟩
                  rw [HGO.out]
                  unfold nxt
                  rw [if_pos hk1]
                  exact hx9
                clear hm9 hx9 HR HX HM HV HL HOK1 HML1
                go_wp2
                go_end0
                exact ⟨rfl, vp2, vm2, HE.out⟩
              · have hk1z : ¬ (k : Int) + 1 < (b.length : Int) := by omega
                have hwk : IntKind.i64.wrap ((k : Int) + 1) = (k : Int) + 1 := IntWalk.i64_in _ (by omega)
                have HE : Hid (Mv xb (.slice am ms.length cm) vm1 w wr ∧ XS wr xb s vc vw B (vis s B (f + 1) k b st ⟨nd, false, pl, co, ms⟩) vp1 vm1) := by
                  refine ⟨HM6.out.trans HM.out, ?_⟩
                  rw [HGO.out]
                  unfold nxt
                  rw [if_neg hk1]
                  exact HX.out
                clear HX HM HV HL HOK1 HML1
                go_wp2
                go_end0
                exact ⟨rfl, vp1, vm1, HE.out⟩

end Go.Proofs.Ytigjbgecdaljkag
