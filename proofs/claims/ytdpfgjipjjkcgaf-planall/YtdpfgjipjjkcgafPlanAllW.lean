/- PlanAll. -/
import Derived.Test.YtdpfgjipjjkcgafPlZ
import Derived.Test.YtdpfgjipjjkcgafPlR
import Derived.Test.YtdpfgjipjjkcgafPlX
import Derived.Test.YtdpfgjipjjkcgafPlW
import Derived.Deep.RegionWith
import Derived.ControlIn
namespace Go.Proofs.Ytdpfgjipjjkcgaf
open Go.RowKit Go.Shelf
attribute [local go_sem] Oper.semAt_some

/-- a new variable -/
theorem alloc1 (W : World) (v : Value) (t : TypeId) : (W.alloc (.cells #[v] t)).heap[W.heap.size]? = some (.cells [v].toArray t (0, 0)) := World.alloc_heap_new W _

/-- a sequence of plans that can't be -/
def Bad (s : Sn) (pre : List (List (List Int))) : Prop := (∃ x ∈ pre, fsb s x = false) ∨ ∃ q a b, pre = q ++ [a, b] ∧ PM.lx (PM.wr s.ws.length a) (PM.wr s.ws.length b) = false
theorem msk_len (s : Sn) : (msk s).length = s.ws.length := by unfold msk; rw [List.length_map]
theorem plans_fsb {s : Sn} {n : Nat} (hr : rgt s = true) (h : Rs s n) : ∀ x ∈ plansOf n (msk s), fsb s x = true := fun x hx => by
  obtain ⟨h1, h2⟩ := PM.gen_fz h.lt (by rw [lf_rep]; omega) (PM.Iv.zero n h.n1 (msk s)) x hx
  unfold fsb
  rw [hr, PM.feas_iff.2 h1, h.cl, h2]
  simp
theorem plans_sorted {s : Sn} {n : Nat} (h : Rs s n) : (plansOf n (msk s)).Pairwise fun p q => PM.lx (PM.wr s.ws.length p) (PM.wr s.ws.length q) = true := by
  have := PM.gen_sorted h.lt (by rw [lf_rep]; omega : n - 0 + PM.lf (List.replicate (msk s).length false) ≤ n + (msk s).length) (PM.Iv.zero n h.n1 (msk s))
  rw [msk_len] at this
  unfold plansOf
  rw [msk_len]
  exact this
theorem plans_count {s : Sn} {n : Nat} (h : Rs s n) : PM.kp n (fun _ => 1) (msk s) (List.replicate (msk s).length false) = (plansOf n (msk s)).length := by
  have := PM.gen_len h.lt (by rw [lf_rep]; omega : n - 0 + PM.lf (List.replicate (msk s).length false) ≤ n + (msk s).length) (PM.Iv.zero n h.n1 (msk s))
  unfold plansOf
  rw [this]
  congr 1
theorem notBad {s : Sn} {n : Nat} {pre : List (List (List Int))} (hr : rgt s = true) (h : Rs s n) (hp : pre <+: plansOf n (msk s)) : ¬ Bad s pre := by
  rintro (⟨x, hx, hf⟩ | ⟨q, a, b, rfl, hl⟩)
  · rw [plans_fsb hr h x (hp.subset hx)] at hf
    cases hf
  · have h1 := (plans_sorted h).sublist hp.sublist
    rw [List.pairwise_append] at h1
    have h2 := h1.2.1
    simp only [List.pairwise_cons, List.mem_cons, List.not_mem_nil, or_false] at h2
    rw [h2.1 b rfl] at hl
    cases hl

/-- the loop over the plans: how many, and the last -/
structure AI (s : Sn) (Wz : World) (lb nb K : Nat) (pre : List (List (List Int))) (F : Nat → Prop) (A : World) : Prop where
  ki : KI Wz (fun k => k = lb ∨ k = nb) F A
  n : A.heap[nb]? = some (.cells [.int .i64 (pre.length : Int)].toArray 3 (0, 0))
  lt : pre.length < K
  last : ∃ v, A.heap[lb]? = some (.cells [v].toArray 34 (0, 0)) ∧ ((pre = [] ∧ v = .slice none 0 0) ∨ ∃ q x, pre = q ++ [x] ∧ fsb s x = true ∧ RL (fun g => ¬ F g ∧ Wz.heap.size ≤ g) A v x ∧ Sm x)
theorem ai_stb {s : Sn} {Wz : World} {lb nb K : Nat} (hl : lb < Wz.heap.size) (hn : nb < Wz.heap.size) : Stb (AI s Wz lb nb K) := fun _ F F' A B h hk hF => by
  have hz := h.ki.1.size
  have lift : ∀ k, k < Wz.heap.size → B.heap[k]? = A.heap[k]? := fun k hk' => hk.block k (by omega) (h.ki.2 k hk')
  obtain ⟨v, h1, h2⟩ := h.last
  refine ⟨h.ki.stb hk hF, (lift nb hn).trans h.n, h.lt, v, (lift lb hl).trans h1, h2.imp id ?_⟩
  rintro ⟨q, x, e, hf, hr, hs⟩
  refine ⟨q, x, e, hf, ?_, hs⟩
  refine ((hr.mono (D' := fun g => ¬ F g ∧ Wz.heap.size ≤ g ∧ g < A.heap.size) fun g hg hlt _ => ⟨hg.1, hg.2, hlt⟩).keep hk.size (fun g hg hlt => hk.block g hlt hg.1)).mono fun g hg _ _ => ⟨fun hf' => ?_, hg.2.1⟩
  rcases hF g hf' with e | e
  · exact hg.1 e
  · have := hg.2.2
    omega
/-- how it is left -/
def AX (s : Sn) (Wz : World) (lb nb K : Nat) (c : Code) (pre : List (List (List Int))) (F : Nat → Prop) (A : World) : Prop :=
  (c = .ret ∧ Bad s pre) ∨ (c = .exit 2 ∧ pre.length = K ∧ KI Wz (fun k => k = lb ∨ k = nb) F A ∧ A.heap[nb]? = some (.cells [.int .i64 (K : Int)].toArray 3 (0, 0)))
theorem ax_stb {s : Sn} {Wz : World} {lb nb K : Nat} (hn : nb < Wz.heap.size) (c : Code) : Stb (AX s Wz lb nb K c) := fun _ F F' A B h hk hF => by
  rcases h with h | ⟨h1, h2, h3, h4⟩
  · exact .inl h
  · exact .inr ⟨h1, h2, h3.stb hk hF, (hk.block nb (by have := h3.1.size; omega) (h3.2 nb hn)).trans h4⟩

/-- a round's end: the plan is kept as the last, and counted -/
theorem ai_tail {s : Sn} {Wz A Wt : World} {lb nb K : Nat} {pre : List (List (List Int))} {F G : Nat → Prop} {v : Value} {x : List (List Int)} (hai : AI s Wz lb nb K pre F A) (hb : Below A.heap.size A Wt) (hrv : RL (fun g => ¬ F g ∧ Wz.heap.size ≤ g) A v x) (hsm : Sm x) (hf : fsb s x = true)
    (hl : lb < Wz.heap.size) (hn : nb < Wz.heap.size) (hne : lb ≠ nb) (hGl : ¬ G lb) (hGn : ¬ G nb) :
    Kept (fun k => F k ∨ G k) A ((Wt.setCell ⟨lb, 0, none⟩ v).setCell ⟨nb, 0, none⟩ (.int .i64 ((pre.length : Int) + 1))) ∧ Kept F A ((Wt.setCell ⟨lb, 0, none⟩ v).setCell ⟨nb, 0, none⟩ (.int .i64 ((pre.length : Int) + 1))) ∧
      (pre.length + 1 < K → AI s Wz lb nb K (pre ++ [x]) F ((Wt.setCell ⟨lb, 0, none⟩ v).setCell ⟨nb, 0, none⟩ (.int .i64 ((pre.length : Int) + 1)))) ∧
      (pre.length + 1 = K → AX s Wz lb nb K (.exit 2) (pre ++ [x]) F ((Wt.setCell ⟨lb, 0, none⟩ v).setCell ⟨nb, 0, none⟩ (.int .i64 ((pre.length : Int) + 1)))) := by
  have hz := hai.ki.1.size
  have hk : Kp (fun k => k = lb ∨ k = nb) A ((Wt.setCell ⟨lb, 0, none⟩ v).setCell ⟨nb, 0, none⟩ (.int .i64 ((pre.length : Int) + 1))) := ((Kp.ofBelow _ hb).set lb 0 v (fun _ => .inl rfl)).set nb 0 _ (fun _ => .inr rfl)
  have hki : KI Wz (fun k => k = lb ∨ k = nb) F ((Wt.setCell ⟨lb, 0, none⟩ v).setCell ⟨nb, 0, none⟩ (.int .i64 ((pre.length : Int) + 1))) := ⟨hai.ki.1.trans hk (fun _ _ h => h), hai.ki.2⟩
  have hFl := hai.ki.2 lb hl
  have hFn := hai.ki.2 nb hn
  obtain ⟨v0, h1, _⟩ := hai.last
  have n1 := (hb.block nb (by omega)).trans hai.n
  have l1 := (hb.block lb (by omega)).trans h1
  have n2 := blk_set ((Below.heap_setCell Wt ⟨lb, 0, none⟩ v nb (Ne.symm hne)).trans n1) 0 (.int .i64 ((pre.length : Int) + 1))
  have l2 := (Below.heap_setCell (Wt.setCell ⟨lb, 0, none⟩ v) ⟨nb, 0, none⟩ (.int .i64 ((pre.length : Int) + 1)) lb hne).trans (blk_set l1 0 v)
  refine ⟨Kept.ofKp hk ?_, Kept.ofKp hk ?_, fun hlt => ⟨hki, ?_, by simp; exact hlt, v, l2, .inr ⟨pre, x, rfl, hf, ?_, hsm⟩⟩, fun he => .inr ⟨rfl, by simp; exact he, hki, ?_⟩⟩
  · rintro k _ hf (rfl | rfl)
    · exact hf.elim hFl hGl
    · exact hf.elim hFn hGn
  · rintro k _ hf (rfl | rfl)
    · exact hFl hf
    · exact hFn hf
  · rw [n2, List.length_append]; rfl
  · exact (hrv.keep hk.size (fun g hg hlt => hk.block g hlt (by have := hg.2; rintro (rfl | rfl) <;> omega)))
  · rw [n2, ← he]; rfl

/-- behind the last region -/
def QC (rb D0 : Nat) (A : World) : Exit → Act → World → Prop
  | .normal, a', w' => a'.defers = [{ target := .collected D0, args := #[] }] ∧ a'.tmps[4]? = some (.pointer (some ⟨rb, 0, none⟩)) ∧ ∃ W7, Below A.heap.size A W7 ∧ w' = W7.setCell ⟨rb, 0, none⟩ (.bool true)
  | _, _, _ => False

set_option maxRecDepth 100000 in
set_option maxHeartbeats 8000000 in
theorem PlanAll_any (s : Sn) (D : Nat → Prop) (vc vw : Value) (most : Int) (w : World) (hc : R2 D w vc s.cs) (hw : R2 D w vw s.ws) :
    Calls Try.prog 3 #[.agg (nv s.st vc vw).toArray, .int .i64 most] w fun e w' => e = .returned (.bool true) ∧ Below w.heap.size w w' := by
  have hbx := ((Below.refl w.heap.size w).alloc (Nat.le_refl _) (.cells (nv s.st vc vw).toArray 27)).alloc (by simp) (.cells #[.bool false] 4)
  have HN := Hid.intro' ((NB.new w s.st vc vw).alloc (.cells #[.bool false] 4))
  have hrb := alloc1 (w.alloc (.cells (nv s.st vc vw).toArray 27)) (.bool false) 4
  rw [World.size_alloc] at hrb
  have HRB := Hid.intro' hrb
  have HB := Hid.intro' hbx
  have HC := Hid.intro' ((hc.mono (D' := fun g => g < w.heap.size) fun g _ h _ => h).below' hbx)
  have HW := Hid.intro' ((hw.mono (D' := fun g => g < w.heap.size) fun g _ h _ => h).below' hbx)
  obtain ⟨ac, kc, rfl, _, _⟩ := hc.form
  obtain ⟨aw, kw, rfl, _, _⟩ := hw.form
  refine (callsIn_wide (n := 0)).1 ?_
  refine callsIn_of_wp_marks Try.func3 rfl trivial ?_ rfl
  simp only [Try.ntmps3, List.size_toArray, List.length_cons, List.length_nil, Nat.reduceAdd, Nat.reduceSub, Array.replicate_succ, Array.replicate_zero, List.push_toArray, List.append_toArray, List.nil_append, List.cons_append]
  have hwf : ∀ k, Fence.wide.fn k := fun _ => trivial
  clear hc hw hbx hrb
  gi_wp2_with fail
  refine ⟨rfl, (callsIn_wide.2 (speaks_any _)).mono ?_⟩
  rintro e W1 ⟨rfl, hb1⟩
  have HB1 := Hid.intro' (below_class HB.out hb1)
  have HN1 := Hid.intro' (HN.out.below' hb1)
  have HC1 := Hid.intro' (HC.out.below' hb1)
  have HW1 := Hid.intro' (HW.out.below' hb1)
  have HR1 := Hid.intro' ((hb1.block _ (by simp)).trans HRB.out)
  clear hb1 HN HB HC HW HRB
  gi_wp2_with (refine wpListIn_load27g rfl _ rfl w.heap.size s.st _ _ rfl HN1.out ?_)
  refine ⟨rfl, (callsIn_wide.2 (great_any s _ _ _ _ [] W1 HC1.out HW1.out (RL.nil _ _))).mono ?_⟩
  rintro e W2 ⟨⟨g, rfl, hb2, hs⟩⟩
  have HB2 := Hid.intro' (below_class HB1.out hb2)
  have HN2 := Hid.intro' (HN1.out.below' hb2)
  have HC2 := Hid.intro' (HC1.out.below' hb2)
  have HW2 := Hid.intro' (HW1.out.below' hb2)
  have hr2 := (hb2.block (w.heap.size + 1) (by have := (Array.getElem?_eq_some_iff.1 HR1.out).1; exact this)).trans HR1.out
  have HR2 := Hid.intro' hr2
  have c14 : W2.cell? ⟨w.heap.size, 14, none⟩ = some (.slice aw s.ws.length kw) := HN2.out.cell 14
  have cr : W2.cell? ⟨w.heap.size + 1, 0, none⟩ = some (.bool false) := blk_cell hr2 0
  have fr := blk_fr hr2 0
  clear hb2 HN1 HB1 HC1 HW1 HR1 hr2
  cases g with
  | true =>
    clear hs
    gi_wp2
    have hc5 : (W2.setCell ⟨w.heap.size + 1, 0, none⟩ (.bool true)).cell? ⟨w.heap.size + 1, 0, none⟩ = some (.bool true) := blk_cell (blk_set HR2.out 0 _) 0
    refine ⟨.bool true, ?_, rfl, HB2.out.setCell (p := ⟨w.heap.size + 1, 0, none⟩) (by simp) (.bool true)⟩
    simp [results, Try.f3, go_sem, hc5]
  | false =>
    by_cases h5 : 5 < s.ws.length
    · have hz : decide ((5 : Int) < (s.ws.length : Int)) = true := decide_eq_true (by omega)
      clear hs h5
      gi_wp2
      have hc5 : (W2.setCell ⟨w.heap.size + 1, 0, none⟩ (.bool true)).cell? ⟨w.heap.size + 1, 0, none⟩ = some (.bool true) := blk_cell (blk_set HR2.out 0 _) 0
      refine ⟨.bool true, ?_, rfl, HB2.out.setCell (p := ⟨w.heap.size + 1, 0, none⟩) (by simp) (.bool true)⟩
      simp [results, Try.f3, go_sem, hc5]
    · have hz : decide ((5 : Int) < (s.ws.length : Int)) = false := decide_eq_false (by omega)
      have HS := Hid.intro' (hs rfl)
      have H5 : Hid (s.ws.length ≤ 5) := (by omega : s.ws.length ≤ 5)
      clear hs h5
      gi_wp2_with (refine wpListIn_load27g rfl _ rfl w.heap.size s.st _ _ rfl HN2.out ?_)
      refine ⟨rfl, (callsIn_wide.2 (rsnapRight_any s _ _ _ W2 HC2.out HW2.out)).mono ?_⟩
      rintro e W3 ⟨rfl, hb3⟩
      have HB3 := Hid.intro' (below_class HB2.out hb3)
      have HN3 := Hid.intro' (HN2.out.below' hb3)
      have HC3 := Hid.intro' (HC2.out.below' hb3)
      have HW3 := Hid.intro' (HW2.out.below' hb3)
      have hz3 : w.heap.size + 1 < W3.heap.size := Nat.lt_of_lt_of_le (Array.getElem?_eq_some_iff.1 HR2.out).1 hb3.size
      have HR3 := Hid.intro' ((hb3.block (w.heap.size + 1) (Array.getElem?_eq_some_iff.1 HR2.out).1).trans HR2.out)
      clear hb3 HN2 HB2 HC2 HW2 HR2 cr fr c14
      cases hr : rgt s with
      | false =>
        have HRG := Hid.intro' hr
        clear hr
        gi_wp2_with (refine wpListIn_load27g rfl _ rfl w.heap.size s.st _ _ rfl HN3.out ?_)
        refine ⟨rfl, (callsIn_wide.2 (all_wrong s _ _ _ W3 HC3.out HW3.out HRG.out)).mono ?_⟩
        rintro e W4 ⟨rfl, hb4⟩
        have HB4 := Hid.intro' (below_class HB3.out hb4)
        have HR4 := Hid.intro' ((hb4.block (w.heap.size + 1) hz3).trans HR3.out)
        have hz4 := Nat.lt_of_lt_of_le hz3 hb4.size
        clear hb4 HB3 HN3 HC3 HW3 HR3
        have hseq := all1_seq (fun _ => False) W4
        have eg : ∀ args w, (callFunc 16 args).run Try.prog w = .ok (.enter 16 args) w := by intro args w; simp [go_sem]
        gi_wp2_with fail
        generalize (Value.agg (nv s.st (.slice ac s.cs.length kc) (.slice aw s.ws.length kw)).toArray) = SV
        refine wpIn_rangeFunc_F (gf := 16) (lb := #[]) rfl eg hseq (Below.refl _ _) (fun x F A args h => by obtain ⟨v, rfl, _⟩ := h; rfl) (fun k h => h.elim) (fun k h => h.elim)
          (fun x F F' A A' args h hz _ h2 h3 => ea_mono _ x F F' A A' args h hz h2 h3) (fun _ F A => KI W4 (fun _ => False) F A) (fun _ _ _ _ => True) (fun _ _ _ _ _ h hk hF => h.stb hk hF) (fun _ _ _ _ _ _ _ _ _ => trivial) ⟨Kp.refl _ _, fun _ _ h => h⟩
          (fun args => { tmps := #[SV, .int .i64 most, .pointer (some ⟨w.heap.size, 0, none⟩), undef, .pointer (some ⟨w.heap.size + 1, 0, none⟩), undef, undef, undef, undef, .bool true, .bool false, SV, .bool false, .bool false, .pointer (some ⟨w.heap.size, 14, none⟩), .slice aw s.ws.length kw, .int .i64 (s.ws.length : Int), .bool false, .bool false, SV, .bool false, .bool true, SV, .func (.func 16) #[] #[], args.getD 0 undef, undef, undef, undef, undef, undef, undef, undef, undef, undef, undef, undef, undef, undef, undef, undef, undef, undef, undef, undef, undef, undef, undef, undef, undef, undef, undef, undef, undef, undef, undef, undef, undef, undef, undef, undef], defers := [] }) ?assign ?body ?done ?stop
        case assign =>
          intro l' args A K hsz hK
          obtain ⟨v, rfl⟩ : ∃ v, args = #[v] := by
            have : args.size = 1 := hsz
            exact arr1 this
          have HK := Hid.intro' hK
          clear hK hseq
          gi_wp2
          first | exact HK.out | (simp; exact HK.out)
        case body =>
          rintro l' pre p F A args hk ⟨v, rfl, _⟩
          have hwf' : ∀ k, (Fence.wide.inRound l').fn k := fun _ => trivial
          have hra := (hk.1.block _ hz4 (fun h => h)).trans HR4.out
          have HF : Hid (Kept F A (A.setCell ⟨w.heap.size + 1, 0, none⟩ (.bool false))) := by
            have hkp : Kp (fun k => k = w.heap.size + 1) A (A.setCell ⟨w.heap.size + 1, 0, none⟩ (.bool false)) := (Kp.refl _ A).set _ _ _ (fun _ => rfl)
            exact Kept.ofKp hkp (fun k _ hf e => hk.2 k (by omega) hf)
          have cr : A.cell? ⟨w.heap.size + 1, 0, none⟩ = some (.bool false) := blk_cell hra 0
          have fr := blk_fr hra 0
          clear hk hseq hra
          simp only [show (#[v] : Array Value).getD 0 undef = v from rfl]
          gi_wp2
          exact ⟨HF.out, trivial⟩
        case done =>
          rintro D0 xs F A hD hFD rfl hk hK
          have hra := (hk.1.block _ hz4 (fun h => h)).trans HR4.out
          have cr : A.cell? ⟨w.heap.size + 1, 0, none⟩ = some (.bool false) := blk_cell hra 0
          have fr := blk_fr hra 0
          have HBA := Hid.intro' (hk.1.below HB4.out (by omega) (fun _ _ h => h))
          have hra2 := blk_set hra 0 (.bool true)
          have hK2 : (A.setCell ⟨w.heap.size + 1, 0, none⟩ (.bool true)).heap[D0]? = some (.deferred (some [])) := (Below.heap_setCell _ _ _ _ (by show D0 ≠ w.heap.size + 1; omega)).trans hK
          clear hk hseq hra
          gi_wp2
          refine ⟨by simp, .inl ⟨_, _, rfl, run_takeDeferred hK2, ?_⟩⟩
          have hc5 : ((A.setCell ⟨w.heap.size + 1, 0, none⟩ (.bool true)).putObj D0 (.deferred none)).cell? ⟨w.heap.size + 1, 0, none⟩ = some (.bool true) := blk_cell ((World.putObj_heap_other (by omega)).trans hra2) 0
          refine ⟨.bool true, ?_, rfl, ((Kp.refl (fun k => k = D0) _).put D0 _ (fun _ => rfl)).below (HBA.out.setCell (p := ⟨w.heap.size + 1, 0, none⟩) (by simp) (.bool true)) (HBA.out.setCell (p := ⟨w.heap.size + 1, 0, none⟩) (by simp) (.bool true)).size (fun i hi e => by omega)⟩
          simp [results, Try.f3, go_sem, hc5]
        case stop =>
          rintro D0 c pre F A hD hFD hSp h hK
          exact hSp.elim
      | true =>
        obtain ⟨n, hrs⟩ := rgt_rs hr
        have HRG := Hid.intro' hr
        have HRS := Hid.intro' hrs
        clear hr hrs
        have hk12 := i64_andfff most
        obtain ⟨k, hk, hkm⟩ : ∃ k : Nat, k < 4096 ∧ most % 4096 = (k : Int) := ⟨(most % 4096).toNat, by omega, by omega⟩
        rw [hkm] at hk12
        have hw1 : IntKind.i64.wrap ((k : Int) + 1) = ((k + 1 : Nat) : Int) := by rw [IntWalk.i64_in _ (by omega)]; omega
        clear hkm
        gi_wp2_with (refine wpListIn_load27g rfl _ rfl w.heap.size s.st _ _ rfl (((HN3.out.alloc _).alloc _).alloc _) ?_)
        have ha1 := alloc1 W3 (.slice none 0 0) 34
        have ha2 := alloc1 (W3.alloc (.cells #[.slice none 0 0] 34)) (.int .i64 0) 3
        have ha3 := alloc1 ((W3.alloc (.cells #[.slice none 0 0] 34)).alloc (.cells #[.int .i64 0] 3)) (.int .i64 ((k : Int) + 1)) 3
        rw [World.size_alloc] at ha2 ha3
        rw [World.size_alloc] at ha3
        have hbX : Below W3.heap.size W3 (((W3.alloc (.cells #[.slice none 0 0] 34)).alloc (.cells #[.int .i64 0] 3)).alloc (.cells #[.int .i64 ((k : Int) + 1)] 3)) := (((Below.refl _ W3).alloc (Nat.le_refl _) _).alloc (by simp) _).alloc (by simp; omega) _
        have HX1 := Hid.intro' ((Below.heap_alloc _ (.cells #[.int .i64 ((k : Int) + 1)] 3) _ (by simp; omega)).trans ((Below.heap_alloc _ (.cells #[.int .i64 0] 3) _ (by simp)).trans ha1))
        have HX2 := Hid.intro' ((Below.heap_alloc _ (.cells #[.int .i64 ((k : Int) + 1)] 3) _ (by simp)).trans ha2)
        have HX3 := Hid.intro' ha3
        have HXZ : Hid ((((W3.alloc (.cells #[.slice none 0 0] 34)).alloc (.cells #[.int .i64 0] 3)).alloc (.cells #[.int .i64 ((k : Int) + 1)] 3)).heap.size = W3.heap.size + 1 + 1 + 1) := Hid.intro' (by simp)
        have HXB := Hid.intro' (below_class HB3.out hbX)
        have HXN := Hid.intro' (HN3.out.below' hbX)
        have HXC := Hid.intro' (HC3.out.below' hbX)
        have HXW := Hid.intro' (HW3.out.below' hbX)
        have HXR := Hid.intro' ((hbX.block (w.heap.size + 1) hz3).trans HR3.out)
        clear ha1 ha2 ha3 hbX HB3 HN3 HC3 HW3 HR3 hk12 hw1
        generalize (((W3.alloc (.cells #[.slice none 0 0] 34)).alloc (.cells #[.int .i64 0] 3)).alloc (.cells #[.int .i64 ((k : Int) + 1)] 3)) = X at HX1 HX2 HX3 HXZ HXB HXN HXC HXW HXR ⊢
        generalize hlb : W3.heap.size = lb at HX1 HX2 HX3 HXZ hz3 ⊢
        generalize hnb : lb + 1 = nb at HX2 HX3 HXZ ⊢
        generalize hkb : nb + 1 = kb at HX3 HXZ ⊢
        refine ⟨rfl, (callsIn_wide.2 (all_right s _ _ _ X HXC.out HXW.out HRG.out n HRS.out.cl (by have := HRS.out.wl; omega))).mono ?_⟩
        rintro e W4 ⟨c1, c2, vw', rfl, e1, e2, l1, l2, hr4, hb4⟩
        have hseq := all2_seq n HRS.out.n1 (msk s) s.ws HRS.out.gz c1 c2 vw' _ W4 e1 e2 l1 l2 hr4 (fun g hg => hg.2)
        have hsz : kb + 1 ≤ W4.heap.size := by have := hb4.size; rwa [HXZ.out] at this
        have H1 := Hid.intro' ((hb4.block lb (by rw [HXZ.out]; omega)).trans HX1.out)
        have H2 := Hid.intro' ((hb4.block nb (by rw [HXZ.out]; omega)).trans HX2.out)
        have H3 := Hid.intro' ((hb4.block kb (by rw [HXZ.out]; omega)).trans HX3.out)
        have HR4 := Hid.intro' ((hb4.block (w.heap.size + 1) (by rw [HXZ.out]; omega)).trans HXR.out)
        have HB4 := Hid.intro' (below_class HXB.out hb4)
        have HN4 := Hid.intro' (HXN.out.below' hb4)
        have HC4 := Hid.intro' (HXC.out.below' hb4)
        have HW4 := Hid.intro' (HXW.out.below' hb4)
        rw [HXZ.out] at hseq
        clear hb4 e1 e2 l1 l2 hr4 HX1 HX2 HX3 HXZ HXB HXN HXC HXW HXR hlb
        have hG : ∀ g, (kb + 1 ≤ g ∧ g < W4.heap.size) → g < W4.heap.size := fun _ h => h.2
        have eg : ∀ args w, (callFunc 18 args).run Try.prog w = .ok (.enter 18 args) w := by intro args w; simp [go_sem]
        have HI0 : Hid (AI s W4 lb nb (k + 1) [] (fun _ => False) W4) := ⟨⟨Kp.refl _ _, fun _ _ h => h⟩, H2.out, Nat.succ_pos _, _, H1.out, .inl ⟨rfl, rfl⟩⟩
        gi_wp2_with fail
        generalize (Value.agg (nv s.st (.slice ac s.cs.length kc) (.slice aw s.ws.length kw)).toArray) = SV
        refine wpIn_rangeFunc_F (gf := 18) (lb := #[.pointer (some ⟨c1, 0, none⟩), .pointer (some ⟨c2, 0, none⟩)]) rfl eg hseq (Below.refl _ _) (fun x F A args h => by obtain ⟨v, rfl, _⟩ := h; rfl) hG (fun k h => h.elim)
          (fun x F F' A A' args h hz _ h2 h3 => ea_mono _ x F F' A A' args h hz h2 h3) (AI s W4 lb nb (k + 1)) (AX s W4 lb nb (k + 1)) (ai_stb (by omega) (by omega)) (fun c => ax_stb (by omega) c) HI0.out
          (fun args => { tmps := #[SV, .int .i64 most, .pointer (some ⟨w.heap.size, 0, none⟩), undef, .pointer (some ⟨w.heap.size + 1, 0, none⟩), .pointer (some ⟨lb, 0, none⟩), .pointer (some ⟨nb, 0, none⟩), .pointer (some ⟨kb, 0, none⟩), args.getD 0 undef, .bool true, .bool false, SV, .bool false, .bool false, .pointer (some ⟨w.heap.size, 14, none⟩), .slice aw s.ws.length kw, .int .i64 (s.ws.length : Int), .bool false, .bool false, SV, .bool true, .bool false, undef, undef, undef, .int .i64 most, .int .i64 (k : Int), .int .i64 ((k : Int) + 1), SV, .func (.func 18) #[] #[.pointer (some ⟨c1, 0, none⟩), .pointer (some ⟨c2, 0, none⟩)], args.getD 0 undef, undef, undef, undef, undef, undef, undef, undef, undef, undef, undef, undef, undef, undef, undef, undef, undef, undef, undef, undef, undef, undef, undef, undef, undef, undef, undef, undef, undef, undef], defers := [] }) ?assign ?body ?done ?stop
        case assign =>
          intro l' args A K hsz hK
          obtain ⟨v, rfl⟩ : ∃ v, args = #[v] := by
            have : args.size = 1 := hsz
            exact arr1 this
          have HK := Hid.intro' hK
          clear hK hseq
          gi_wp2
          first | exact HK.out | (simp; exact HK.out)
        case body =>
          rintro l' pre x F A args hai ⟨v, rfl, hrv, hsm⟩
          have hwf' : ∀ k, (Fence.wide.inRound l').fn k := fun _ => trivial
          have hkp := hai.ki.1
          have hnl : ¬ (w.heap.size = lb ∨ w.heap.size = nb) := by omega
          have HNA := Hid.intro' (HN4.out.kp hkp hnl)
          have hCA : R2 (fun _ => True) A (.slice ac s.cs.length kc) s.cs := (HC4.out.keep hkp.size (fun g hg hlt => hkp.block g hlt (by have : g < w.heap.size := hg; rintro (e | e) <;> omega))).mono fun _ _ _ _ => trivial
          have hWA : R2 (fun _ => True) A (.slice aw s.ws.length kw) s.ws := (HW4.out.keep hkp.size (fun g hg hlt => hkp.block g hlt (by have : g < w.heap.size := hg; rintro (e | e) <;> omega))).mono fun _ _ _ _ => trivial
          have HRA := Hid.intro' ((hkp.block (w.heap.size + 1) (by omega) (by omega)).trans HR4.out)
          have HKA := Hid.intro' ((hkp.block kb (by omega) (by omega)).trans H3.out)
          have hsA := hkp.size
          have HFE := Hid.intro' (rfeasible_any s (fun _ => True) _ _ v x A hCA hWA (hrv.mono fun _ _ _ _ => trivial) hsm.1 hsm.2)
          have HAI := Hid.intro' hai
          have HRV := Hid.intro' hrv
          have HSM := Hid.intro' hsm
          have hFr : ¬ F (w.heap.size + 1) := hai.ki.2 _ (by omega)
          obtain ⟨av, kv, rfl, _, _⟩ := hrv.form
          clear hkp hCA hWA hseq hai hrv hsm HI0
          simp only [show (#[.slice av x.length kv] : Array Value).getD 0 undef = .slice av x.length kv from rfl]
          cases hf : fsb s x with
          | false =>
            rw [hf] at HFE
            have HBD : Hid (Bad s (pre ++ [x])) := .inl ⟨x, by simp, hf⟩
            clear hf
            gi_wp2_with (refine wpListIn_load27g rfl _ rfl w.heap.size s.st _ _ rfl HNA.out ?_)
            refine ⟨rfl, (CallsIn.inRound l' (callsIn_wide.2 HFE.out)).mono ?_⟩
            rintro e W5 ⟨rfl, hb5⟩
            have hr5 := (hb5.block (w.heap.size + 1) (by omega)).trans HRA.out
            have cr : W5.cell? ⟨w.heap.size + 1, 0, none⟩ = some (.bool false) := blk_cell hr5 0
            have fr := blk_fr hr5 0
            have HKE : Hid (Kept F A (W5.setCell ⟨w.heap.size + 1, 0, none⟩ (.bool false))) := Kept.ofKp ((Kp.ofBelow (fun k => k = w.heap.size + 1) hb5).set _ 0 _ (fun _ => rfl)) (fun k _ hf e => hFr (e ▸ hf))
            clear hb5 hr5
            gi_wp2
            all_goals first | exact ⟨HKE.out, .inl ⟨rfl, HBD.out⟩⟩ | (rename_i hu _; simp [undef] at hu; done) | (rename_i hu; simp [undef] at hu; done)
          | true =>
            rw [hf] at HFE
            have HFX := Hid.intro' hf
            clear hf
            gi_wp2_with (refine wpListIn_load27g rfl _ rfl w.heap.size s.st _ _ rfl HNA.out ?_)
            refine ⟨rfl, (CallsIn.inRound l' (callsIn_wide.2 HFE.out)).mono ?_⟩
            rintro e W5 ⟨rfl, hb5⟩
            obtain ⟨v0, hv0, hl0⟩ := HAI.out.last
            have hlb5 := (hb5.block lb (by omega)).trans hv0
            have cl5 : W5.cell? ⟨lb, 0, none⟩ = some v0 := blk_cell hlb5 0
            have fl5 := blk_fr hlb5 0
            have hpl : (pre.length : Int) ≤ (k : Int) := by have := HAI.out.lt; omega
            have hkz : (k : Int) < 4096 := by omega
            rcases hl0 with ⟨hpe, hve⟩ | ⟨q, x0, hpe, hf0, hr0, hs0⟩
            · have hcv : W5.cell? ⟨lb, 0, none⟩ = some (.slice none 0 0) := by rw [← hve]; exact cl5
              have HT := Hid.intro' (ai_tail (G := fun g => kb + 1 ≤ g ∧ g < W4.heap.size) HAI.out hb5 HRV.out HSM.out HFX.out (by omega) (by omega) (by omega) (by omega) (by omega))
              have hnb6 := (Below.heap_setCell W5 ⟨lb, 0, none⟩ (.slice av x.length kv) nb (by show nb ≠ lb; omega)).trans ((hb5.block nb (by omega)).trans HAI.out.n)
              have cn6 : (W5.setCell ⟨lb, 0, none⟩ (.slice av x.length kv)).cell? ⟨nb, 0, none⟩ = some (.int .i64 (pre.length : Int)) := blk_cell hnb6 0
              have fn6 := blk_fr hnb6 0
              have ck : W5.cell? ⟨kb, 0, none⟩ = some (.int .i64 ((k : Int) + 1)) := blk_cell ((hb5.block kb (by omega)).trans HKA.out) 0
              have cl : W5.cell? ⟨lb, 0, none⟩ = some v0 := blk_cell ((hb5.block lb (by omega)).trans hv0) 0
              have fl := blk_fr ((hb5.block lb (by omega)).trans hv0) 0
              have hne1 : ¬ nb = lb := by omega
              have hne2 : ¬ kb = nb := by omega
              have hne3 : ¬ kb = lb := by omega
              have hne4 : ¬ lb = nb := by omega
              have hne5 : ¬ nb = kb := by omega
              have hne6 : ¬ lb = kb := by omega
              clear hb5 cl5 fl5 hlb5 hnb6 cl hpe hve
              by_cases hq : pre.length = k
              · have hqz : (k : Int) = (pre.length : Int) := by omega
                gi_wp2
                all_goals first | exact ⟨HT.out.2.1, HT.out.2.2.2 (by omega)⟩ | exact ⟨HT.out.1, HT.out.2.2.1 (by omega)⟩ | (rename_i hu _; simp [undef] at hu; done) | (rename_i hu; simp [undef] at hu; done)
              · have hqz : ¬ (pre.length : Int) = (k : Int) := by omega
                gi_wp2
                all_goals first | exact ⟨HT.out.2.1, HT.out.2.2.2 (by omega)⟩ | exact ⟨HT.out.1, HT.out.2.2.1 (by omega)⟩ | (rename_i hu _; simp [undef] at hu; done) | (rename_i hu; simp [undef] at hu; done)
            · obtain ⟨a0, k0, hv0e, _, _⟩ := hr0.form
              obtain ⟨a1, ha1⟩ : ∃ a1, a0 = some a1 := by
                rcases hr0 with ⟨a', cap', e, _, _, h⟩
                rw [hv0e] at e
                cases e
                rcases h with h | ⟨g, o, h, _⟩
                · exfalso
                  have h7 := HRS.out.n1
                  have h8 := HRS.out.cl
                  rw [h] at hf0
                  unfold fsb at hf0
                  simp at hf0
                  omega
                · exact ⟨_, h⟩
              rw [hv0e, ha1] at cl5
              have hxl : x.length ≤ 100 := by
                have h := HFX.out
                have h7 := HRS.out.n8
                have h8 := HRS.out.cl
                unfold fsb at h
                simp at h
                omega
              have hxl0 : x0.length ≤ 100 := by
                have h7 := HRS.out.n8
                have h8 := HRS.out.cl
                unfold fsb at hf0
                simp at hf0
                omega
              have hv1 : v0 = .slice (some a1) x0.length k0 := by rw [hv0e, ha1]
              have HLE := Hid.intro' (less_any (fun _ => True) v0 (.slice av x.length kv) x0 x s.ws.length W5 ((hr0.mono fun _ _ _ _ => trivial).below' hb5) ((HRV.out.mono fun _ _ _ _ => trivial).below' hb5) hs0 HSM.out hxl0 hxl)
              rw [hv1] at HLE
              have c14 : W5.cell? ⟨w.heap.size, 14, none⟩ = some (.slice aw s.ws.length kw) := (HNA.out.below' hb5).cell 14
              cases hlx : PM.lx (PM.wr s.ws.length x0) (PM.wr s.ws.length x) with
              | false =>
                rw [hlx] at HLE
                have HBD : Hid (Bad s (pre ++ [x])) := .inr ⟨q, x0, x, by rw [hpe]; simp, hlx⟩
                have HB5 := Hid.intro' hb5
                clear hlx hb5 hr0 hs0 hf0 fl5 hlb5 hpe
                gi_wp2_with fail
                refine ⟨rfl, (CallsIn.inRound l' (callsIn_wide.2 HLE.out)).mono ?_⟩
                rintro e W6 ⟨rfl, hb6⟩
                have hb7 := below_class HB5.out hb6
                have hr5 := (hb7.block (w.heap.size + 1) (by omega)).trans HRA.out
                have cr : W6.cell? ⟨w.heap.size + 1, 0, none⟩ = some (.bool false) := blk_cell hr5 0
                have fr := blk_fr hr5 0
                have HKE : Hid (Kept F A (W6.setCell ⟨w.heap.size + 1, 0, none⟩ (.bool false))) := Kept.ofKp ((Kp.ofBelow (fun k => k = w.heap.size + 1) hb7).set _ 0 _ (fun _ => rfl)) (fun k _ hf e => hFr (e ▸ hf))
                clear hb6 hb7 hr5
                gi_wp2
                all_goals first | exact ⟨HKE.out, .inl ⟨rfl, HBD.out⟩⟩ | (rename_i hu _; simp [undef] at hu; done) | (rename_i hu; simp [undef] at hu; done)
              | true =>
                rw [hlx] at HLE
                have HB5 := Hid.intro' hb5
                clear hlx hb5 hr0 hs0 hf0 fl5 hlb5 hpe
                gi_wp2_with fail
                refine ⟨rfl, (CallsIn.inRound l' (callsIn_wide.2 HLE.out)).mono ?_⟩
                rintro e W6 ⟨rfl, hb6⟩
                have hb7 := below_class HB5.out hb6
                have HT := Hid.intro' (ai_tail (G := fun g => kb + 1 ≤ g ∧ g < W4.heap.size) HAI.out hb7 HRV.out HSM.out HFX.out (by omega) (by omega) (by omega) (by omega) (by omega))
                have hnb6 := (Below.heap_setCell W6 ⟨lb, 0, none⟩ (.slice av x.length kv) nb (by show nb ≠ lb; omega)).trans ((hb7.block nb (by omega)).trans HAI.out.n)
                have cn6 : (W6.setCell ⟨lb, 0, none⟩ (.slice av x.length kv)).cell? ⟨nb, 0, none⟩ = some (.int .i64 (pre.length : Int)) := blk_cell hnb6 0
                have fn6 := blk_fr hnb6 0
                have ck : W6.cell? ⟨kb, 0, none⟩ = some (.int .i64 ((k : Int) + 1)) := blk_cell ((hb7.block kb (by omega)).trans HKA.out) 0
                have cl : W6.cell? ⟨lb, 0, none⟩ = some v0 := blk_cell ((hb7.block lb (by omega)).trans hv0) 0
                have fl := blk_fr ((hb7.block lb (by omega)).trans hv0) 0
                have hne1 : ¬ nb = lb := by omega
                have hne2 : ¬ kb = nb := by omega
                have hne3 : ¬ kb = lb := by omega
                have hne4 : ¬ lb = nb := by omega
                have hne5 : ¬ nb = kb := by omega
                have hne6 : ¬ lb = kb := by omega
                rw [hv1] at cl
                clear hb6 hb7 hnb6 HB5 cl5 c14
                by_cases hq : pre.length = k
                · have hqz : (k : Int) = (pre.length : Int) := by omega
                  gi_wp2
                  all_goals first | exact ⟨HT.out.2.1, HT.out.2.2.2 (by omega)⟩ | exact ⟨HT.out.1, HT.out.2.2.1 (by omega)⟩ | (rename_i hu _; simp [undef] at hu; done) | (rename_i hu; simp [undef] at hu; done)
                · have hqz : ¬ (pre.length : Int) = (k : Int) := by omega
                  gi_wp2
                  all_goals first | exact ⟨HT.out.2.1, HT.out.2.2.2 (by omega)⟩ | exact ⟨HT.out.1, HT.out.2.2.1 (by omega)⟩ | (rename_i hu _; simp [undef] at hu; done) | (rename_i hu; simp [undef] at hu; done)
        case done =>
          rintro D0 xs F A hD hFD hxs hai hK
          have hlt := hai.lt
          rw [hxs] at hlt hai
          obtain ⟨c, hcc⟩ : ∃ c, (plansOf n (msk s)).length = c := ⟨_, rfl⟩
          rw [hcc] at hlt
          have hltz : (c : Int) < (k : Int) + 1 := by omega
          have hn0 := hai.n
          rw [hcc] at hn0
          have hkp := hai.ki.1
          have hnl : ¬ (w.heap.size = lb ∨ w.heap.size = nb) := by omega
          have HNA := Hid.intro' (HN4.out.kp hkp hnl)
          have hCA : R2 (fun _ => True) A (.slice ac s.cs.length kc) s.cs := (HC4.out.keep hkp.size (fun g hg hlt => hkp.block g hlt (by have : g < w.heap.size := hg; rintro (e | e) <;> omega))).mono fun _ _ _ _ => trivial
          have hWA : R2 (fun _ => True) A (.slice aw s.ws.length kw) s.ws := (HW4.out.keep hkp.size (fun g hg hlt => hkp.block g hlt (by have : g < w.heap.size := hg; rintro (e | e) <;> omega))).mono fun _ _ _ _ => trivial
          have HRA := Hid.intro' ((hkp.block (w.heap.size + 1) (by omega) (by omega)).trans HR4.out)
          have hsA := hkp.size
          have ck : A.cell? ⟨kb, 0, none⟩ = some (.int .i64 ((k : Int) + 1)) := blk_cell ((hkp.block kb (by omega) (by omega)).trans H3.out) 0
          have cn : A.cell? ⟨nb, 0, none⟩ = some (.int .i64 (c : Int)) := blk_cell hn0 0
          have cr : A.cell? ⟨w.heap.size + 1, 0, none⟩ = some (.bool false) := blk_cell HRA.out 0
          have fr := blk_fr HRA.out 0
          have HBA := Hid.intro' (hkp.below HB4.out (by omega) (fun i hi h => by rcases h with e | e <;> omega))
          have HCN : Hid (∀ W, Below A.heap.size A W → Calls Try.prog 11 #[.agg (nv s.st (.slice ac s.cs.length kc) (.slice aw s.ws.length kw)).toArray, .int .i64 1073741824] W fun e w' => e = .returned (.int .i64 (c : Int)) ∧ Below W.heap.size W w') := fun W h => by
            have := counts_any s n HRS.out H5.out _ _ (fun _ => True) W (hCA.below' h) (hWA.below' h)
            rw [plans_count HRS.out, hcc] at this
            exact this
          have e0 : A.cell? ⟨w.heap.size, 0, none⟩ = some (.int .i64 s.st.fl) := HNA.out.cell 0
          have e1 : A.cell? ⟨w.heap.size, 1, none⟩ = some (.int .i64 s.st.ca) := HNA.out.cell 1
          have e2 : A.cell? ⟨w.heap.size, 2, none⟩ = some (.int .i64 s.st.sta) := HNA.out.cell 2
          have e3 : A.cell? ⟨w.heap.size, 3, none⟩ = some (.int .i64 s.st.ste) := HNA.out.cell 3
          have e4 : A.cell? ⟨w.heap.size, 4, none⟩ = some (.int .i64 s.st.sto) := HNA.out.cell 4
          have e5 : A.cell? ⟨w.heap.size, 5, none⟩ = some (.int .i64 s.st.opn) := HNA.out.cell 5
          have e6 : A.cell? ⟨w.heap.size, 6, none⟩ = some (.int .i64 s.st.wai) := HNA.out.cell 6
          have e7 : A.cell? ⟨w.heap.size, 7, none⟩ = some (.int .i64 s.st.clo) := HNA.out.cell 7
          have e8 : A.cell? ⟨w.heap.size, 8, none⟩ = some (.int .i64 s.st.nud) := HNA.out.cell 8
          have e9 : A.cell? ⟨w.heap.size, 9, none⟩ = some (.int .i64 s.st.age) := HNA.out.cell 9
          have e10 : A.cell? ⟨w.heap.size, 10, none⟩ = some (.int .i64 s.st.sil) := HNA.out.cell 10
          have e11 : A.cell? ⟨w.heap.size, 11, none⟩ = some (.int .i64 s.st.bud) := HNA.out.cell 11
          have e12 : A.cell? ⟨w.heap.size, 12, none⟩ = some (.int .i64 s.st.per) := HNA.out.cell 12
          have e13 : A.cell? ⟨w.heap.size, 13, none⟩ = some (.slice ac s.cs.length kc) := HNA.out.cell 13
          have e14 : A.cell? ⟨w.heap.size, 14, none⟩ = some (.slice aw s.ws.length kw) := HNA.out.cell 14
          clear hkp hCA hWA hseq HI0
          gi_wp2_with fail
          refine wpIn_mono (Q := QC (w.heap.size + 1) D0 A) ?reg ?beh
          case reg =>
           have hmo : Try.prog.follows .mixedOrders = true := by kernel_rfl
           gi_region_with_o ((try refine ⟨rfl, ?_⟩); gi_at_call 11; refine (callsIn_wide.2 (HCN.out _ (Below.refl _ _).drew)).mono ?_; rintro e W7 ⟨rfl, hb7⟩; have cn7 : W7.cell? ⟨nb, 0, none⟩ = some (.int .i64 (c : Int)) := (hb7.cell (p := ⟨nb, 0, none⟩) (show nb < A.heap.size by omega)).trans cn; have ck7 : W7.cell? ⟨kb, 0, none⟩ = some (.int .i64 ((k : Int) + 1)) := (hb7.cell (p := ⟨kb, 0, none⟩) (show kb < A.heap.size by omega)).trans ck; have cr7 : W7.cell? ⟨w.heap.size + 1, 0, none⟩ = some (.bool false) := (hb7.cell (p := ⟨w.heap.size + 1, 0, none⟩) (show w.heap.size + 1 < A.heap.size by omega)).trans cr; have fr7 : W7.frozen? ⟨w.heap.size + 1, 0, none⟩ = false := (World.frozen?_of_block (a := ⟨w.heap.size + 1, 0, none⟩) (hb7.block _ (show w.heap.size + 1 < A.heap.size by omega))).trans fr)
           all_goals
             have HBB := Hid.intro' ((Below.refl A.heap.size A).drew.trans hb7)
             clear hb7
             first | exact ⟨rfl, rfl, W7, HBB.out, rfl⟩ | (gi_wp2; exact ⟨rfl, rfl, W7, HBB.out, rfl⟩)
          case beh =>
            rintro e a' w' hq
            cases e with
            | normal =>
              obtain ⟨hd, ht4, W7, hb7, rfl⟩ := hq
              have hr7 := (hb7.block (w.heap.size + 1) (by omega)).trans HRA.out
              have hK7 := (hb7.block D0 (Array.getElem?_eq_some_iff.1 hK).1).trans hK
              have hra2 := blk_set hr7 0 (.bool true)
              have hK2 : (W7.setCell ⟨w.heap.size + 1, 0, none⟩ (.bool true)).heap[D0]? = some (.deferred (some [])) := (Below.heap_setCell _ _ _ _ (by show D0 ≠ w.heap.size + 1; omega)).trans hK7
              have HBB := Hid.intro' (below_class HBA.out hb7)
              obtain ⟨T, ds⟩ := a'
              cases hd
              clear e0 e1 e2 e3 e4 e5 e6 e7 e8 e9 e10 e11 e12 e13 e14 HCN HNA hb7 hr7 hK7 cn ck cr fr
              gi_wp2
              refine ⟨by simp, .inl ⟨_, _, rfl, run_takeDeferred hK2, ?_⟩⟩
              have hc5 : ((W7.setCell ⟨w.heap.size + 1, 0, none⟩ (.bool true)).putObj D0 (.deferred none)).cell? ⟨w.heap.size + 1, 0, none⟩ = some (.bool true) := blk_cell ((World.putObj_heap_other (by omega)).trans hra2) 0
              refine ⟨.bool true, ?_, rfl, ((Kp.refl (fun k => k = D0) _).put D0 _ (fun _ => rfl)).below (HBB.out.setCell (p := ⟨w.heap.size + 1, 0, none⟩) (by simp) (.bool true)) (HBB.out.setCell (p := ⟨w.heap.size + 1, 0, none⟩) (by simp) (.bool true)).size (fun i hi e => by omega)⟩
              have ht5 : T[4]? = some (.pointer (some ⟨w.heap.size + 1, 0, none⟩)) := ht4
              simp [results, Try.f3, go_sem, hc5, ht5]
            | ret => exact hq.elim
            | exit id => exact hq.elim
            | goto t => exact hq.elim
            | panic ch => exact hq.elim
            | outgrown => exact hq.elim
        case stop =>
          rintro D0 c0 pre F A hD hFD hSp hax hK
          obtain ⟨c, hcc⟩ : ∃ c, (plansOf n (msk s)).length = c := ⟨_, rfl⟩
          rcases hax with ⟨_, hbad⟩ | ⟨rfl, h2, h3, h4⟩
          · exact absurd hbad (notBad HRG.out HRS.out hSp)
          have hle : k + 1 ≤ c := by rw [← h2, ← hcc]; exact hSp.length_le
          have hltz : ¬ (c : Int) < (k : Int) + 1 := by omega
          have hkp := h3.1
          have hnl : ¬ (w.heap.size = lb ∨ w.heap.size = nb) := by omega
          have HNA := Hid.intro' (HN4.out.kp hkp hnl)
          have hCA : R2 (fun _ => True) A (.slice ac s.cs.length kc) s.cs := (HC4.out.keep hkp.size (fun g hg hlt => hkp.block g hlt (by have : g < w.heap.size := hg; rintro (e | e) <;> omega))).mono fun _ _ _ _ => trivial
          have hWA : R2 (fun _ => True) A (.slice aw s.ws.length kw) s.ws := (HW4.out.keep hkp.size (fun g hg hlt => hkp.block g hlt (by have : g < w.heap.size := hg; rintro (e | e) <;> omega))).mono fun _ _ _ _ => trivial
          have HRA := Hid.intro' ((hkp.block (w.heap.size + 1) (by omega) (by omega)).trans HR4.out)
          have hsA := hkp.size
          have ck : A.cell? ⟨kb, 0, none⟩ = some (.int .i64 ((k : Int) + 1)) := blk_cell ((hkp.block kb (by omega) (by omega)).trans H3.out) 0
          have cn : A.cell? ⟨nb, 0, none⟩ = some (.int .i64 ((k : Int) + 1)) := blk_cell h4 0
          have cr : A.cell? ⟨w.heap.size + 1, 0, none⟩ = some (.bool false) := blk_cell HRA.out 0
          have fr := blk_fr HRA.out 0
          have HBA := Hid.intro' (hkp.below HB4.out (by omega) (fun i hi h => by rcases h with e | e <;> omega))
          have HCN : Hid (∀ W, Below A.heap.size A W → Calls Try.prog 11 #[.agg (nv s.st (.slice ac s.cs.length kc) (.slice aw s.ws.length kw)).toArray, .int .i64 1073741824] W fun e w' => e = .returned (.int .i64 (c : Int)) ∧ Below W.heap.size W w') := fun W h => by
            have := counts_any s n HRS.out H5.out _ _ (fun _ => True) W (hCA.below' h) (hWA.below' h)
            rw [plans_count HRS.out, hcc] at this
            exact this
          have e0 : A.cell? ⟨w.heap.size, 0, none⟩ = some (.int .i64 s.st.fl) := HNA.out.cell 0
          have e1 : A.cell? ⟨w.heap.size, 1, none⟩ = some (.int .i64 s.st.ca) := HNA.out.cell 1
          have e2 : A.cell? ⟨w.heap.size, 2, none⟩ = some (.int .i64 s.st.sta) := HNA.out.cell 2
          have e3 : A.cell? ⟨w.heap.size, 3, none⟩ = some (.int .i64 s.st.ste) := HNA.out.cell 3
          have e4 : A.cell? ⟨w.heap.size, 4, none⟩ = some (.int .i64 s.st.sto) := HNA.out.cell 4
          have e5 : A.cell? ⟨w.heap.size, 5, none⟩ = some (.int .i64 s.st.opn) := HNA.out.cell 5
          have e6 : A.cell? ⟨w.heap.size, 6, none⟩ = some (.int .i64 s.st.wai) := HNA.out.cell 6
          have e7 : A.cell? ⟨w.heap.size, 7, none⟩ = some (.int .i64 s.st.clo) := HNA.out.cell 7
          have e8 : A.cell? ⟨w.heap.size, 8, none⟩ = some (.int .i64 s.st.nud) := HNA.out.cell 8
          have e9 : A.cell? ⟨w.heap.size, 9, none⟩ = some (.int .i64 s.st.age) := HNA.out.cell 9
          have e10 : A.cell? ⟨w.heap.size, 10, none⟩ = some (.int .i64 s.st.sil) := HNA.out.cell 10
          have e11 : A.cell? ⟨w.heap.size, 11, none⟩ = some (.int .i64 s.st.bud) := HNA.out.cell 11
          have e12 : A.cell? ⟨w.heap.size, 12, none⟩ = some (.int .i64 s.st.per) := HNA.out.cell 12
          have e13 : A.cell? ⟨w.heap.size, 13, none⟩ = some (.slice ac s.cs.length kc) := HNA.out.cell 13
          have e14 : A.cell? ⟨w.heap.size, 14, none⟩ = some (.slice aw s.ws.length kw) := HNA.out.cell 14
          clear hkp hCA hWA hseq HI0
          gi_wp2_with fail
          refine wpIn_mono (Q := QC (w.heap.size + 1) D0 A) ?reg ?beh
          case reg =>
           have hmo : Try.prog.follows .mixedOrders = true := by kernel_rfl
           gi_region_with_o ((try refine ⟨rfl, ?_⟩); gi_at_call 11; refine (callsIn_wide.2 (HCN.out _ (Below.refl _ _).drew)).mono ?_; rintro e W7 ⟨rfl, hb7⟩; have cn7 : W7.cell? ⟨nb, 0, none⟩ = some (.int .i64 ((k : Int) + 1)) := (hb7.cell (p := ⟨nb, 0, none⟩) (show nb < A.heap.size by omega)).trans cn; have ck7 : W7.cell? ⟨kb, 0, none⟩ = some (.int .i64 ((k : Int) + 1)) := (hb7.cell (p := ⟨kb, 0, none⟩) (show kb < A.heap.size by omega)).trans ck; have cr7 : W7.cell? ⟨w.heap.size + 1, 0, none⟩ = some (.bool false) := (hb7.cell (p := ⟨w.heap.size + 1, 0, none⟩) (show w.heap.size + 1 < A.heap.size by omega)).trans cr; have fr7 : W7.frozen? ⟨w.heap.size + 1, 0, none⟩ = false := (World.frozen?_of_block (a := ⟨w.heap.size + 1, 0, none⟩) (hb7.block _ (show w.heap.size + 1 < A.heap.size by omega))).trans fr)
           all_goals
             have HBB := Hid.intro' ((Below.refl A.heap.size A).drew.trans hb7)
             clear hb7
             first | exact ⟨rfl, rfl, W7, HBB.out, rfl⟩ | (gi_wp2; exact ⟨rfl, rfl, W7, HBB.out, rfl⟩)
          case beh =>
            rintro e a' w' hq
            cases e with
            | normal =>
              obtain ⟨hd, ht4, W7, hb7, rfl⟩ := hq
              have hr7 := (hb7.block (w.heap.size + 1) (by omega)).trans HRA.out
              have hK7 := (hb7.block D0 (Array.getElem?_eq_some_iff.1 hK).1).trans hK
              have hra2 := blk_set hr7 0 (.bool true)
              have hK2 : (W7.setCell ⟨w.heap.size + 1, 0, none⟩ (.bool true)).heap[D0]? = some (.deferred (some [])) := (Below.heap_setCell _ _ _ _ (by show D0 ≠ w.heap.size + 1; omega)).trans hK7
              have HBB := Hid.intro' (below_class HBA.out hb7)
              obtain ⟨T, ds⟩ := a'
              cases hd
              clear e0 e1 e2 e3 e4 e5 e6 e7 e8 e9 e10 e11 e12 e13 e14 HCN HNA hb7 hr7 hK7 cn ck cr fr
              gi_wp2
              refine ⟨by simp, .inl ⟨_, _, rfl, run_takeDeferred hK2, ?_⟩⟩
              have hc5 : ((W7.setCell ⟨w.heap.size + 1, 0, none⟩ (.bool true)).putObj D0 (.deferred none)).cell? ⟨w.heap.size + 1, 0, none⟩ = some (.bool true) := blk_cell ((World.putObj_heap_other (by omega)).trans hra2) 0
              refine ⟨.bool true, ?_, rfl, ((Kp.refl (fun k => k = D0) _).put D0 _ (fun _ => rfl)).below (HBB.out.setCell (p := ⟨w.heap.size + 1, 0, none⟩) (by simp) (.bool true)) (HBB.out.setCell (p := ⟨w.heap.size + 1, 0, none⟩) (by simp) (.bool true)).size (fun i hi e => by omega)⟩
              have ht5 : T[4]? = some (.pointer (some ⟨w.heap.size + 1, 0, none⟩)) := ht4
              simp [results, Try.f3, go_sem, hc5, ht5]
            | ret => exact hq.elim
            | exit id => exact hq.elim
            | goto t => exact hq.elim
            | panic ch => exact hq.elim
            | outgrown => exact hq.elim

end Go.Proofs.Ytdpfgjipjjkcgaf
