/- The example that each law begins with. -/
import Derived.Test.YtdpfgjipjjkcgafPlU
import Derived.Test.YtdpfgjipjjkcgafPlY
namespace Go.Proofs.Ytdpfgjipjjkcgaf
open Go.RowKit Go.Shelf
attribute [local go_sem] Oper.semAt_some

theorem Rs.gz {s : Sn} {n : Nat} (h : Rs s n) : Gz n (msk s) s.ws := ⟨h.lt, h.n8, h.mm, h.wl⟩
theorem one_rs : Rs oneSn 1 := by
  obtain ⟨n, h⟩ := rgt_rs one_rgt
  have : n = 1 := h.cl.symm
  subst this
  exact h
theorem one_len : (plansOf 1 (msk oneSn)).length = 2 := by decide
theorem R2.one (D : Nat → Prop) (W : World) (b cap : Nat) (y : Int × Int) (hD : D b) (hl : b < W.heap.size) (hc : 1 ≤ cap) (h1 : W.cell? ⟨b, 0, none⟩ = some (.int .i64 y.1)) (h2 : W.cell? ⟨b, 1, none⟩ = some (.int .i64 y.2)) : R2 D W (.slice (some ⟨b, 0, none⟩) 1 cap) [y] := by
  refine ⟨_, cap, rfl, hc, (fun e => by cases e), .inr ⟨b, 0, rfl, hD, hl, fun i z hz => ?_⟩⟩
  cases i with
  | zero => cases hz; exact ⟨h1, h2⟩
  | succ i => simp at hz
theorem R2.two (D : Nat → Prop) (W : World) (b cap : Nat) (y z : Int × Int) (hD : D b) (hl : b < W.heap.size) (hc : 2 ≤ cap) (h1 : W.cell? ⟨b, 0, none⟩ = some (.int .i64 y.1)) (h2 : W.cell? ⟨b, 1, none⟩ = some (.int .i64 y.2)) (h3 : W.cell? ⟨b, 2, none⟩ = some (.int .i64 z.1)) (h4 : W.cell? ⟨b, 3, none⟩ = some (.int .i64 z.2)) : R2 D W (.slice (some ⟨b, 0, none⟩) 2 cap) [y, z] := by
  refine ⟨_, cap, rfl, hc, (fun e => by cases e), .inr ⟨b, 0, rfl, hD, hl, fun i x hx => ?_⟩⟩
  match i, hx with
  | 0, hx => cases hx; exact ⟨h1, h2⟩
  | 1, hx => cases hx; exact ⟨h3, h4⟩
  | i + 2, hx => simp at hx
/-- what a law's loop over the plans keeps: all that lay there but P; nothing of it is the iterator's -/
def KI (Wz : World) (P F : Nat → Prop) (A : World) : Prop := Kp P Wz A ∧ ∀ k, k < Wz.heap.size → ¬ F k
theorem KI.stb {Wz : World} {P F F' : Nat → Prop} {A B : World} (h : KI Wz P F A) (hk : Kp F A B) (hF : ∀ k, F' k → F k ∨ (A.heap.size ≤ k ∧ k < B.heap.size)) : KI Wz P F' B :=
  ⟨h.1.trans hk (fun i hi hf => absurd hf (h.2 i hi)), fun k hk' hf => (hF k hf).elim (h.2 k hk') (fun e => by have := h.1.size; omega)⟩
/-- a count, as it is kept -/
def cw : Nat → Int
  | 0 => 0
  | n + 1 => wrap64 (cw n + 1)
/-- the example's loop: it counts -/
def SI (Wz : World) (nb : Nat) (pre : List (List (List Int))) (F : Nat → Prop) (A : World) : Prop := KI Wz (fun k => k = nb) F A ∧ nb < Wz.heap.size ∧ A.heap[nb]? = some (.cells [.int .i64 (cw pre.length)].toArray 3 (0, 0))
theorem si_stb (Wz : World) (nb : Nat) : Stb (SI Wz nb) := fun _ _ _ _ _ h hk hF =>
  ⟨h.1.stb hk hF, h.2.1, (hk.block _ (Nat.lt_of_lt_of_le h.2.1 h.1.1.size) (h.1.2 _ h.2.1)).trans h.2.2⟩

set_option maxRecDepth 100000 in
set_option maxHeartbeats 8000000 in
theorem speaks_any (w : World) : Calls Try.prog 5 #[] w fun e w' => e = .returned (.bool true) ∧ Below w.heap.size w w' := by
  refine (callsIn_wide (n := 0)).1 ?_
  refine callsIn_of_wp_marks Try.func5 rfl trivial ?_ rfl
  simp only [Try.ntmps5, List.size_toArray, List.length_nil, Nat.reduceSub, Array.replicate_succ, Array.replicate_zero, List.push_toArray, List.append_toArray, List.nil_append, List.cons_append]
  have hwf : ∀ k, Fence.wide.fn k := fun _ => trivial
  gi_wp2_with fail
  refine ⟨rfl, (callsIn_wide.2 (one_any w)).mono ?_⟩
  rintro e W1 ⟨rfl, hb1⟩
  have HB1 := Hid.intro' hb1
  clear hb1
  rw [show (sv oneSt).toArray = #[.int .i64 5, .int .i64 1, .int .i64 0, .int .i64 2, .int .i64 0, .int .i64 3, .int .i64 1, .int .i64 1, .int .i64 0, .int .i64 1, .int .i64 1, .int .i64 1, .int .i64 1] from rfl]
  gi_wp2_with fail
  have hX : Below W1.heap.size W1 (((W1.alloc (.cells #[.int .i64 0, .int .i64 0] 44)).alloc (.cells #[.int .i64 1, .int .i64 1, .int .i64 2, .int .i64 1] 40)).alloc (.cells (nv oneSt (.slice (some ⟨W1.heap.size, 0, none⟩) 1 1) (.slice (some ⟨W1.heap.size + 1, 0, none⟩) 2 2)).toArray 27)) :=
    (((Below.refl _ W1).alloc (Nat.le_refl _) _).alloc (by simp) _).alloc (by simp; omega) _
  have HX := Hid.intro' (below_class HB1.out hX)
  have hc : R2 (fun g => w.heap.size ≤ g) (((W1.alloc (.cells #[.int .i64 0, .int .i64 0] 44)).alloc (.cells #[.int .i64 1, .int .i64 1, .int .i64 2, .int .i64 1] 40)).alloc (.cells (nv oneSt (.slice (some ⟨W1.heap.size, 0, none⟩) 1 1) (.slice (some ⟨W1.heap.size + 1, 0, none⟩) 2 2)).toArray 27)) (.slice (some ⟨W1.heap.size, 0, none⟩) 1 1) oneSn.cs :=
    R2.one _ _ _ _ (0, 0) HB1.out.size (by simp; omega) (Nat.le_refl _) (by go_simp) (by go_simp)
  have hw : R2 (fun g => w.heap.size ≤ g) (((W1.alloc (.cells #[.int .i64 0, .int .i64 0] 44)).alloc (.cells #[.int .i64 1, .int .i64 1, .int .i64 2, .int .i64 1] 40)).alloc (.cells (nv oneSt (.slice (some ⟨W1.heap.size, 0, none⟩) 1 1) (.slice (some ⟨W1.heap.size + 1, 0, none⟩) 2 2)).toArray 27)) (.slice (some ⟨W1.heap.size + 1, 0, none⟩) 2 2) oneSn.ws :=
    R2.two _ _ _ _ (1, 1) (2, 1) (Nat.le_trans HB1.out.size (Nat.le_succ _)) (by simp) (Nat.le_refl _) (by go_simp) (by go_simp) (by go_simp) (by go_simp)
  have HN := Hid.intro' (NB.new ((W1.alloc (.cells #[.int .i64 0, .int .i64 0] 44)).alloc (.cells #[.int .i64 1, .int .i64 1, .int .i64 2, .int .i64 1] 40)) oneSt (.slice (some ⟨W1.heap.size, 0, none⟩) 1 1) (.slice (some ⟨W1.heap.size + 1, 0, none⟩) 2 2))
  have hr := snapRight_any oneSn _ _ _ _ hc hw
  rw [one_rgt] at hr
  have HC := Hid.intro' hc
  have HW := Hid.intro' hw
  refine ⟨rfl, (callsIn_wide.2 hr).mono ?_⟩
  clear hr hc hw hX
  change Hid (NB (((W1.alloc (.cells #[.int .i64 0, .int .i64 0] 44)).alloc (.cells #[.int .i64 1, .int .i64 1, .int .i64 2, .int .i64 1] 40)).alloc (.cells (nv oneSt (.slice (some ⟨W1.heap.size, 0, none⟩) 1 1) (.slice (some ⟨W1.heap.size + 1, 0, none⟩) 2 2)).toArray 27)) _ _ _ _) at HN
  rw [show ((W1.alloc (.cells #[.int .i64 0, .int .i64 0] 44)).alloc (.cells #[.int .i64 1, .int .i64 1, .int .i64 2, .int .i64 1] 40)).heap.size = W1.heap.size + 1 + 1 by simp] at HN
  generalize (((W1.alloc (.cells #[.int .i64 0, .int .i64 0] 44)).alloc (.cells #[.int .i64 1, .int .i64 1, .int .i64 2, .int .i64 1] 40)).alloc (.cells (nv oneSt (.slice (some ⟨W1.heap.size, 0, none⟩) 1 1) (.slice (some ⟨W1.heap.size + 1, 0, none⟩) 2 2)).toArray 27)) = X at HX HC HW HN ⊢
  rintro e W2 ⟨rfl, hb2⟩
  have HB2 := Hid.intro' (below_class HX.out hb2)
  have HC2 := Hid.intro' (HC.out.below' hb2)
  have HW2 := Hid.intro' (HW.out.below' hb2)
  have HN2 := Hid.intro' (HN.out.below' hb2)
  clear hb2 HX HC HW HN HB1
  generalize hcx : Value.slice (some ⟨W1.heap.size, 0, none⟩) 1 1 = vc at HC2 HN2 ⊢
  generalize hwx : Value.slice (some ⟨W1.heap.size + 1, 0, none⟩) 2 2 = vw at HW2 HN2 ⊢
  generalize hbx : W1.heap.size + 1 + 1 = bs at HN2 ⊢
  gi_wp2_with (refine wpListIn_load27g rfl _ rfl bs oneSt vc vw rfl (HN2.out.alloc _) ?_)
  have hA := all_right oneSn (fun g => w.heap.size ≤ g) vc vw (W2.alloc (.cells #[.int .i64 0] 3)) (HC2.out.alloc _) (HW2.out.alloc _) one_rgt 1 rfl (by decide)
  refine ⟨rfl, (callsIn_wide.2 hA).mono ?_⟩
  clear hA
  rintro e W3 ⟨c1, c2, vw', rfl, h1, h2, l1, l2, hr3, hb3⟩
  have hseq := all2_seq 1 (by decide) (msk oneSn) oneSn.ws one_rs.gz c1 c2 vw' _ W3 h1 h2 l1 l2 hr3 (fun g hg => hg.2)
  have hbn := (Below.refl W2.heap.size W2).alloc (Nat.le_refl _) (.cells #[.int .i64 0] 3)
  have hnl : W2.heap.size < W3.heap.size := by have := hb3.size; simp at this; omega
  have HI0 : Hid (SI W3 W2.heap.size [] (fun _ => False) W3) := ⟨⟨Kp.refl _ _, fun _ _ h => h⟩, hnl, (hb3.block _ (by simp)).trans (World.alloc_heap_new W2 _)⟩
  have HB3 := Hid.intro' (below_class (below_class HB2.out hbn) hb3)
  have HC3 := Hid.intro' (((HC2.out.mono (D' := fun g => w.heap.size ≤ g ∧ g ≠ W2.heap.size) fun g hg hlt _ => ⟨hg, by omega⟩).alloc (.cells #[.int .i64 0] 3)).below' hb3)
  have HW3 := Hid.intro' (((HW2.out.mono (D' := fun g => w.heap.size ≤ g ∧ g ≠ W2.heap.size) fun g hg hlt _ => ⟨hg, by omega⟩).alloc (.cells #[.int .i64 0] 3)).below' hb3)
  have HN3 := Hid.intro' ((HN2.out.alloc (.cells #[.int .i64 0] 3)).below' hb3)
  have hbs := HN2.out.lt
  have hwsz := HB2.out.size
  clear hbn HB2 HC2 HW2 HN2 h1 h2 l1 l2 hr3 hb3 hcx hwx hbx
  have hzz : W2.heap.size < (W2.alloc (.cells #[.int .i64 0] 3)).heap.size := by simp
  generalize (W2.alloc (.cells #[.int .i64 0] 3)).heap.size = zz at hseq hzz
  have hG : ∀ k, (zz ≤ k ∧ k < W3.heap.size) → k < W3.heap.size := fun _ h => h.2
  have eg : ∀ args w, (callFunc 18 args).run Try.prog w = .ok (.enter 18 args) w := by intro args w; simp [go_sem]
  generalize Value.agg #[Value.int IntKind.i64 5, _, _, _, _, _, _, _, _, _, _, _, _] = j3
  generalize Value.agg #[Value.int IntKind.i64 5, _, _, _, _, _, _, _, _, _, _, _, _, _, _] = j9
  gi_wp2_with fail
  refine wpIn_rangeFunc_F (gf := 18) (lb := #[.pointer (some ⟨c1, 0, none⟩), .pointer (some ⟨c2, 0, none⟩)]) rfl eg hseq (Below.refl _ _) (fun x F A args h => by obtain ⟨v, rfl, _⟩ := h; rfl) hG (fun k h => h.elim)
    (fun x F F' A A' args h hz _ h2 h3 => ea_mono _ x F F' A A' args h hz h2 h3) (SI W3 W2.heap.size) (fun _ _ _ _ => False) (si_stb _ _) (fun _ _ _ _ _ _ h _ _ => h) HI0.out
    (fun args => { tmps := #[.bool false, .pointer (some ⟨bs, 0, none⟩), .pointer (some ⟨W2.heap.size, 0, none⟩), j3, .agg #[.int .i64 0, .int .i64 0], vc, .agg #[.int .i64 1, .int .i64 1], .agg #[.int .i64 2, .int .i64 1], vw, j9, j9, .bool true, .bool false, .agg (nv oneSt vc vw).toArray,
      .func (.func 18) #[] #[.pointer (some ⟨c1, 0, none⟩), .pointer (some ⟨c2, 0, none⟩)], args.getD 0 undef, undef, undef, undef, undef, undef, undef, undef, undef, undef, undef], defers := [] }) ?assign ?body ?done ?stop
  case assign =>
    intro l' args A K hsz hK
    obtain ⟨v, rfl⟩ : ∃ v, args = #[v] := by
      have : args.size = 1 := hsz
      exact arr1 this
    have HK := Hid.intro' hK
    clear hK hseq
    gi_wp2
    first | exact HK.out | (simp; exact HK.out)
  case body =>
    rintro l' pre p F A args ⟨hk, hl, hc⟩ ⟨v, rfl, _⟩
    have hwf' : ∀ k, (Fence.wide.inRound l').fn k := fun _ => trivial
    have HF : Hid (Kept (fun k => F k ∨ (zz ≤ k ∧ k < W3.heap.size)) A (A.setCell ⟨W2.heap.size, 0, none⟩ (.int .i64 (wrap64 (cw pre.length + 1)))) ∧ SI W3 W2.heap.size (pre ++ [p]) F (A.setCell ⟨W2.heap.size, 0, none⟩ (.int .i64 (wrap64 (cw pre.length + 1))))) := by
      have hkp : Kp (fun k => k = W2.heap.size) A (A.setCell ⟨W2.heap.size, 0, none⟩ (.int .i64 (wrap64 (cw pre.length + 1)))) := (Kp.refl _ A).set _ _ _ (fun _ => rfl)
      refine ⟨Kept.ofKp hkp (fun k _ hf e => ?_), ⟨hk.1.trans hkp (fun _ _ h => h), hk.2⟩, hl, ?_⟩
      · subst e
        rcases hf with hf | hf
        · exact hk.2 _ hl hf
        · have := hf.1
          omega
      · rw [blk_set hc 0, List.length_append]
        rfl
    have hcc : A.cell? ⟨W2.heap.size, 0, none⟩ = some (.int .i64 (cw pre.length)) := blk_cell hc 0
    have hfr := blk_fr hc 0
    clear hk hseq hc hl
    simp only [show (#[v] : Array Value).getD 0 undef = v from rfl]
    gi_wp2
    exact HF.out
  case done =>
    rintro D xs F A hD hFD rfl ⟨hk, hl, hc⟩ hK
    rw [one_len] at hc
    rw [show cw 2 = 2 from (by simp [cw, wrap64])] at hc
    have hcc : A.cell? ⟨W2.heap.size, 0, none⟩ = some (.int .i64 2) := blk_cell hc 0
    have hnb : bs ≠ W2.heap.size := by omega
    have HN4 := Hid.intro' (HN3.out.kp hk.1 hnb)
    have HB4 := Hid.intro' (hk.1.below HB3.out (by omega) (fun i hi e => by omega))
    have hC4 : R2 (fun g => w.heap.size ≤ g ∧ g ≠ W2.heap.size) A vc oneSn.cs := HC3.out.keep hk.1.size (fun g hg hlt => hk.1.block g hlt hg.2)
    have hW4 : R2 (fun g => w.heap.size ≤ g ∧ g ≠ W2.heap.size) A vw oneSn.ws := HW3.out.keep hk.1.size (fun g hg hlt => hk.1.block g hlt hg.2)
    clear hk hc hseq HI0 HN3 HB3 HC3 HW3
    gi_wp2_with (refine wpListIn_load27g ?hg _ rfl bs oneSt vc vw rfl HN4.out ?_)
    have hbA := ((Below.refl A.heap.size A).alloc (Nat.le_refl _) (.cells #[.int .i64 1, .int .i64 0] 3)).alloc (by simp) (.cells #[.slice (some ⟨A.heap.size, 0, none⟩) 2 2] 38)
    have hp : RL (fun _ => True) ((A.alloc (.cells #[.int .i64 1, .int .i64 0] 3)).alloc (.cells #[.slice (some ⟨A.heap.size, 0, none⟩) 2 2] 38)) (.slice (some ⟨A.heap.size + 1, 0, none⟩) 1 1) [[1, 0]] := by
      refine ⟨_, 1, rfl, Nat.le_refl _, (fun e => by cases e), .inr ⟨A.heap.size + 1, 0, rfl, trivial, by simp, fun i l hl => ?_⟩⟩
      match i, hl with
      | 0, hl =>
        cases hl
        refine ⟨_, by go_simp, _, 2, rfl, Nat.le_refl _, (fun e => by cases e), .inr ⟨A.heap.size, 0, rfl, trivial, by simp; omega, fun j x hx => ?_⟩⟩
        match j, hx with
        | 0, hx => cases hx; go_simp
        | 1, hx => cases hx; go_simp
        | j + 2, hx => simp at hx
      | i + 1, hl => simp at hl
    have hfe := feasible_any oneSn (fun _ => True) vc vw _ [[1, 0]] _ ((hC4.mono fun _ _ _ _ => trivial).below' hbA) ((hW4.mono fun _ _ _ _ => trivial).below' hbA) hp (by decide) (by decide)
    rw [one_fsb] at hfe
    refine ⟨rfl, (callsIn_wide.2 hfe).mono ?_⟩
    clear hfe hp hC4 hW4
    rintro e W5 ⟨rfl, hb5⟩
    have hKA : W5.heap[D]? = some (.deferred (some [])) := (hb5.block D (by have := (Array.getElem?_eq_some_iff.1 hK).1; simp; omega)).trans ((hbA.block D (Array.getElem?_eq_some_iff.1 hK).1).trans hK)
    have HB5 := Hid.intro' (below_class (below_class HB4.out hbA) hb5)
    clear hb5 hbA hK hcc HB4 HN4
    gi_wp2
    refine ⟨by simp, .inl ⟨_, _, rfl, run_takeDeferred hKA, ?_⟩⟩
    exact ⟨_, results_tmp rfl _ _ _, rfl, ((Kp.refl (fun k => k = D) W5).put D _ (fun _ => rfl)).below HB5.out HB5.out.size (fun i hi e => by omega)⟩
  case stop =>
    rintro D c pre F A hD hFD hSp h hK
    exact h.elim

end Go.Proofs.Ytdpfgjipjjkcgaf
