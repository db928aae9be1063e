/- All's sequence: the plans, copied one by one. -/
import Derived.Test.YtdpfgjipjjkcgafPlO
namespace Go.Proofs.Ytdpfgjipjjkcgaf
open Go.RowKit Go.Shelf
attribute [local go_sem] Oper.semAt_some

/-- the outer caller's invariant, as the inner loop has it: yb is the block that holds the outer yield -/
def IB (J : List (List (List Int)) → (Nat → Prop) → World → Prop) (yb l : Nat) (pre : List (List (List Int))) (F : Nat → Prop) (A : World) : Prop :=
  J pre (fun k => F k ∨ k = yb) A ∧ A.heap[yb]? = some (.cells #[.func (.yield l) #[] #[]] 46 (0, 0)) ∧ ¬ F yb ∧ ∀ k, F k → k < A.heap.size
def XB (Jx : List (List (List Int)) → (Nat → Prop) → World → Prop) (yb : Nat) (c : Code) (pre : List (List (List Int))) (F : Nat → Prop) (A : World) : Prop := c = .ret ∧ Jx pre (fun k => F k ∨ k = yb) A ∧ yb < A.heap.size
theorem ib_stb {J : List (List (List Int)) → (Nat → Prop) → World → Prop} (h : Stb J) (yb l : Nat) : Stb (IB J yb l) := by
  rintro s F F' A B ⟨h1, h2, h3, h4⟩ hk hF
  have hlt := (Array.getElem?_eq_some_iff.1 h2).1
  refine ⟨h s _ _ A B h1 (hk.mono fun i _ hi => .inl hi) (fun k hk' => ?_), (hk.block yb hlt h3).trans h2, fun hf => ?_, fun k hk' => ?_⟩
  · rcases hk' with e | e
    · rcases hF k e with e | e
      · exact .inl (.inl e)
      · exact .inr e
    · exact .inl (.inr e)
  · rcases hF yb hf with e | e
    · exact h3 e
    · omega
  · rcases hF k hk' with e | e
    · exact Nat.lt_of_lt_of_le (h4 k e) hk.size
    · exact e.2
theorem xb_stb {Jx : List (List (List Int)) → (Nat → Prop) → World → Prop} (h : Stb Jx) (yb : Nat) (c : Code) : Stb (XB Jx yb c) := by
  rintro s F F' A B ⟨h1, h2, h3⟩ hk hF
  refine ⟨h1, h s _ _ A B h2 (hk.mono fun i _ hi => .inl hi) (fun k hk' => ?_), Nat.lt_of_lt_of_le h3 hk.size⟩
  rcases hk' with e | e
  · rcases hF k e with e | e
    · exact .inl (.inl e)
    · exact .inr e
  · exact .inl (.inr e)

theorem arr1 {args : Array Value} (h : args.size = 1) : ∃ v, args = #[v] := by
  refine ⟨args[0], ?_⟩
  apply Array.ext
  · simp [h]
  · intro i h1 h2
    simp at h2
    subst h2
    rfl

set_option maxRecDepth 100000 in
set_option maxHeartbeats 8000000 in
theorem all2_seq (n : Nat) (hn : 1 ≤ n) (ms : List Nat) (ws : List (Int × Int)) (hz : Gz n ms ws) (c1 c2 : Nat) (vw : Value) (G : Nat → Prop) (w : World) (h1 : w.cell? ⟨c1, 0, none⟩ = some (.int .i64 (n : Int))) (h2 : w.cell? ⟨c2, 0, none⟩ = some vw)
    (l1 : c1 < w.heap.size) (l2 : c2 < w.heap.size) (hr : R2 G w vw ws) (hG : ∀ g, G g → g < w.heap.size) :
    SeqF Try.prog 18 #[.pointer (some ⟨c1, 0, none⟩), .pointer (some ⟨c2, 0, none⟩)] (EA w.heap.size) (fun _ => False) G (fun xs => xs = plansOf n ms) (fun pre => pre <+: plansOf n ms) w := by
  intro nn l J Jx W hW hJ hJx hY h0
  show CallsIn Fence.wide nn Try.prog 18 #[.func (.yield l) #[] #[], .pointer (some ⟨c1, 0, none⟩), .pointer (some ⟨c2, 0, none⟩)] W _
  have hal := (Below.refl W.heap.size W).alloc (Nat.le_refl _) (.cells #[.func (.yield l) #[] #[]] 46)
  have HY0 := Hid.intro' (World.alloc_heap_new W (.cells #[.func (.yield l) #[] #[]] 46))
  have hWa := hW.trans (hal.mono hW.size)
  have HW := Hid.intro' hWa
  have e1 : (W.alloc (.cells #[.func (.yield l) #[] #[]] 46)).cell? ⟨c1, 0, none⟩ = some (.int .i64 (n : Int)) := (hWa.cell (p := ⟨c1, 0, none⟩) l1).trans h1
  have e2 : (W.alloc (.cells #[.func (.yield l) #[] #[]] 46)).cell? ⟨c2, 0, none⟩ = some vw := (hWa.cell (p := ⟨c2, 0, none⟩) l2).trans h2
  have HRW := Hid.intro' (hr.below' hWa)
  have HGW : Hid (∀ g, G g → g < W.heap.size) := fun g hg => Nat.lt_of_lt_of_le (hG g hg) hW.size
  obtain ⟨aw, kw, rfl, _, _⟩ := hr.form
  have HJ := Hid.intro' hJ
  have HJX := Hid.intro' hJx
  have HY := Hid.intro' hY
  have H0 := Hid.intro' h0
  have HZ := Hid.intro' hz
  have HN := Hid.intro' (And.intro hn hz.n8)
  have HWZ := Hid.intro' hW.size
  refine callsIn_of_wp_marks Try.func18 rfl trivial ?_ rfl
  simp only [Try.ntmps18, List.size_toArray, List.length_cons, List.length_nil, Nat.reduceAdd, Nat.reduceSub, Array.replicate_succ, Array.replicate_zero, List.push_toArray, List.append_toArray, List.nil_append, List.cons_append]
  have hwf : ∀ k, Fence.wide.fn k := fun _ => trivial
  have hdd : ∀ k : Nat, (Fence.wide.depth.isSome = true → 1 ≤ k) := fun k h => by cases h
  clear h1 h2 hr hal hWa hW hJ hJx hY h0 hz hn hG
  gi_wp2_with fail
  refine ⟨hdd _, (callsIn_wide.2 (newDraft_any n (by have := HN.out.2; omega) G _ ws _ HRW.out (fun g hg => by have := HGW.out g hg; simp; omega) (by have := HZ.out.wl; omega))).mono ?_⟩
  rintro e W2 ⟨b, sb, lb, rfl, hd2, hb2⟩
  have HD2 := Hid.intro' hd2
  have HB2 := Hid.intro' hb2
  clear hd2 hb2 e1 e2
  gi_wp2_with fail
  refine ⟨hdd _, (callsIn_wide.2 (plans_any b W2)).mono ?_⟩
  rintro e W3 ⟨rfl, rfl⟩
  gi_wp2_with fail
  have hbx := (Below.refl W2.heap.size W2).alloc (Nat.le_refl _) (.cells #[.pointer (some ⟨b, 0, none⟩)] 48)
  have HC3 : Hid ((W2.alloc (.cells #[.pointer (some ⟨b, 0, none⟩)] 48)).cell? ⟨W2.heap.size, 0, none⟩ = some (.pointer (some ⟨b, 0, none⟩))) := by
    show _ = _
    rw [cell_of_row _ _ 0 _ _ _ (heap_alloc_new W2 _)]; rfl
  have hD3 := HD2.out.below' hbx
  have hsz : (W.alloc (.cells #[.func (.yield l) #[] #[]] 46)).heap.size = W.heap.size + 1 := by simp
  rw [hsz] at hD3
  have hB3 := HB2.out.trans (hbx.mono HB2.out.size)
  rw [hsz] at hB3
  have hz2 : W.heap.size + 1 ≤ W2.heap.size := by have := HB2.out.size; rwa [hsz] at this
  have hI0 : IB J W.heap.size l [] (fp b sb lb (List.replicate n (Value.slice none 0 0))) (W2.alloc (.cells #[.pointer (some ⟨b, 0, none⟩)] 48)) := by
    have hk : Below W.heap.size W (W2.alloc (.cells #[.pointer (some ⟨b, 0, none⟩)] 48)) := ((Below.refl W.heap.size W).alloc (Nat.le_refl _) _).trans (hB3.mono (by omega))
    refine ⟨HJ.out [] (fun _ => False) _ W _ H0.out (Kp.ofBelow _ hk) (fun k h => ?_), (hB3.block _ (by omega)).trans HY0.out, fun hf => ?_, fun k hf => (hD3.fp_lo hf).2⟩
    · right
      rcases h with h | h
      · have := hD3.fp_lo h
        omega
      · have := hk.size
        simp
        omega
    · have := (hD3.fp_lo hf).1
      omega
  rw [← HZ.out.mm.len] at hD3
  have hseq := plans1_seq n HN.out.1 ms ws HZ.out (W.heap.size + 1) b sb lb W2.heap.size _ _ G _ hD3 (by simp; omega) HC3.out (by simp)
  have HF0 : Hid (∀ k, fp b sb lb (List.replicate n (Value.slice none 0 0)) k → k < (W2.alloc (.cells #[.pointer (some ⟨b, 0, none⟩)] 48)).heap.size) := fun k hf => (hD3.fp_lo hf).2
  have HG3 : Hid (∀ k, G k → k < (W2.alloc (.cells #[.pointer (some ⟨b, 0, none⟩)] 48)).heap.size) := fun k hg => by have := HGW.out k hg; simp; omega
  have eg : ∀ args w, (callFunc 34 args).run Try.prog w = .ok (.enter 34 args) w := by intro args w; simp [go_sem]
  have HI0 := Hid.intro' hI0
  clear HD2 HB2 hbx HC3 hD3 hB3 hI0 HY0 HRW H0
  generalize hW3 : (W2.alloc (.cells #[.pointer (some ⟨b, 0, none⟩)] 48)) = W3 at hseq HI0 HF0 HG3 ⊢
  have hbase : W.heap.size ≤ W3.heap.size := by rw [← hW3]; simp; omega
  clear hW3
  refine wpIn_rangeFunc_F (gf := 34) (lb := #[.pointer (some ⟨W2.heap.size, 0, none⟩)]) rfl eg hseq (Below.refl _ _) (fun x F A args h => by obtain ⟨v, rfl, _⟩ := h; rfl) HG3.out HF0.out
    (fun x F F' A A' args h hz h1 _ h3 => eb_mono x F F' A A' args h hz h1 h3) (IB J W.heap.size l) (XB Jx W.heap.size) (ib_stb HJ.out _ _) (fun c => xb_stb HJX.out _ c) HI0.out
    (fun args => { tmps := #[.func (.yield l) #[] #[], .pointer (some ⟨c1, 0, none⟩), .pointer (some ⟨c2, 0, none⟩), .pointer (some ⟨W.heap.size, 0, none⟩), args.getD 0 undef, .int .i64 (n : Int), .slice aw ws.length kw, .pointer (some ⟨b, 0, none⟩), .func (.func 34) #[] #[.pointer (some ⟨W2.heap.size, 0, none⟩)], args.getD 0 undef, undef, undef, undef, undef, undef], defers := [] }) ?assign ?body ?done ?stop
  case assign =>
    intro l' args A K hsz hK
    obtain ⟨v, rfl⟩ : ∃ v, args = #[v] := by
      have : args.size = 1 := hsz
      exact arr1 this
    have HK := Hid.intro' hK
    clear hK hseq
    gi_wp2
    exact HK.out
  case body =>
    rintro l' pre p F A args ⟨hj, hyb, hnf, hfb⟩ ⟨v, rfl, hrv, hsm⟩
    have cy : A.cell? ⟨W.heap.size, 0, none⟩ = some (.func (.yield l) #[] #[]) := by rw [cell_of_row _ _ 0 _ _ _ hyb]; rfl
    have hyl : W.heap.size < A.heap.size := (Array.getElem?_eq_some_iff.1 hyb).1
    have HC := Hid.intro' (copyOf_any F v p A.drew (hrv.below' (Below.refl _ _).drew) hsm)
    have KEY : Hid (∀ v' W4, RL (fun g => A.drew.heap.size ≤ g) W4 v' p → Below A.drew.heap.size A.drew W4 → W4.cell? ⟨W.heap.size, 0, none⟩ = some (.func (.yield l) #[] #[]) ∧
        YieldAt Fence.wide (nn - 1) Try.prog l #[v'] W4 fun e W' => ∃ t : Bool, e = .returned (.bool t) ∧ Hid ((t = true → Kept (fun k => F k ∨ G k) A W' ∧ IB J W.heap.size l (pre ++ [p]) F W') ∧ (t = false → Kept F A W' ∧ XB Jx W.heap.size .ret (pre ++ [p]) F W'))) := by
      intro v' W4 hr4 hb4
      have hb : Below A.heap.size A W4 := (Below.refl A.heap.size A).drew.trans hb4
      have hy4 := (hb.block _ hyl).trans hyb
      have hj4 := HJ.out pre _ (fun k => F k ∨ k = W.heap.size) A W4 hj (Kp.ofBelow _ hb) (fun k h => .inl h)
      refine ⟨by rw [cell_of_row _ _ 0 _ _ _ hy4]; rfl, YieldAt.mono (HY.out (nn - 1) pre p _ W4 #[v'] hj4 ⟨v', rfl, hr4.mono (fun g hg _ _ => ⟨fun hf => ?_, ?_⟩), hsm⟩) fun e W5 h => ?_⟩
      · have hg' : A.heap.size ≤ g := hg
        rcases hf with hf | hf
        · have := hfb g hf; omega
        · omega
      · have hg' : A.heap.size ≤ g := hg
        have := HWZ.out
        omega
      · rcases h with ⟨he, hj5, hk5⟩ | ⟨he, hj5, hk5⟩
        · refine ⟨true, he, fun _ => ⟨(Kept.ofBelow hb).trans (hk5.mono fun k _ h => h.elim (fun h => .inl (.inl h)) .inr), hj5, (hk5.same _ (by have := hb.size; omega) (.inl (.inr rfl))).trans hy4, hnf, fun k hk => Nat.lt_of_lt_of_le (hfb k hk) (Nat.le_trans hb.size hk5.size)⟩, fun h => (by cases h)⟩
        · exact ⟨false, he, fun h => (by cases h), fun _ => ⟨(Kept.ofBelow hb).trans (hk5.mono fun k _ h => .inl h), rfl, hj5, Nat.lt_of_lt_of_le hyl (Nat.le_trans hb.size hk5.size)⟩⟩
    have hdd' : ∀ k : Nat, ((Fence.wide.inRound l').depth.isSome = true → 1 ≤ k) := fun k h => by cases h
    have hwf' : ∀ k, (Fence.wide.inRound l').fn k := fun _ => trivial
    have hmo : Try.prog.follows .mixedOrders = true := by kernel_rfl
    clear hj hyb hnf hfb hrv hsm hyl hseq
    simp only [show (#[v] : Array Value).getD 0 undef = v from rfl]
    gi_wp2_with fail
    gi_region_with_o (first | ((try refine ⟨hdd' _, ?_⟩); gi_at_call 21; refine (CallsIn.inRound l' (callsIn_wide.2 HC.out)).mono ?_; rintro e W4 ⟨v', rfl, hr4, hb4⟩; obtain ⟨cy4, fn, tmps, assign, body, hy4, hR4⟩ := KEY.out v' W4 hr4 hb4; clear hr4 hb4) | ((try refine ⟨hdd' _, ?_⟩); refine hR4.mono ?_; rintro e W5 ⟨t, rfl, H5⟩))
    all_goals
      clear cy4 hy4 hR4 HC KEY cy
      cases t
      · have H6 := Hid.intro' (H5.out.2 rfl)
        clear H5
        gi_wp2
        exact H6.out
      · have H6 := Hid.intro' (H5.out.1 rfl)
        clear H5
        gi_wp2
        exact H6.out
  case done =>
    rintro D xs F A hD hFD rfl ⟨hj, hyb, hnf, hfb⟩ hK
    have H6 : Hid (J (plansOf n ms) (fun k => F k ∨ k = W.heap.size) (A.putObj D (.deferred none))) := HJ.out.put D _ hj (.inl hFD)
    clear hj hyb hnf hfb hseq
    gi_wp2
    refine ⟨by simp, .inl ⟨_, _, rfl, run_takeDeferred hK, ?_⟩⟩
    exact ⟨_, results_none rfl _ _ _, ⟨_, rfl⟩, .inl ⟨_, _, rfl, H6.out⟩⟩
  case stop =>
    rintro D c pre F A hD hFD hSp ⟨rfl, hjx, hlt⟩ hK
    have H6 : Hid (Jx pre (fun k => F k ∨ k = W.heap.size) (A.putObj D (.deferred none))) := HJX.out.put D _ hjx (.inl hFD)
    clear hjx hlt hseq
    gi_wp2
    refine ⟨by simp, .inl ⟨_, _, rfl, run_takeDeferred hK, ?_⟩⟩
    exact ⟨_, results_none rfl _ _ _, ⟨_, rfl⟩, .inr ⟨_, _, hSp, H6.out⟩⟩

end Go.Proofs.Ytdpfgjipjjkcgaf
