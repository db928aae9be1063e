/- The walk of the law FloorsGo. -/
import Derived.Test.YtklekpkchpnmiaaFloorsGoB
import Derived.Deep.Onto
import Derived.Lib.MinMax
namespace Go.Proofs.Ytklekpkchpnmiaa
open Go.RowKit Go.Shelf
attribute [local go_sem] Oper.semAt_some

theorem and_63 (x : Int) : ∃ k : Nat, k < 64 ∧ bits BinOp.and IntKind.i64 x 63 = (k : Int) := by
  refine ⟨((BitVec.ofInt 64 x) &&& (BitVec.ofInt 64 63)).toNat, ?_, ?_⟩
  · rw [BitVec.toNat_and]
    have h : (BitVec.ofInt 64 63).toNat = 63 := by decide
    rw [h]
    exact Nat.lt_of_le_of_lt Nat.and_le_right (by omega)
  · show IntKind.i64.wrap ((BitVec.ofInt 64 x &&& BitVec.ofInt 64 (63 : Int)).toNat : Int) = _
    have h : (BitVec.ofInt 64 63).toNat = 63 := by decide
    have h2 : ((BitVec.ofInt 64 x) &&& (BitVec.ofInt 64 63)).toNat < 64 := by
      rw [BitVec.toNat_and, h]
      exact Nat.lt_of_le_of_lt Nat.and_le_right (by omega)
    rw [IntKind.wrap_i64]
    generalize ((BitVec.ofInt 64 x) &&& (BitVec.ofInt 64 63)).toNat = m at h2 ⊢
    omega

theorem row_cap {W : World} {base n c : Nat} {p : Option Addr} {xs : List Value} (h : W.ownsRow base 3 1 (.slice p n c) n xs) : n ≤ c := by
  rcases h.2 with ⟨e, rfl⟩ | ⟨g, cap, cur, e, _, _, h, _⟩
  · cases e; exact Nat.le_refl _
  · cases e; exact h
theorem slice_head (aa : Option Addr) (La ac n : Nat) (w : World) (h : n ≤ ac) : (Instr.sliceAt 22 (.slice aa La ac) none (some (.int .i64 (n : Int))) none).run Try.prog w = .ok (.slice aa n ac) w := by
  obtain ⟨i0, hi, hz0, hz1, hz2⟩ := info_parts info3
  have he : Try.prog.elem 22 = 3 := by kernel_rfl
  rw [run_sliceAt_slice (P := Try.prog) w 22 _ _ _ _ (by rw [he]; exact Try.underlying22), run_slice_h (P := Try.prog) w 22 aa La ac (by rw [he]; exact Try.underlying22) .i64 (n : Int) (by omega) (by omega), he]
  have hsz : (sizeOf 3).run Try.prog w = .ok 1 w := by kernel_rfl
  rw [hsz]
  have hm : aa.map (fun x : Addr => x.add 0) = aa := by cases aa <;> rfl
  simp [Result.andThen, sliced, hm]
theorem wpQuiet_slice {ops : Array Oper} {C : World → Prop} {Q : Act → Prop} {rest : List Oper} {o : Oper} {a : Act} (x h : Operand) (aa : Option Addr) (La ac n : Nat) (m : Int) (hw : Region.wanted o (yielded ops a.tmps) = true)
    (ho : o.op = .slice 22 x none (some h) none) (hx : a.eval x = .slice aa La ac) (hh : a.eval h = .int .i64 m) (hm : m = (n : Int)) (hn : n ≤ ac)
    (hK : wpQuiet Try.prog ops C Q rest (a.put o.dst (.slice aa n ac))) : wpQuiet Try.prog ops C Q (o :: rest) a :=
  wpQuiet_val _ hw (fun w _ => by subst hm; unfold execOp; simp only [ho, hx, hh, Option.map_none, Option.map_some, Sem.run_bind, Sem.run_pure, Result.andThen_ok, slice_head aa La ac n w hn]) hK
theorem rowAt_own {W : World} {base n m c : Nat} {p : Option Addr} {xs : List Value} (h : W.ownsRow base 3 1 (.slice p n c) n xs) (hm : m ≤ n) : RowAt W p m xs := by
  rcases h.2 with ⟨e, rfl⟩ | ⟨g, cap, cur, e, _⟩
  · exact .inl (by omega)
  · cases e
    exact .inr ⟨g, 0, rfl, fun i hi => by rw [Nat.zero_add]; exact h.cellAt i (by omega)⟩
theorem RowAt.of {W : World} {p : Option Addr} {m : Nat} {xs ys : List Value} (h : RowAt W p m xs) (e : ∀ i, i < m → xs[i]? = ys[i]?) : RowAt W p m ys := by
  rcases h with h | ⟨b, o, rfl, h⟩
  · exact .inl h
  · exact .inr ⟨b, o, rfl, fun i hi => (h i hi).trans (e i hi)⟩
theorem iv_take (A : List Nat) (k i : Nat) (hi : i < (A.take k).length) : (iv A)[i]? = (iv (A.take k))[i]? := by
  have : i < k := by rw [List.length_take] at hi; omega
  unfold iv
  rw [List.getElem?_map, List.getElem?_map, List.getElem?_take_of_lt this]
theorem iv_int (A : List Nat) (i : Nat) (hi : i < A.length) : ∃ x : Int, (iv A)[i]? = some (.int .i64 x) := by
  unfold iv
  rw [List.getElem?_map, List.getElem?_eq_getElem hi]
  exact ⟨_, rfl⟩
theorem near_cases (s : Nat) (f : Int) : (∃ a : Nat, nearN s f = (a, true) ∧ nearI s f = (a : Int)) ∨ (nearN s f = (0, false) ∧ nearI s f = -1) := by
  unfold nearI
  obtain ⟨R, hR⟩ : ∃ R : Nat × Bool, nearN s f = R := ⟨_, rfl⟩
  have key : R.2 = false → R.1 = 0 := by
    rw [← hR]
    unfold nearN
    generalize (FM.downL s f).head? = d
    generalize (FM.upL s f).head? = u
    cases d <;> cases u <;> simp
    split <;> simp
  rw [hR]
  obtain ⟨a, b⟩ := R
  cases b
  · right; simp at key; subst key; exact ⟨rfl, by simp⟩
  · left; exact ⟨a, rfl, by simp⟩

set_option maxRecDepth 100000 in
set_option maxHeartbeats 4000000 in
theorem go_any (s : Nat) (f mo : Int) (w : World) (hs : s < 18446744073709551616) :
    Calls Try.prog 7 #[.int .u64 s, .int .i64 f, .int .i64 mo] w fun e w' => e = .returned (.bool true) ∧ Below w.heap.size w w' := by
  obtain ⟨kk, hkk, hkb⟩ := and_63 mo
  obtain ⟨i0, hi, hz0, hz1, hz2⟩ := info_parts info3
  have hkI : (kk : Int) < 64 := by omega
  refine (callsIn_wide (n := 9)).1 ?_
  refine callsIn_of_wp_marks Try.func7 rfl trivial ?_ rfl
  simp only [Try.ntmps7, List.size_toArray, List.length_cons, List.length_nil, Nat.reduceAdd, Nat.reduceSub, Array.replicate_succ, Array.replicate_zero, List.push_toArray, List.append_toArray, List.nil_append, List.cons_append]
  gi_wp2_with fail
  refine ⟨trivial, ?_⟩
  refine (callsIn_wide.2 (fspeaks_any _)).mono ?_
  rintro e W1 ⟨rfl, hb1⟩
  have HB1 := Hid.intro' hb1
  clear hb1
  gi_wp2_with (refine ⟨trivial, ?_⟩; gi_at_call 28; refine (callsIn_wide.2 (up_any _ _ _)).mono ?_; rintro e w' ⟨rfl, rfl⟩)
  have hT0 := two_start W1 kk
  have d5 := (Boxed.new (((((W1.alloc (.cells #[.int .i64 (kk : Int)] 3)).alloc (.cells #[] 3)).alloc (.cells #[] 3)).alloc (.cells #[.slice (some ⟨W1.heap.size + 1, 0, none⟩) 0 0] 22)).alloc (.cells #[.slice (some ⟨W1.heap.size + 1 + 1, 0, none⟩) 0 0] 22)) 33 (.int .u64 s)).alloc (.cells #[.int .i64 f] 3)
  have d6 := Boxed.new ((((((W1.alloc (.cells #[.int .i64 (kk : Int)] 3)).alloc (.cells #[] 3)).alloc (.cells #[] 3)).alloc (.cells #[.slice (some ⟨W1.heap.size + 1, 0, none⟩) 0 0] 22)).alloc (.cells #[.slice (some ⟨W1.heap.size + 1 + 1, 0, none⟩) 0 0] 22)).alloc (.cells #[.int .u64 s] 33)) 3 (.int .i64 f)
  have hT1 := (hT0.alloc (.cells #[.int .u64 s] 33)).alloc (.cells #[.int .i64 f] 3)
  have hsz : ((((((((W1.alloc (.cells #[.int .i64 (kk : Int)] 3)).alloc (.cells #[] 3)).alloc (.cells #[] 3)).alloc (.cells #[.slice (some ⟨W1.heap.size + 1, 0, none⟩) 0 0] 22)).alloc (.cells #[.slice (some ⟨W1.heap.size + 1 + 1, 0, none⟩) 0 0] 22)).alloc (.cells #[.int .u64 s] 33)).alloc (.cells #[.int .i64 f] 3))).heap.size = W1.heap.size + 7 := by simp only [World.size_alloc]
  have hB3 : Below W1.heap.size W1 (((((((W1.alloc (.cells #[.int .i64 (kk : Int)] 3)).alloc (.cells #[] 3)).alloc (.cells #[] 3)).alloc (.cells #[.slice (some ⟨W1.heap.size + 1, 0, none⟩) 0 0] 22)).alloc (.cells #[.slice (some ⟨W1.heap.size + 1 + 1, 0, none⟩) 0 0] 22)).alloc (.cells #[.int .u64 s] 33)).alloc (.cells #[.int .i64 f] 3)) :=
    (((((((Below.refl _ W1).alloc (Nat.le_refl _) _).alloc (by simp only [World.size_alloc]; omega) _).alloc (by simp only [World.size_alloc]; omega) _).alloc (by simp only [World.size_alloc]; omega) _).alloc (by simp only [World.size_alloc]; omega) _).alloc (by simp only [World.size_alloc]; omega) _).alloc (by simp only [World.size_alloc]; omega) _
  simp only [World.size_alloc] at d5 d6
  have hMw : w.heap.size ≤ W1.heap.size := HB1.out.size
  have HB3 := Hid.intro' (HB1.out.trans (hB3.mono HB1.out.size))
  clear hB3 HB1 hT0
  generalize (((((((W1.alloc (.cells #[.int .i64 (kk : Int)] 3)).alloc (.cells #[] 3)).alloc (.cells #[] 3)).alloc (.cells #[.slice (some ⟨W1.heap.size + 1, 0, none⟩) 0 0] 22)).alloc (.cells #[.slice (some ⟨W1.heap.size + 1 + 1, 0, none⟩) 0 0] 22)).alloc (.cells #[.int .u64 s] 33)).alloc (.cells #[.int .i64 f] 3)) = WL at hT1 d5 d6 hsz HB3 ⊢
  generalize W1.heap.size = M at hT1 d5 d6 hsz hMw ⊢
  refine wpIn_rangeFunc_brk rfl (by decide) (gf := 38) (lb := #[.pointer (some ⟨M + 1 + 1 + 1 + 1 + 1 + 1, 0, none⟩), .pointer (some ⟨M + 1 + 1 + 1 + 1 + 1, 0, none⟩)]) rfl trivial (enters_of Try.func38 (by kernel_rfl) rfl)
    (up_stops 8 (M + 1 + 1 + 1 + 1 + 1 + 1) (M + 1 + 1 + 1 + 1 + 1) s f hs WL d6.lt d5.lt d6.cell d5.cell) keepC_t (keepC_b d5.lt) (Below.refl _ _) (fun _ => rfl)
    (fun pre W => pre.length ≤ kk ∧ Two W M kk pre [] ∧ Boxed W (M + 1 + 1 + 1 + 1 + 1) 33 (.int .u64 s) ∧ Below w.heap.size w W)
    (fun c pre W => (c = .exit 0 ∧ pre.dropLast.length = kk ∧ ∃ x, pre = pre.dropLast ++ [x]) ∧ Two W M kk pre.dropLast [] ∧ Below w.heap.size w W)
    (OwnFrom.and (ownFrom_pure _ _) (OwnFrom.and (Own.from (two_own M kk (fun p : List Nat => p) (fun _ => [])) _) (OwnFrom.and (Own.from (boxed_own _ _ _) _) (ownFrom_below (Nat.le_refl _) (by omega)))))
    (fun c => OwnFrom.and (ownFrom_pure _ _) (OwnFrom.and (Own.from (two_own M kk (fun p : List Nat => p.dropLast) (fun _ => [])) _) (ownFrom_below (Nat.le_refl _) (by omega))))
    ⟨Nat.zero_le _, hT1, d5, HB3.out⟩
    (fun W => Two W M kk ((FM.upL s f).take kk) [] ∧ Below w.heap.size w W)
    (fun xs W e h => ⟨by subst e; rw [take_done h.1]; exact h.2.1, h.2.2.2⟩)
    (fun c pre W e h => ⟨h.1.1, by
      obtain ⟨x, hx⟩ := h.1.2.2
      rw [← take_stop (hx ▸ e) h.1.2.1]; exact h.2.1, h.2.2⟩)
    ?a1 ?assign ?body ?tail
  case assign =>
    intro l x W K hK
    gi_wp2
    exact hK
  case body =>
    rintro l pre x W ⟨hlen, htwo, hbs, hB⟩ _
    clear hT1 HB3 d5 d6
    obtain ⟨t0, u, v, t1, t2, t3, t4, t5⟩ := htwo
    obtain ⟨ua, uc, rfl⟩ := row_form t3
    have HT := Hid.intro' (⟨t0, t1, t2, t3, t4, t5⟩ : _ ∧ _ ∧ _ ∧ _ ∧ _ ∧ _)
    have HX := Hid.intro' hbs
    have HB := Hid.intro' hB
    have c0 := t0.cell
    have c1 := t1.cell
    have f1 := t1.frozen
    have hbsz := t2.lt
    clear t0 t1 t2 t3 t4 t5 hbs hB
    have hwf : ∀ k : FuncId, Fence.wide.fn k := fun _ => trivial
    by_cases hk : pre.length = kk
    · have hkI' : (pre.length : Int) = (kk : Int) := by omega
      gi_wp2
      exact ⟨KeepsOthers.refl _, ⟨rfl, by rw [List.dropLast_concat]; exact hk, x, by rw [List.dropLast_concat]⟩, by rw [List.dropLast_concat]; exact ⟨HT.out.1, _, _, HT.out.2⟩, HB.out⟩
    · have hkI' : ¬ (pre.length : Int) = (kk : Int) := by omega
      gi_wp2_with (gi_at_builtin; refine wpListIn_append_lies _ rfl _ _ 22 rfl (M + 1) 3 i0 (.int .i64 0) 1 8 Try.underlying22 hi hz0 hz1 hz2 rfl (by decide) _ _ _ rfl (HT.out.2.2.2.1.alloc _) ⟨W.heap.size, 0, none⟩ 1 1 [.int .i64 (x : Int)] rfl rfl (cell_one_new _ _ _) (by simp [Value.oneCell']) (by decide) (by unfold maxLen; omega) (by omega) (by simp; omega) (W.heap.size + 1) (by simp) ?_; intro g cap w1 hown' hgrow hat hlt; have hq := Two.up (x := x) HT.out.1 HT.out.2.1 HT.out.2.2.1 HT.out.2.2.2.1 HT.out.2.2.2.2.1 HT.out.2.2.2.2.2 hown' (by simp) hgrow hat; have c2 := hq.2.1.cell; have f2 := hq.2.1.frozen; have HQ := Hid.intro' hq; clear hq hown' hgrow hat hlt c1 f1 c0)
      exact ⟨HQ.out.2.2.1, ((HQ.out.2.2.2.2 _ _ HX.out).cell.trans HX.out.cell.symm), by simp; omega, HQ.out.1, HQ.out.2.2.2.2 _ _ HX.out, HB.out.trans (HQ.out.2.2.2.1.mono (by omega))⟩
  case tail =>
    rintro D W hD ⟨htwo, hB⟩ hK
    clear hT1 HB3 d5 d6
    have hDl := mark_lt hK
    have d5 := (Boxed.new W 33 (.int .u64 s)).alloc (.cells #[.int .i64 f] 3)
    have d6 := Boxed.new (W.alloc (.cells #[.int .u64 s] 33)) 3 (.int .i64 f)
    rw [World.size_alloc] at d6
    have D5 := Hid.intro' d5
    have D6 := Hid.intro' d6
    have HT := Hid.intro' ((htwo.alloc (.cells #[.int .u64 s] 33)).alloc (.cells #[.int .i64 f] 3))
    have HB := Hid.intro' ((hB.alloc hB.size (.cells #[.int .u64 s] 33)).alloc (by have := hB.size; simp; omega) (.cells #[.int .i64 f] 3))
    have HK := Hid.intro' ((Below.heap_alloc (W.alloc (.cells #[.int .u64 s] 33)) (.cells #[.int .i64 f] 3) D (by simp; omega)).trans ((Below.heap_alloc W (.cells #[.int .u64 s] 33) D hDl).trans hK))
    have HS2 := Hid.intro' (show ((W.alloc (.cells #[.int .u64 s] 33)).alloc (.cells #[.int .i64 f] 3)).heap.size = W.heap.size + 2 by simp only [World.size_alloc])
    have hBw : w.heap.size ≤ W.heap.size := hB.size
    have hMW : M + 1 + 1 + 1 + 1 < W.heap.size := by obtain ⟨_, _, _, _, h, _⟩ := htwo; exact h.lt
    clear htwo hB hK d5 d6
    gi_wp2_with (refine ⟨trivial, ?_⟩; gi_at_call 29; refine (callsIn_wide.2 (down_any _ _ _)).mono ?_; rintro e w' ⟨rfl, rfl⟩)
    generalize (W.alloc (.cells #[.int .u64 s] 33)).alloc (.cells #[.int .i64 f] 3) = WM at D5 D6 HT HB HK HS2 ⊢
    generalize W.heap.size = M2 at D5 D6 HS2 hDl hBw hMW ⊢
    have hsM := HS2.out
    refine wpIn_rangeFunc_brk rfl (by decide) (gf := 39) (lb := #[.pointer (some ⟨M2 + 1, 0, none⟩), .pointer (some ⟨M2, 0, none⟩)]) rfl trivial (enters_of Try.func39 (by kernel_rfl) rfl)
      (down_stops 8 (M2 + 1) M2 s f hs WM D6.out.lt D5.out.lt D6.out.cell D5.out.cell) keepC_t (keepC_b D5.out.lt) (Below.refl _ _) (fun _ => rfl)
      (fun pre W => pre.length ≤ kk ∧ Two W M kk ((FM.upL s f).take kk) pre ∧ Boxed W M2 33 (.int .u64 s) ∧ Below w.heap.size w W ∧ W.heap[D]? = some (.deferred (some [])))
      (fun c pre W => (c = .exit 2 ∧ pre.dropLast.length = kk ∧ ∃ x, pre = pre.dropLast ++ [x]) ∧ Two W M kk ((FM.upL s f).take kk) pre.dropLast ∧ Below w.heap.size w W ∧ W.heap[D]? = some (.deferred (some [])))
      (OwnFrom.and (ownFrom_pure _ _) (OwnFrom.and (Own.from (two_own M kk (fun _ : List Nat => (FM.upL s f).take kk) (fun p => p)) _) (OwnFrom.and (Own.from (boxed_own _ _ _) _) (OwnFrom.and (ownFrom_below (Nat.le_refl _) (by omega)) (ownFrom_mark (by omega) _ (fun _ h => mark_lt h))))))
      (fun c => OwnFrom.and (ownFrom_pure _ _) (OwnFrom.and (Own.from (two_own M kk (fun _ : List Nat => (FM.upL s f).take kk) (fun p => p.dropLast)) _) (OwnFrom.and (ownFrom_below (Nat.le_refl _) (by omega)) (ownFrom_mark (by omega) _ (fun _ h => mark_lt h)))))
      ⟨Nat.zero_le _, HT.out, D5.out, HB.out, HK.out⟩
      (fun W => Two W M kk ((FM.upL s f).take kk) ((FM.downL s f).take kk) ∧ Below w.heap.size w W ∧ W.heap[D]? = some (.deferred (some [])))
      (fun xs W e h => ⟨by subst e; rw [take_done h.1]; exact h.2.1, h.2.2.2⟩)
      (fun c pre W e h => ⟨h.1.1, by
        obtain ⟨x, hx⟩ := h.1.2.2
        have e' : pre.dropLast ++ [x] <+: FM.downL s f := by rw [← hx]; exact e
        rw [← take_stop e' h.1.2.1]; exact h.2.1, h.2.2⟩)
      ?a2 ?assign2 ?body2 ?tail2
    case assign2 =>
      intro l x W K hK
      gi_wp2
      exact hK
    case body2 =>
      rintro l pre x W ⟨hlen, htwo, hbs, hB, hmark⟩ _
      clear HT HB D5 D6 HK HS2
      obtain ⟨t0, u, v, t1, t2, t3, t4, t5⟩ := htwo
      obtain ⟨ua, uc, rfl⟩ := row_form t4
      have HT := Hid.intro' (⟨t0, t1, t2, t3, t4, t5⟩ : _ ∧ _ ∧ _ ∧ _ ∧ _ ∧ _)
      have HX := Hid.intro' hbs
      have HB := Hid.intro' hB
      have HM := Hid.intro' hmark
      have c0 := t0.cell
      have c1 := t2.cell
      have f1 := t2.frozen
      have hbsz := t2.lt
      clear t0 t1 t2 t3 t4 t5 hbs hB hmark
      have hwf : ∀ k : FuncId, Fence.wide.fn k := fun _ => trivial
      by_cases hk : pre.length = kk
      · have hkI' : (pre.length : Int) = (kk : Int) := by omega
        gi_wp2
        exact ⟨KeepsOthers.refl _, ⟨rfl, by rw [List.dropLast_concat]; exact hk, x, by rw [List.dropLast_concat]⟩, by rw [List.dropLast_concat]; exact ⟨HT.out.1, _, _, HT.out.2⟩, HB.out, HM.out⟩
      · have hkI' : ¬ (pre.length : Int) = (kk : Int) := by omega
        gi_wp2_with (gi_at_builtin; refine wpListIn_append_lies _ rfl _ _ 22 rfl (M + 1) 3 i0 (.int .i64 0) 1 8 Try.underlying22 hi hz0 hz1 hz2 rfl (by decide) _ _ _ rfl (HT.out.2.2.2.2.1.alloc _) ⟨W.heap.size, 0, none⟩ 1 1 [.int .i64 (x : Int)] rfl rfl (cell_one_new _ _ _) (by simp [Value.oneCell']) (by decide) (by unfold maxLen; omega) (by omega) (by simp; omega) (W.heap.size + 1) (by simp) ?_; intro g cap w1 hown' hgrow hat hlt; have hq := Two.down (x := x) HT.out.1 HT.out.2.1 HT.out.2.2.1 HT.out.2.2.2.1 HT.out.2.2.2.2.1 HT.out.2.2.2.2.2 hown' (by simp) hgrow hat; have c2 := hq.2.1.cell; have f2 := hq.2.1.frozen; have HQ := Hid.intro' hq; clear hq hown' hgrow hat hlt c1 f1 c0)
        exact ⟨HQ.out.2.2.1, ((HQ.out.2.2.2.2 _ _ HX.out).cell.trans HX.out.cell.symm), by simp; omega, HQ.out.1, HQ.out.2.2.2.2 _ _ HX.out, HB.out.trans (HQ.out.2.2.2.1.mono (by omega)), HQ.out.2.2.1.same D _ HM.out rfl⟩
    case tail2 =>
      rintro D2 W3 hD2 ⟨htwo, hB, hK1⟩ hK2
      clear HT HB D5 D6 HK HS2
      have HH := Hid.intro' (show Held w W3 M kk ((FM.upL s f).take kk) ((FM.downL s f).take kk) D D2 from ⟨htwo, hB, hK1, hK2⟩)
      clear htwo hB hK1 hK2
      gi_wp2_with fail
      refine ⟨trivial, ?_⟩
      refine (callsIn_wide.2 (list_up s f _ hs)).mono ?_
      rintro e W4 ⟨va, rfl, hoa, hba⟩
      have HH4 := Hid.intro' (HH.out.below hba)
      obtain ⟨aa, ac, rfl⟩ := row_form hoa
      have HA := Hid.intro' (hoa.mono (Nat.zero_le _))
      clear HH hoa hba
      gi_wp2_with fail
      refine ⟨trivial, ?_⟩
      refine (callsIn_wide.2 (list_down s f _ hs)).mono ?_
      rintro e W5 ⟨vb, rfl, hob, hbb⟩
      have HH5 := Hid.intro' (HH4.out.below hbb)
      have HA5 := Hid.intro' (row_below HA.out hbb)
      obtain ⟨ba, bc, rfl⟩ := row_form hob
      have HV := Hid.intro' (hob.mono (Nat.zero_le _))
      clear HH4 HA hob hbb
      gi_wp2_with fail
      refine ⟨trivial, ?_⟩
      refine (callsIn_wide.2 (nearest_any s f _ hs)).mono ?_
      rintro e W6 ⟨rfl, hb6⟩
      have HH6 := Hid.intro' (HH5.out.below hb6)
      have HA6 := Hid.intro' (row_below HA5.out hb6)
      have HV6 := Hid.intro' (row_below HV.out hb6)
      clear HH5 HA5 HV hb6
      gi_wp2_with fail
      refine ⟨trivial, ?_⟩
      refine (callsIn_wide.2 (rnear_any s f _ hs)).mono ?_
      rintro e W7 ⟨rfl, hb7⟩
      have HH7 := Hid.intro' (HH6.out.below hb7)
      have HA7 := Hid.intro' (row_below HA6.out hb7)
      have HV7 := Hid.intro' (row_below HV6.out hb7)
      clear HH6 HA6 HV6 hb7
      have hl1 : (FM.upL s f).length ≤ 64 := by unfold FM.upL; have := FM.seg_length s f.toNat 64; omega
      have hl2 : (FM.downL s f).length ≤ 64 := dnL_length s f 64
      have hm1 : min (kk : Int) ((FM.upL s f).length : Int) = (((FM.upL s f).take kk).length : Int) := by rw [List.length_take]; omega
      have hm2 : min (kk : Int) ((FM.downL s f).length : Int) = (((FM.downL s f).take kk).length : Int) := by rw [List.length_take]; omega
      have hm3 : ((FM.upL s f).take kk).length ≤ (FM.upL s f).length := by rw [List.length_take]; omega
      have hm4 : ((FM.downL s f).take kk).length ≤ (FM.downL s f).length := by rw [List.length_take]; omega
      obtain ⟨⟨t0, u, v, t1, t2, t3, t4, t5⟩, _⟩ := HH7.out
      obtain ⟨ua, uc, rfl⟩ := row_form t3
      obtain ⟨da, dc, rfl⟩ := row_form t4
      have hS1 : Hid (∀ c1 c2 m, Calls Try.prog 33 #[.slice ua ((FM.upL s f).take kk).length c1, .slice aa ((FM.upL s f).take kk).length c2] (W7.drewN m) fun e w' => e = .returned (.bool true) ∧ ∃ m', w' = (W7.drewN m).drewN m') :=
        Hid.intro' fun c1 c2 m => same_any _ _ _ c1 c2 (iv ((FM.upL s f).take kk)) _ (by omega) (iv_int _) (rowAt_own t3 (Nat.le_refl _)) ((rowAt_own HA7.out hm3).of (iv_take _ _))
      have hS2 : Hid (∀ c1 c2 m, Calls Try.prog 33 #[.slice da ((FM.downL s f).take kk).length c1, .slice ba ((FM.downL s f).take kk).length c2] (W7.drewN m) fun e w' => e = .returned (.bool true) ∧ ∃ m', w' = (W7.drewN m).drewN m') :=
        Hid.intro' fun c1 c2 m => same_any _ _ _ c1 c2 (iv ((FM.downL s f).take kk)) _ (by omega) (iv_int _) (rowAt_own t4 (Nat.le_refl _)) ((rowAt_own HV7.out hm4).of (iv_take _ _))
      have c0 := t0.cell
      have c1 := t1.cell
      have c2 := t2.cell
      have hac : ((FM.upL s f).take kk).length ≤ ac := Nat.le_trans hm3 (row_cap HA7.out)
      have hbc : ((FM.downL s f).take kk).length ≤ bc := Nat.le_trans hm4 (row_cap HV7.out)
      have hm5 : min kk (FM.upL s f).length = ((FM.upL s f).take kk).length := by rw [List.length_take]
      have hm6 : min kk (FM.downL s f).length = ((FM.downL s f).take kk).length := by rw [List.length_take]
      clear t0 t1 t2 t3 t4 t5 HA7 HV7
      generalize ((FM.upL s f).take kk).length = nU at hS1 hm1 hm3 hm5 hac c1
      generalize ((FM.downL s f).take kk).length = nV at hS2 hm2 hm4 hm6 hbc c2
      generalize (FM.upL s f).length = La at hl1 hm1 hm3 hm5 ⊢
      generalize (FM.downL s f).length = Lb at hl2 hm2 hm4 hm6 ⊢
      rcases near_cases s f with ⟨a, e1, e2⟩ | ⟨e1, e2⟩
      all_goals
        rw [e1, e2]
        clear e1 e2
        gi_wp2_with fail
        refine wpIn_wide.2 ?_
        refine wp_region_quiet_lit (by kernel_rfl) (by kernel_rfl) ?_
        iterate 6 (quiet_step (fail))
        refine wpQuiet_slice _ _ aa La ac nU _ rfl rfl rfl rfl (by omega) hac ?_
        quiet_step (exact Calls.quiet_of (hS1.out _ _ _))
        iterate 7 (quiet_step (fail))
        refine wpQuiet_slice _ _ ba Lb bc nV _ rfl rfl rfl rfl (by omega) hbc ?_
        quiet_step (exact Calls.quiet_of (hS2.out _ _ _))
        iterate 2 (quiet_step (fail))
        refine wpQuiet_nil ?_
        intro W8 hW8
        obtain ⟨nq, rfl⟩ := hW8
        have q1 : (W7.drewN nq).heap[D]? = some (.deferred (some [])) := HH7.out.2.2.1
        have q2 : (W7.drewN nq).heap[D2]? = some (.deferred (some [])) := HH7.out.2.2.2
        have q4 : Below w.heap.size w (W7.drewN nq) := below_drewN HH7.out.2.1 nq
        clear c0 c1 c2 hS1 hS2 HH7
        generalize W7.drewN nq = W5 at q1 q2 q4 ⊢
        gi_wp2
        have hne : D ≠ D2 := by omega
        have q5 : (W5.putObj D2 (.deferred none)).heap[D]? = some (.deferred (some [])) := (World.putObj_heap_other hne).trans q1
        have hB5 := q4.trans (belowK_b (w := w) (Nat.le_refl _) W5 D2 _ (.deferred none) (by omega) q2 rfl rfl)
        have hB6 := hB5.trans (belowK_b (w := w) (Nat.le_refl _) _ D _ (.deferred none) (by omega) q5 rfl rfl)
        refine ⟨by simp, .inl ⟨_, _, rfl, run_takeDeferred q2, ?_⟩⟩
        refine ⟨by simp, .inl ⟨_, _, rfl, run_takeDeferred q5, ?_⟩⟩
        refine ⟨.bool true, ?_, rfl, hB6⟩
        simp [results, Try.f7, go_sem]

end Go.Proofs.Ytklekpkchpnmiaa
