/- Whether a site may be, as the program tells it. -/
import Derived.Test.YtkcppidmbojglagSiteI
namespace Go.Proofs.Ytkcppidmbojglag
open Go.RowKit Go.Shelf
attribute [local go_sem] Oper.semAt_some

def allOk (l : List (Int × Int × Int)) : Bool := l.all okB
theorem allOk_snoc (l : List (Int × Int × Int)) (x : Int × Int × Int) : allOk (l ++ [x]) = (allOk l && okB x) := by unfold allOk; rw [List.all_append]; simp
theorem keepA_refl (W : World) : KeepA W W := fun _ _ _ _ h => h
theorem keepA_t {A B C : World} (h : KeepA A B) (k : KeepA B C) : KeepA A C := fun i c t fr hi => k i c t fr (h i c t fr hi)
theorem keepA_below {A B : World} (h : Below A.heap.size A B) : KeepA A B := fun i _ _ _ hi => (h.block i (Array.getElem?_eq_some_iff.1 hi).1).trans hi
theorem keepA_b (W : World) (l : Nat) (o o' : Obj) (h : W.heap[l]? = some o) (h1 : o.isCells = false) : KeepA W (W.putObj l o') := fun i c t fr hi =>
  ((grownBy_putObj' W l o').block i (Array.getElem?_eq_some_iff.1 hi).1 (fun e => by
    cases e
    rw [hi] at h
    cases h
    cases h1)).trans hi
/-- the frame of a round -/
def RA (w0 : World) (s : St) (n0 : Nat) (x : Int × Int × Int) (a' : Act) (W : World) : Prop := ∃ B : Nat, n0 ≤ B ∧ W.heap[B]? = some (.cells #[.int .i64 x.2.1, .int .i64 x.2.2] 81 (0, 0)) ∧
  a' = { tmps := #[.agg (sv s).toArray, .pointer (some ⟨w0.heap.size, 0, none⟩), .pointer (some ⟨w0.heap.size + 1, 0, none⟩), .int .i64 x.1, .pointer (some ⟨B, 0, none⟩), .agg (sv s).toArray, .func (.func 45) #[] #[.pointer (some ⟨w0.heap.size + 1 + 1, 0, none⟩)], .int .i64 x.1, .agg #[.int .i64 x.2.1, .int .i64 x.2.2], undef, undef, undef, undef, undef, undef, undef, undef, undef, undef], defers := [] }
theorem ra_own (w0 : World) (s : St) (n0 m : Nat) (x : Int × Int × Int) (a' : Act) : OwnFrom m (fun (_ : Unit) W => RA w0 s n0 x a' W) := by
  rintro _ X Y row ⟨B, hn, hB, he⟩ hg hr
  refine ⟨B, hn, (hg.block B (Array.getElem?_eq_some_iff.1 hB).1 (fun e => ?_)).trans hB, he⟩
  obtain ⟨_, o, ho, hc⟩ := hr B e.symm
  rw [hB] at ho
  cases ho
  cases hc

set_option maxRecDepth 100000 in
set_option maxHeartbeats 2000000 in
theorem right_any (s : St) (w : World) :
    Calls Try.prog 27 #[.agg (sv s).toArray] w fun e w' => e = .returned (.bool (rightB s)) ∧ Below w.heap.size w w' := by
  refine (callsIn_wide (n := 9)).1 ?_
  refine callsIn_of_wp_marks Try.func27 rfl trivial ?_ rfl
  simp only [Try.ntmps27, List.size_toArray, List.length_cons, List.length_nil, Nat.reduceAdd, Nat.reduceSub, Array.replicate_succ, Array.replicate_zero, List.push_toArray, List.append_toArray, List.nil_append, List.cons_append]
  have n1 := (SB.new w s).alloc (.cells #[.bool false] 4)
  have hc0 : ((w.alloc (.cells (sv s).toArray 23)).alloc (.cells #[.bool false] 4)).cell? ⟨w.heap.size, 0, none⟩ = some (.int .i64 s.fl) := n1.cell 0
  have hc1 : ((w.alloc (.cells (sv s).toArray 23)).alloc (.cells #[.bool false] 4)).cell? ⟨w.heap.size, 1, none⟩ = some (.int .i64 s.ca) := n1.cell 1
  have hc2 : ((w.alloc (.cells (sv s).toArray 23)).alloc (.cells #[.bool false] 4)).cell? ⟨w.heap.size, 2, none⟩ = some (.int .i64 s.sta) := n1.cell 2
  have hc3 : ((w.alloc (.cells (sv s).toArray 23)).alloc (.cells #[.bool false] 4)).cell? ⟨w.heap.size, 3, none⟩ = some (.int .i64 s.ste) := n1.cell 3
  have hc4 : ((w.alloc (.cells (sv s).toArray 23)).alloc (.cells #[.bool false] 4)).cell? ⟨w.heap.size, 4, none⟩ = some (.int .i64 s.sto) := n1.cell 4
  have hc5 : ((w.alloc (.cells (sv s).toArray 23)).alloc (.cells #[.bool false] 4)).cell? ⟨w.heap.size, 5, none⟩ = some (.int .i64 s.opn) := n1.cell 5
  have hc6 : ((w.alloc (.cells (sv s).toArray 23)).alloc (.cells #[.bool false] 4)).cell? ⟨w.heap.size, 6, none⟩ = some (.int .i64 s.wai) := n1.cell 6
  have hc7 : ((w.alloc (.cells (sv s).toArray 23)).alloc (.cells #[.bool false] 4)).cell? ⟨w.heap.size, 7, none⟩ = some (.int .i64 s.clo) := n1.cell 7
  have hc8 : ((w.alloc (.cells (sv s).toArray 23)).alloc (.cells #[.bool false] 4)).cell? ⟨w.heap.size, 8, none⟩ = some (.int .i64 s.nud) := n1.cell 8
  have hc9 : ((w.alloc (.cells (sv s).toArray 23)).alloc (.cells #[.bool false] 4)).cell? ⟨w.heap.size, 9, none⟩ = some (.int .i64 s.age) := n1.cell 9
  have hc10 : ((w.alloc (.cells (sv s).toArray 23)).alloc (.cells #[.bool false] 4)).cell? ⟨w.heap.size, 10, none⟩ = some (.int .i64 s.sil) := n1.cell 10
  have hc11 : ((w.alloc (.cells (sv s).toArray 23)).alloc (.cells #[.bool false] 4)).cell? ⟨w.heap.size, 11, none⟩ = some (.int .i64 s.bud) := n1.cell 11
  have hc12 : ((w.alloc (.cells (sv s).toArray 23)).alloc (.cells #[.bool false] 4)).cell? ⟨w.heap.size, 12, none⟩ = some (.int .i64 s.per) := n1.cell 12
  have hwf : ∀ k, Fence.wide.fn k := fun _ => trivial
  clear n1
  gi_wp2_with (gi_at_call 41; refine (callsIn_wide.2 (bounds_any s _)).mono ?_; rintro e w' ⟨rfl, rfl⟩)
  clear hc0 hc1 hc2 hc3 hc4 hc5 hc6 hc7 hc8 hc9 hc10 hc11 hc12
  have bR0 := (Boxed.new (w.alloc (.cells (sv s).toArray 23)) 4 (.bool false)).alloc (.cells (sv s).toArray 23)
  rw [World.size_alloc] at bR0
  have hs0 := SB.new ((w.alloc (.cells (sv s).toArray 23)).alloc (.cells #[.bool false] 4)) s
  rw [World.size_alloc, World.size_alloc] at hs0
  have hB0 : Below w.heap.size w (((w.alloc (.cells (sv s).toArray 23)).alloc (.cells #[.bool false] 4)).alloc (.cells (sv s).toArray 23)) :=
    (((Below.refl _ w).alloc (Nat.le_refl _) _).alloc (by simp) _).alloc (by simp; omega) _
  generalize (((w.alloc (.cells (sv s).toArray 23)).alloc (.cells #[.bool false] 4)).alloc (.cells (sv s).toArray 23)) = W0 at bR0 hs0 hB0 ⊢
  have eg : ∀ args w, (callFunc 45 args).run Try.prog w = .ok (.enter 45 args) w := by intro args w; simp [go_sem]
  refine wpIn_rangeFunc_ownH rfl (by decide) (gf := 45) (lb := #[.pointer (some ⟨w.heap.size + 1 + 1, 0, none⟩)]) rfl trivial eg (bounds_stops 8 _ s W0 hs0) keepA_t (fun W l o o' _ h h1 _ => keepA_b W l o o' h h1) (Below.refl _ W0) (fun _ => rfl)
    (fun pre W => allOk pre = true ∧ Boxed W (w.heap.size + 1) 4 (.bool false) ∧ Below w.heap.size w W)
    (fun c pre W => (c = .ret ∧ allOk pre = false) ∧ Boxed W (w.heap.size + 1) 4 (.bool false) ∧ Below w.heap.size w W)
    (OwnFrom.and (ownFrom_pure _ _) (OwnFrom.and (Own.from (boxed_own _ _ _) _) (ownFrom_below (Nat.le_refl _) hB0.size)))
    (fun c => OwnFrom.and (ownFrom_pure _ _) (OwnFrom.and (Own.from (boxed_own _ _ _) _) (ownFrom_below (Nat.le_refl _) hB0.size)))
    ⟨rfl, bR0, hB0⟩ (RA w s w.heap.size) (fun x a' => ra_own w s _ _ x a') ?assign ?body ?done ?stop
  case assign =>
    rintro l pre x W K ⟨hp, hb, hB⟩ hK
    have hal : Below W.heap.size W (W.alloc (.cells #[.int .i64 x.2.1, .int .i64 x.2.2] 81)) := (Below.refl _ W).alloc (Nat.le_refl _) _
    have HK := Hid.intro' (hK { tmps := #[.agg (sv s).toArray, .pointer (some ⟨w.heap.size, 0, none⟩), .pointer (some ⟨w.heap.size + 1, 0, none⟩), .int .i64 x.1, .pointer (some ⟨W.heap.size, 0, none⟩), .agg (sv s).toArray, .func (.func 45) #[] #[.pointer (some ⟨w.heap.size + 1 + 1, 0, none⟩)], .int .i64 x.1, .agg #[.int .i64 x.2.1, .int .i64 x.2.2], undef, undef, undef, undef, undef, undef, undef, undef, undef, undef], defers := [] }
      (W.alloc (.cells #[.int .i64 x.2.1, .int .i64 x.2.2] 81)) ((KeepsOthers.alloc W _).from _) (keepA_below hal) ⟨hp, hb.alloc _, below_class hB hal⟩ ⟨W.heap.size, hB.size, World.alloc_heap_new W _, rfl⟩)
    clear hK hp hb hB hal eg bR0 hs0 hB0
    simp only [encB]
    gi_wp2
    exact HK.out
  case body =>
    rintro l pre x a' W _ _ ⟨hp, hb, hB⟩ ⟨B, hnB, hBc, rfl⟩ _
    have hc0 : W.cell? ⟨B, 0, none⟩ = some (.int .i64 x.2.1) := by simp [World.cell?, hBc]
    have hc1 : W.cell? ⟨B, 1, none⟩ = some (.int .i64 x.2.2) := by simp [World.cell?, hBc]
    have hf := hb.frozen
    have hcb := hb.cell
    have HP := Hid.intro' hp
    have HBx := Hid.intro' hb
    have HB := Hid.intro' hB
    clear hp hb hB hBc eg bR0 hs0 hB0
    cases hok : okB x
    · have HN := Hid.intro' (show allOk (pre ++ [x]) = false by rw [allOk_snoc, HP.out, hok]; rfl)
      have HO := Hid.intro' hok
      clear hok
      gi_wp2
      all_goals first
        | exact ⟨(KeepsOthers.setCell _ _ _).from _, ⟨rfl, HN.out⟩, HBx.out.set _, HB.out.setCell (p := ⟨w.heap.size + 1, 0, none⟩) (by simp) _⟩
        | (exfalso; have := HO.out; simp [okB] at this; omega)
    · have HN := Hid.intro' (show allOk (pre ++ [x]) = true by rw [allOk_snoc, HP.out, hok]; rfl)
      have h1 : x.2.1 ≤ x.1 := by simp [okB] at hok; exact hok.1
      have h2 : x.1 ≤ x.2.2 := by simp [okB] at hok; exact hok.2
      clear hok
      gi_wp2
      exact ⟨KeepsFrom.refl _ _, keepA_refl _, HN.out, HBx.out, HB.out⟩
  case done =>
    rintro D ys W hD rfl ⟨hp, b0, hB⟩ hK
    have hc0 := b0.cell
    have hf0 := b0.frozen
    clear eg bR0 hs0
    gi_wp2
    have hK' := (KeepsOthers.setCell W ⟨w.heap.size + 1, 0, none⟩ (.bool true)).same D _ hK rfl
    have r0 := b0.set (.bool true)
    have hB' := hB.setCell (p := ⟨w.heap.size + 1, 0, none⟩) (by simp) (.bool true)
    refine ⟨by simp, .inl ⟨_, _, rfl, run_takeDeferred hK', ?_⟩⟩
    have hc5 := cell_kept r0.cell (grownBy_putObj' _ D (.deferred none)) (fun r e => by cases e; exact ⟨_, hK', rfl⟩)
    refine ⟨.bool true, ?_, ret_bool hp.symm, hB'.trans (belowK_b (w := w) (Nat.le_refl _) _ D _ _ (Nat.le_trans hB0.size hD) hK' rfl rfl)⟩
    simp [results, Try.f27, go_sem, hc5]
  case stop =>
    rintro D c pre W hD hpre ⟨⟨rfl, hne⟩, b0, hB⟩ hK
    clear eg bR0 hs0
    gi_wp2
    refine ⟨by simp, .inl ⟨_, _, rfl, run_takeDeferred hK, ?_⟩⟩
    have hc5 := cell_kept b0.cell (grownBy_putObj' _ D (.deferred none)) (fun r e => by cases e; exact ⟨_, hK, rfl⟩)
    have hh : rightB s = false := by
      obtain ⟨t, ht⟩ := hpre
      unfold rightB
      unfold allOk at hne
      rw [← ht, List.all_append, hne, Bool.false_and]
    refine ⟨.bool false, ?_, ret_bool hh.symm, hB.trans (belowK_b (w := w) (Nat.le_refl _) W D _ _ (Nat.le_trans hB0.size hD) hK rfl rfl)⟩
    simp [results, Try.f27, go_sem, hc5]

end Go.Proofs.Ytkcppidmbojglag
