/- Several texts in one, each with its own head. -/
import Derived.Test.YtdfdkddjkhcgdaiSiteI
import Derived.Test.YtdfdkddjkhcgdaiPk1
import Derived.Test.YtdfdkddjkhcgdaiPk0
import Derived.Laws.OwnMore
import Derived.Laws.AppendOwnNone
import Derived.Deep.AppendLies
import Derived.OwnWalk
/- Whether a site may be, as the program tells it. -/
namespace Go.Proofs.Ytdfdkddjkhcgdai
open Go.RowKit Go.Shelf
attribute [local go_sem] Oper.semAt_some

def allOk (l : List (Int × Int × Int)) : Bool := l.all okB
theorem allOk_snoc (l : List (Int × Int × Int)) (x : Int × Int × Int) : allOk (l ++ [x]) = (allOk l && okB x) := by unfold allOk; rw [List.all_append]; simp
theorem keepA_refl (W : World) : KeepA W W := fun _ _ _ _ h => h
theorem keepA_t {A B C : World} (h : KeepA A B) (k : KeepA B C) : KeepA A C := fun i c t fr hi => k i c t fr (h i c t fr hi)
theorem keepA_below {A B : World} (h : Below A.heap.size A B) : KeepA A B := fun i _ _ _ hi => (h.block i (Array.getElem?_eq_some_iff.1 hi).1).trans hi
theorem keepA_b (W : World) (l : Nat) (o o' : Obj) (h : W.heap[l]? = some o) (h1 : o.isCells = false) : KeepA W (W.putObj l o') := fun i c t fr hi =>
  ((grownBy_putObj' W l o').block i (Array.getElem?_eq_some_iff.1 hi).1 (fun e => by
    cases e
    rw [hi] at h
    cases h
    cases h1)).trans hi
/-- the frame of a round -/
def RA (w0 : World) (s : St) (n0 : Nat) (x : Int × Int × Int) (a' : Act) (W : World) : Prop := ∃ B : Nat, n0 ≤ B ∧ W.heap[B]? = some (.cells #[.int .i64 x.2.1, .int .i64 x.2.2] 64 (0, 0)) ∧
  a' = { tmps := #[.agg (sv s).toArray, .pointer (some ⟨w0.heap.size, 0, none⟩), .pointer (some ⟨w0.heap.size + 1, 0, none⟩), .int .i64 x.1, .pointer (some ⟨B, 0, none⟩), .agg (sv s).toArray, .func (.func 37) #[] #[.pointer (some ⟨w0.heap.size + 1 + 1, 0, none⟩)], .int .i64 x.1, .agg #[.int .i64 x.2.1, .int .i64 x.2.2], undef, undef, undef, undef, undef, undef, undef, undef, undef, undef], defers := [] }
theorem ra_own (w0 : World) (s : St) (n0 m : Nat) (x : Int × Int × Int) (a' : Act) : OwnFrom m (fun (_ : Unit) W => RA w0 s n0 x a' W) := by
  rintro _ X Y row ⟨B, hn, hB, he⟩ hg hr
  refine ⟨B, hn, (hg.block B (Array.getElem?_eq_some_iff.1 hB).1 (fun e => ?_)).trans hB, he⟩
  obtain ⟨_, o, ho, hc⟩ := hr B e.symm
  rw [hB] at ho
  cases ho
  cases hc

set_option maxRecDepth 100000 in
set_option maxHeartbeats 2000000 in
theorem right_any (s : St) (w : World) :
    Calls Try.prog 21 #[.agg (sv s).toArray] w fun e w' => e = .returned (.bool (rightB s)) ∧ Below w.heap.size w w' := by
  refine (callsIn_wide (n := 9)).1 ?_
  refine callsIn_of_wp_marks Try.func21 rfl trivial ?_ rfl
  simp only [Try.ntmps21, List.size_toArray, List.length_cons, List.length_nil, Nat.reduceAdd, Nat.reduceSub, Array.replicate_succ, Array.replicate_zero, List.push_toArray, List.append_toArray, List.nil_append, List.cons_append]
  have n1 := (SB.new w s).alloc (.cells #[.bool false] 4)
  have hc0 : ((w.alloc (.cells (sv s).toArray 32)).alloc (.cells #[.bool false] 4)).cell? ⟨w.heap.size, 0, none⟩ = some (.int .i64 s.fl) := n1.cell 0
  have hc1 : ((w.alloc (.cells (sv s).toArray 32)).alloc (.cells #[.bool false] 4)).cell? ⟨w.heap.size, 1, none⟩ = some (.int .i64 s.ca) := n1.cell 1
  have hc2 : ((w.alloc (.cells (sv s).toArray 32)).alloc (.cells #[.bool false] 4)).cell? ⟨w.heap.size, 2, none⟩ = some (.int .i64 s.sta) := n1.cell 2
  have hc3 : ((w.alloc (.cells (sv s).toArray 32)).alloc (.cells #[.bool false] 4)).cell? ⟨w.heap.size, 3, none⟩ = some (.int .i64 s.ste) := n1.cell 3
  have hc4 : ((w.alloc (.cells (sv s).toArray 32)).alloc (.cells #[.bool false] 4)).cell? ⟨w.heap.size, 4, none⟩ = some (.int .i64 s.sto) := n1.cell 4
  have hc5 : ((w.alloc (.cells (sv s).toArray 32)).alloc (.cells #[.bool false] 4)).cell? ⟨w.heap.size, 5, none⟩ = some (.int .i64 s.opn) := n1.cell 5
  have hc6 : ((w.alloc (.cells (sv s).toArray 32)).alloc (.cells #[.bool false] 4)).cell? ⟨w.heap.size, 6, none⟩ = some (.int .i64 s.wai) := n1.cell 6
  have hc7 : ((w.alloc (.cells (sv s).toArray 32)).alloc (.cells #[.bool false] 4)).cell? ⟨w.heap.size, 7, none⟩ = some (.int .i64 s.clo) := n1.cell 7
  have hc8 : ((w.alloc (.cells (sv s).toArray 32)).alloc (.cells #[.bool false] 4)).cell? ⟨w.heap.size, 8, none⟩ = some (.int .i64 s.nud) := n1.cell 8
  have hc9 : ((w.alloc (.cells (sv s).toArray 32)).alloc (.cells #[.bool false] 4)).cell? ⟨w.heap.size, 9, none⟩ = some (.int .i64 s.age) := n1.cell 9
  have hc10 : ((w.alloc (.cells (sv s).toArray 32)).alloc (.cells #[.bool false] 4)).cell? ⟨w.heap.size, 10, none⟩ = some (.int .i64 s.sil) := n1.cell 10
  have hc11 : ((w.alloc (.cells (sv s).toArray 32)).alloc (.cells #[.bool false] 4)).cell? ⟨w.heap.size, 11, none⟩ = some (.int .i64 s.bud) := n1.cell 11
  have hc12 : ((w.alloc (.cells (sv s).toArray 32)).alloc (.cells #[.bool false] 4)).cell? ⟨w.heap.size, 12, none⟩ = some (.int .i64 s.per) := n1.cell 12
  have hwf : ∀ k, Fence.wide.fn k := fun _ => trivial
  clear n1
  gi_wp2_with (gi_at_call 31; refine (callsIn_wide.2 (bounds_any s _)).mono ?_; rintro e w' ⟨rfl, rfl⟩)
  clear hc0 hc1 hc2 hc3 hc4 hc5 hc6 hc7 hc8 hc9 hc10 hc11 hc12
  have bR0 := (Boxed.new (w.alloc (.cells (sv s).toArray 32)) 4 (.bool false)).alloc (.cells (sv s).toArray 32)
  rw [World.size_alloc] at bR0
  have hs0 := SB.new ((w.alloc (.cells (sv s).toArray 32)).alloc (.cells #[.bool false] 4)) s
  rw [World.size_alloc, World.size_alloc] at hs0
  have hB0 : Below w.heap.size w (((w.alloc (.cells (sv s).toArray 32)).alloc (.cells #[.bool false] 4)).alloc (.cells (sv s).toArray 32)) :=
    (((Below.refl _ w).alloc (Nat.le_refl _) _).alloc (by simp) _).alloc (by simp; omega) _
  generalize (((w.alloc (.cells (sv s).toArray 32)).alloc (.cells #[.bool false] 4)).alloc (.cells (sv s).toArray 32)) = W0 at bR0 hs0 hB0 ⊢
  have eg : ∀ args w, (callFunc 37 args).run Try.prog w = .ok (.enter 37 args) w := by intro args w; simp [go_sem]
  refine wpIn_rangeFunc_ownH rfl (by decide) (gf := 37) (lb := #[.pointer (some ⟨w.heap.size + 1 + 1, 0, none⟩)]) rfl trivial eg (bounds_stops 8 _ s W0 hs0) keepA_t (fun W l o o' _ h h1 _ => keepA_b W l o o' h h1) (Below.refl _ W0) (fun _ => rfl)
    (fun pre W => allOk pre = true ∧ Boxed W (w.heap.size + 1) 4 (.bool false) ∧ Below w.heap.size w W)
    (fun c pre W => (c = .ret ∧ allOk pre = false) ∧ Boxed W (w.heap.size + 1) 4 (.bool false) ∧ Below w.heap.size w W)
    (OwnFrom.and (ownFrom_pure _ _) (OwnFrom.and (Own.from (boxed_own _ _ _) _) (ownFrom_below (Nat.le_refl _) hB0.size)))
    (fun c => OwnFrom.and (ownFrom_pure _ _) (OwnFrom.and (Own.from (boxed_own _ _ _) _) (ownFrom_below (Nat.le_refl _) hB0.size)))
    ⟨rfl, bR0, hB0⟩ (RA w s w.heap.size) (fun x a' => ra_own w s _ _ x a') ?assign ?body ?done ?stop
  case assign =>
    rintro l pre x W K ⟨hp, hb, hB⟩ hK
    have hal : Below W.heap.size W (W.alloc (.cells #[.int .i64 x.2.1, .int .i64 x.2.2] 64)) := (Below.refl _ W).alloc (Nat.le_refl _) _
    have HK := Hid.intro' (hK { tmps := #[.agg (sv s).toArray, .pointer (some ⟨w.heap.size, 0, none⟩), .pointer (some ⟨w.heap.size + 1, 0, none⟩), .int .i64 x.1, .pointer (some ⟨W.heap.size, 0, none⟩), .agg (sv s).toArray, .func (.func 37) #[] #[.pointer (some ⟨w.heap.size + 1 + 1, 0, none⟩)], .int .i64 x.1, .agg #[.int .i64 x.2.1, .int .i64 x.2.2], undef, undef, undef, undef, undef, undef, undef, undef, undef, undef], defers := [] }
      (W.alloc (.cells #[.int .i64 x.2.1, .int .i64 x.2.2] 64)) ((KeepsOthers.alloc W _).from _) (keepA_below hal) ⟨hp, hb.alloc _, below_class hB hal⟩ ⟨W.heap.size, hB.size, World.alloc_heap_new W _, rfl⟩)
    clear hK hp hb hB hal eg bR0 hs0 hB0
    simp only [encB]
    gi_wp2
    exact HK.out
  case body =>
    rintro l pre x a' W _ _ ⟨hp, hb, hB⟩ ⟨B, hnB, hBc, rfl⟩ _
    have hc0 : W.cell? ⟨B, 0, none⟩ = some (.int .i64 x.2.1) := by simp [World.cell?, hBc]
    have hc1 : W.cell? ⟨B, 1, none⟩ = some (.int .i64 x.2.2) := by simp [World.cell?, hBc]
    have hf := hb.frozen
    have hcb := hb.cell
    have HP := Hid.intro' hp
    have HBx := Hid.intro' hb
    have HB := Hid.intro' hB
    clear hp hb hB hBc eg bR0 hs0 hB0
    cases hok : okB x
    · have HN := Hid.intro' (show allOk (pre ++ [x]) = false by rw [allOk_snoc, HP.out, hok]; rfl)
      have HO := Hid.intro' hok
      clear hok
      gi_wp2
      all_goals first
        | exact ⟨(KeepsOthers.setCell _ _ _).from _, ⟨rfl, HN.out⟩, HBx.out.set _, HB.out.setCell (p := ⟨w.heap.size + 1, 0, none⟩) (by simp) _⟩
        | (exfalso; have := HO.out; simp [okB] at this; omega)
    · have HN := Hid.intro' (show allOk (pre ++ [x]) = true by rw [allOk_snoc, HP.out, hok]; rfl)
      have h1 : x.2.1 ≤ x.1 := by simp [okB] at hok; exact hok.1
      have h2 : x.1 ≤ x.2.2 := by simp [okB] at hok; exact hok.2
      clear hok
      gi_wp2
      exact ⟨KeepsFrom.refl _ _, keepA_refl _, HN.out, HBx.out, HB.out⟩
  case done =>
    rintro D ys W hD rfl ⟨hp, b0, hB⟩ hK
    have hc0 := b0.cell
    have hf0 := b0.frozen
    clear eg bR0 hs0
    gi_wp2
    have hK' := (KeepsOthers.setCell W ⟨w.heap.size + 1, 0, none⟩ (.bool true)).same D _ hK rfl
    have r0 := b0.set (.bool true)
    have hB' := hB.setCell (p := ⟨w.heap.size + 1, 0, none⟩) (by simp) (.bool true)
    refine ⟨by simp, .inl ⟨_, _, rfl, run_takeDeferred hK', ?_⟩⟩
    have hc5 := cell_kept r0.cell (grownBy_putObj' _ D (.deferred none)) (fun r e => by cases e; exact ⟨_, hK', rfl⟩)
    refine ⟨.bool true, ?_, ret_bool hp.symm, hB'.trans (belowK_b (w := w) (Nat.le_refl _) _ D _ _ (Nat.le_trans hB0.size hD) hK' rfl rfl)⟩
    simp [results, Try.f21, go_sem, hc5]
  case stop =>
    rintro D c pre W hD hpre ⟨⟨rfl, hne⟩, b0, hB⟩ hK
    clear eg bR0 hs0
    gi_wp2
    refine ⟨by simp, .inl ⟨_, _, rfl, run_takeDeferred hK, ?_⟩⟩
    have hc5 := cell_kept b0.cell (grownBy_putObj' _ D (.deferred none)) (fun r e => by cases e; exact ⟨_, hK, rfl⟩)
    have hh : rightB s = false := by
      obtain ⟨t, ht⟩ := hpre
      unfold rightB
      unfold allOk at hne
      rw [← ht, List.all_append, hne, Bool.false_and]
    refine ⟨.bool false, ?_, ret_bool hh.symm, hB.trans (belowK_b (w := w) (Nat.le_refl _) W D _ _ (Nat.le_trans hB0.size hD) hK rfl rfl)⟩
    simp [results, Try.f21, go_sem, hc5]

end Go.Proofs.Ytdfdkddjkhcgdai

/- What a call leaves as it was; pairs, numbers and plans in memory. -/
namespace Go.Proofs.Ytdfdkddjkhcgdai
open Go.RowKit

/-- what is written lies in F; all else that was there is as it was -/
structure Kp (F : Nat → Prop) (w w' : World) : Prop where
  os : w'.os = w.os
  tape : w'.tape = w.tape
  output : w'.output = w.output
  size : w.heap.size ≤ w'.heap.size
  block : ∀ k, k < w.heap.size → ¬ F k → w'.heap[k]? = w.heap[k]?
section
variable {F G : Nat → Prop} {w w' w'' : World}
theorem Kp.refl (F : Nat → Prop) (w : World) : Kp F w w := ⟨rfl, rfl, rfl, Nat.le_refl _, fun _ _ _ => rfl⟩
theorem Kp.trans (h : Kp F w w') (k : Kp G w' w'') (hg : ∀ i, i < w.heap.size → G i → F i) : Kp F w w'' :=
  ⟨k.os.trans h.os, k.tape.trans h.tape, k.output.trans h.output, Nat.le_trans h.size k.size, fun i hi hf => (k.block i (Nat.lt_of_lt_of_le hi h.size) (fun hG => hf (hg i hi hG))).trans (h.block i hi hf)⟩
theorem Kp.mono (h : Kp F w w') (hg : ∀ i, i < w.heap.size → F i → G i) : Kp G w w' := ⟨h.os, h.tape, h.output, h.size, fun i hi hf => h.block i hi (fun hF => hf (hg i hi hF))⟩
theorem Kp.ofBelow (F : Nat → Prop) (h : Below w.heap.size w w') : Kp F w w' := ⟨h.os, h.tape, h.output, h.size, fun i hi _ => h.block i hi⟩
theorem Kp.toBelow {B : Nat} (h : Kp F w w') (hB : B ≤ w.heap.size) (hF : ∀ i, i < B → ¬ F i) : Below B w w' := ⟨h.os, h.tape, h.output, h.size, fun i hi => h.block i (by omega) (hF i hi)⟩
theorem Kp.below {B : Nat} {a : World} (h : Kp F w w') (hb : Below B a w) (hB : B ≤ w.heap.size) (hF : ∀ i, i < B → ¬ F i) : Below B a w' := hb.trans (h.toBelow hB hF)
theorem Kp.thenBelow (h : Kp F w w') (k : Below w'.heap.size w' w'') : Kp F w w'' := h.trans (Kp.ofBelow F k) (fun _ _ h => h)
theorem Kp.alloc (h : Kp F w w') (o : Obj) : Kp F w (w'.alloc o) := h.trans (Kp.ofBelow F ((Below.refl _ _).alloc (Nat.le_refl _) o)) (fun _ _ h => h)
theorem Kp.drew (h : Kp F w w') : Kp F w w'.drew := h.trans (Kp.ofBelow F (Below.refl _ _).drew) (fun _ _ h => h)
theorem Kp.set (h : Kp F w w') (b i : Nat) (u : Value) (hF : b < w.heap.size → F b) : Kp F w (w'.setCell ⟨b, i, none⟩ u) :=
  h.trans (G := fun k => k = b) ⟨rfl, rfl, rfl, by simp [World.setCell], fun k _ hk => Below.heap_setCell _ _ _ _ hk⟩ (fun k hk e => by subst e; exact hF hk)
theorem Kp.put (h : Kp F w w') (b : Nat) (o : Obj) (hF : b < w.heap.size → F b) : Kp F w (w'.putObj b o) :=
  h.trans (G := fun k => k = b) ⟨rfl, rfl, rfl, by simp, fun k _ hk => World.putObj_heap_other hk⟩ (fun k hk e => by subst e; exact hF hk)
theorem Kp.grown {row : Option Nat} (h : Kp F w w') (hg : w'.grownBy w'' row) (hF : ∀ k, k < w.heap.size → row = some k → F k) : Kp F w w'' :=
  h.trans (G := fun k => row = some k) ⟨hg.os, hg.tape, hg.output, hg.size, fun k hk hne => hg.block k hk (fun e => hne e.symm)⟩ (fun k hk e => hF k hk e)
end

/-- a slice that reads as pairs of numbers, in blocks of D -/
def R2 (D : Nat → Prop) (W : World) (v : Value) (l : List (Int × Int)) : Prop :=
  ∃ a cap, v = .slice a l.length cap ∧ l.length ≤ cap ∧ (a = none → cap = 0) ∧ (l = [] ∨ ∃ g o, a = some ⟨g, o, none⟩ ∧ D g ∧ g < W.heap.size ∧ ∀ (i : Nat) y, l[i]? = some y → W.cell? ⟨g, o + i * 2, none⟩ = some (.int .i64 y.1) ∧ W.cell? ⟨g, o + i * 2 + 1, none⟩ = some (.int .i64 y.2))
/-- a slice that reads as numbers, in blocks of D -/
def RI (D : Nat → Prop) (W : World) (v : Value) (l : List Int) : Prop :=
  ∃ a cap, v = .slice a l.length cap ∧ l.length ≤ cap ∧ (a = none → cap = 0) ∧ (l = [] ∨ ∃ g o, a = some ⟨g, o, none⟩ ∧ D g ∧ g < W.heap.size ∧ ∀ (i : Nat) x, l[i]? = some x → W.cell? ⟨g, o + i, none⟩ = some (.int .i64 x))
/-- a slice that reads as lists of numbers, all in blocks of D -/
def RL (D : Nat → Prop) (W : World) (v : Value) (p : List (List Int)) : Prop :=
  ∃ a cap, v = .slice a p.length cap ∧ p.length ≤ cap ∧ (a = none → cap = 0) ∧ (p = [] ∨ ∃ g o, a = some ⟨g, o, none⟩ ∧ D g ∧ g < W.heap.size ∧ ∀ (i : Nat) l, p[i]? = some l → ∃ u, W.cell? ⟨g, o + i, none⟩ = some u ∧ RI D W u l)
section
variable {D D' : Nat → Prop} {W W' : World} {v : Value}
theorem R2.keep {l : List (Int × Int)} (h : R2 D W v l) (hs : W.heap.size ≤ W'.heap.size) (hk : ∀ g, D g → g < W.heap.size → W'.heap[g]? = W.heap[g]?) : R2 D W' v l := by
  obtain ⟨a, cap, rfl, hc, hn, h⟩ := h
  refine ⟨a, cap, rfl, hc, hn, ?_⟩
  rcases h with h | ⟨g, o, rfl, hd, hlt, h⟩
  · exact .inl h
  · exact .inr ⟨g, o, rfl, hd, Nat.lt_of_lt_of_le hlt hs, fun i y hy => ⟨(World.cell?_of_block (a := ⟨g, o + i * 2, none⟩) (hk g hd hlt)).trans (h i y hy).1, (World.cell?_of_block (a := ⟨g, o + i * 2 + 1, none⟩) (hk g hd hlt)).trans (h i y hy).2⟩⟩
theorem RI.keep {l : List Int} (h : RI D W v l) (hs : W.heap.size ≤ W'.heap.size) (hk : ∀ g, D g → g < W.heap.size → W'.heap[g]? = W.heap[g]?) : RI D W' v l := by
  obtain ⟨a, cap, rfl, hc, hn, h⟩ := h
  refine ⟨a, cap, rfl, hc, hn, ?_⟩
  rcases h with h | ⟨g, o, rfl, hd, hlt, h⟩
  · exact .inl h
  · exact .inr ⟨g, o, rfl, hd, Nat.lt_of_lt_of_le hlt hs, fun i y hy => (World.cell?_of_block (a := ⟨g, o + i, none⟩) (hk g hd hlt)).trans (h i y hy)⟩
theorem RL.keep {p : List (List Int)} (h : RL D W v p) (hs : W.heap.size ≤ W'.heap.size) (hk : ∀ g, D g → g < W.heap.size → W'.heap[g]? = W.heap[g]?) : RL D W' v p := by
  obtain ⟨a, cap, rfl, hc, hn, h⟩ := h
  refine ⟨a, cap, rfl, hc, hn, ?_⟩
  rcases h with h | ⟨g, o, rfl, hd, hlt, h⟩
  · exact .inl h
  · refine .inr ⟨g, o, rfl, hd, Nat.lt_of_lt_of_le hlt hs, fun i l hl => ?_⟩
    obtain ⟨u, h1, h2⟩ := h i l hl
    exact ⟨u, (World.cell?_of_block (a := ⟨g, o + i, none⟩) (hk g hd hlt)).trans h1, h2.keep hs hk⟩
theorem R2.mono {l : List (Int × Int)} (h : R2 D W v l) (hD : ∀ g, D g → g < W.heap.size → (∃ o : Obj, W.heap[g]? = some o ∧ o.isCells = true) → D' g) : R2 D' W v l := by
  obtain ⟨a, cap, rfl, hc, hn, h⟩ := h
  refine ⟨a, cap, rfl, hc, hn, ?_⟩
  rcases h with h | ⟨g, o, rfl, hd, hlt, h⟩
  · exact .inl h
  · cases l with
    | nil => exact .inl rfl
    | cons y l => exact .inr ⟨g, o, rfl, hD g hd hlt (cells_of_cell (h 0 y rfl).1), hlt, h⟩
theorem RI.mono {l : List Int} (h : RI D W v l) (hD : ∀ g, D g → g < W.heap.size → (∃ o : Obj, W.heap[g]? = some o ∧ o.isCells = true) → D' g) : RI D' W v l := by
  obtain ⟨a, cap, rfl, hc, hn, h⟩ := h
  refine ⟨a, cap, rfl, hc, hn, ?_⟩
  rcases h with h | ⟨g, o, rfl, hd, hlt, h⟩
  · exact .inl h
  · cases l with
    | nil => exact .inl rfl
    | cons y l => exact .inr ⟨g, o, rfl, hD g hd hlt (cells_of_cell (h 0 y rfl)), hlt, h⟩
theorem RL.mono {p : List (List Int)} (h : RL D W v p) (hD : ∀ g, D g → g < W.heap.size → (∃ o : Obj, W.heap[g]? = some o ∧ o.isCells = true) → D' g) : RL D' W v p := by
  obtain ⟨a, cap, rfl, hc, hn, h⟩ := h
  refine ⟨a, cap, rfl, hc, hn, ?_⟩
  rcases h with h | ⟨g, o, rfl, hd, hlt, h⟩
  · exact .inl h
  · cases p with
    | nil => exact .inl rfl
    | cons y l =>
      obtain ⟨u, h1, _⟩ := h 0 y rfl
      refine .inr ⟨g, o, rfl, hD g hd hlt (cells_of_cell h1), hlt, fun i l hl => ?_⟩
      obtain ⟨u, h1, h2⟩ := h i l hl
      exact ⟨u, h1, h2.mono hD⟩
theorem R2.below' {l : List (Int × Int)} (h : R2 D W v l) (hb : Below W.heap.size W W') : R2 D W' v l := h.keep hb.size fun g _ hlt => hb.block g hlt
theorem RI.below' {l : List Int} (h : RI D W v l) (hb : Below W.heap.size W W') : RI D W' v l := h.keep hb.size fun g _ hlt => hb.block g hlt
theorem RL.below' {p : List (List Int)} (h : RL D W v p) (hb : Below W.heap.size W W') : RL D W' v p := h.keep hb.size fun g _ hlt => hb.block g hlt
theorem R2.alloc {l : List (Int × Int)} (h : R2 D W v l) (o : Obj) : R2 D (W.alloc o) v l := h.below' ((Below.refl _ _).alloc (Nat.le_refl _) o)
theorem RI.alloc {l : List Int} (h : RI D W v l) (o : Obj) : RI D (W.alloc o) v l := h.below' ((Below.refl _ _).alloc (Nat.le_refl _) o)
theorem RL.alloc {p : List (List Int)} (h : RL D W v p) (o : Obj) : RL D (W.alloc o) v p := h.below' ((Below.refl _ _).alloc (Nat.le_refl _) o)
theorem R2.form {l : List (Int × Int)} (h : R2 D W v l) : ∃ a cap, v = .slice a l.length cap ∧ l.length ≤ cap ∧ (a = none → cap = 0) := by
  obtain ⟨a, cap, h1, h2, h3, _⟩ := h
  exact ⟨a, cap, h1, h2, h3⟩
theorem RI.form {l : List Int} (h : RI D W v l) : ∃ a cap, v = .slice a l.length cap ∧ l.length ≤ cap ∧ (a = none → cap = 0) := by
  obtain ⟨a, cap, h1, h2, h3, _⟩ := h
  exact ⟨a, cap, h1, h2, h3⟩
theorem RL.form {p : List (List Int)} (h : RL D W v p) : ∃ a cap, v = .slice a p.length cap ∧ p.length ≤ cap ∧ (a = none → cap = 0) := by
  obtain ⟨a, cap, h1, h2, h3, _⟩ := h
  exact ⟨a, cap, h1, h2, h3⟩
theorem R2.at {l : List (Int × Int)} {a : Option Addr} {n cap : Nat} (h : R2 D W (.slice a n cap) l) {i : Nat} {y : Int × Int} (hi : l[i]? = some y) : ∃ g o, a = some ⟨g, o, none⟩ ∧ W.cell? ⟨g, o + i * 2, none⟩ = some (.int .i64 y.1) ∧ W.cell? ⟨g, o + i * 2 + 1, none⟩ = some (.int .i64 y.2) := by
  obtain ⟨a', cap', e, _, _, h⟩ := h
  cases e
  rcases h with h | ⟨g, o, rfl, _, _, h⟩
  · rw [h] at hi; simp at hi
  · exact ⟨g, o, rfl, h i y hi⟩
theorem RI.at {l : List Int} {a : Option Addr} {n cap : Nat} (h : RI D W (.slice a n cap) l) {i : Nat} {y : Int} (hi : l[i]? = some y) : ∃ g o, a = some ⟨g, o, none⟩ ∧ W.cell? ⟨g, o + i, none⟩ = some (.int .i64 y) := by
  obtain ⟨a', cap', e, _, _, h⟩ := h
  cases e
  rcases h with h | ⟨g, o, rfl, _, _, h⟩
  · rw [h] at hi; simp at hi
  · exact ⟨g, o, rfl, h i y hi⟩
theorem RL.at {p : List (List Int)} {a : Option Addr} {n cap : Nat} (h : RL D W (.slice a n cap) p) {i : Nat} {l : List Int} (hi : p[i]? = some l) : ∃ g o, a = some ⟨g, o, none⟩ ∧ ∃ u, W.cell? ⟨g, o + i, none⟩ = some u ∧ RI D W u l := by
  obtain ⟨a', cap', e, _, _, h⟩ := h
  cases e
  rcases h with h | ⟨g, o, rfl, _, _, h⟩
  · rw [h] at hi; simp at hi
  · exact ⟨g, o, rfl, h i l hi⟩
theorem R2.len {l : List (Int × Int)} {a : Option Addr} {n cap : Nat} (h : R2 D W (.slice a n cap) l) : n = l.length := by
  obtain ⟨a', cap', e, _⟩ := h
  cases e; rfl
theorem RI.len {l : List Int} {a : Option Addr} {n cap : Nat} (h : RI D W (.slice a n cap) l) : n = l.length := by
  obtain ⟨a', cap', e, _⟩ := h
  cases e; rfl
theorem RL.len {p : List (List Int)} {a : Option Addr} {n cap : Nat} (h : RL D W (.slice a n cap) p) : n = p.length := by
  obtain ⟨a', cap', e, _⟩ := h
  cases e; rfl
theorem RI.nil (D : Nat → Prop) (W : World) : RI D W (.slice none 0 0) [] := ⟨none, 0, rfl, Nat.le_refl _, fun _ => rfl, .inl rfl⟩
theorem RL.nil (D : Nat → Prop) (W : World) : RL D W (.slice none 0 0) [] := ⟨none, 0, rfl, Nat.le_refl _, fun _ => rfl, .inl rfl⟩
/-- the cells of a list that isn't empty -/
theorem RI.cells {l : List Int} {g o n cap : Nat} (h : RI D W (.slice (some ⟨g, o, none⟩) n cap) l) : ∀ (i : Nat) x, l[i]? = some x → W.cell? ⟨g, o + i, none⟩ = some (.int .i64 x) := fun i x hi => by
  obtain ⟨g', o', e, h⟩ := h.at hi
  cases e
  exact h
end

/- where the elements of slices lie -/
theorem ixI (W : World) {a : Option Addr} {g o n cap j : Nat} (ha : a = some ⟨g, o, none⟩) (hj : j < n) : (Instr.indexAt 44 (.slice a n cap) (.int .i64 (j : Int))).run Try.prog W = .ok (.pointer (some ⟨g, o + j, none⟩)) W := by
  subst ha
  rw [run_indexAt_slice W 44 _ n cap .i64 j (by kernel_rfl), if_pos ⟨by omega, by omega⟩, show Try.prog.elem 44 = 3 by kernel_rfl, Try.sizeOf3]
  simp only [Result.andThen_ok, Int.toNat_natCast, Addr.add_mid, Nat.mul_one]
theorem ixP (W : World) {a : Option Addr} {g o n cap j : Nat} (ha : a = some ⟨g, o, none⟩) (hj : j < n) : (Instr.indexAt 40 (.slice a n cap) (.int .i64 (j : Int))).run Try.prog W = .ok (.pointer (some ⟨g, o + j, none⟩)) W := by
  subst ha
  rw [run_indexAt_slice W 40 _ n cap .i64 j (by kernel_rfl), if_pos ⟨by omega, by omega⟩, show Try.prog.elem 40 = 44 by kernel_rfl, Try.sizeOf44]
  simp only [Result.andThen_ok, Int.toNat_natCast, Addr.add_mid, Nat.mul_one]
theorem ixW (W : World) {a : Option Addr} {g o n cap j : Nat} (ha : a = some ⟨g, o, none⟩) (hj : j < n) : (Instr.indexAt 34 (.slice a n cap) (.int .i64 (j : Int))).run Try.prog W = .ok (.pointer (some ⟨g, o + j * 2, none⟩)) W := by
  subst ha
  rw [run_indexAt_slice W 34 _ n cap .i64 j (by kernel_rfl), if_pos ⟨by omega, by omega⟩, show Try.prog.elem 34 = 46 by kernel_rfl, Try.sizeOf46]
  simp only [Result.andThen_ok, Int.toNat_natCast, Addr.add_mid]
theorem ixR (W : World) {a : Option Addr} {g o n cap j : Nat} (ha : a = some ⟨g, o, none⟩) (hj : j < n) : (Instr.indexAt 33 (.slice a n cap) (.int .i64 (j : Int))).run Try.prog W = .ok (.pointer (some ⟨g, o + j * 2, none⟩)) W := by
  subst ha
  rw [run_indexAt_slice W 33 _ n cap .i64 j (by kernel_rfl), if_pos ⟨by omega, by omega⟩, show Try.prog.elem 33 = 48 by kernel_rfl, Try.sizeOf48]
  simp only [Result.andThen_ok, Int.toNat_natCast, Addr.add_mid]

/-- the cells of numbers -/
def ic (l : List Int) : List Value := l.map fun (n : Int) => Value.int .i64 n
theorem ic_length (l : List Int) : (ic l).length = l.length := by unfold ic; rw [List.length_map]
theorem ic_append (l m : List Int) : ic (l ++ m) = ic l ++ ic m := by unfold ic; rw [List.map_append]
theorem ic_some {l : List Int} {i : Nat} {x : Int} (h : l[i]? = some x) : (ic l)[i]? = some (.int .i64 x) := by
  unfold ic; rw [List.getElem?_map, h]; rfl
theorem ic_get {l : List Int} {i : Nat} {u : Value} (h : (ic l)[i]? = some u) : ∃ x, l[i]? = some x ∧ u = .int .i64 x := by
  unfold ic at h
  rw [List.getElem?_map] at h
  cases e : l[i]? with
  | none => rw [e] at h; simp at h
  | some x => rw [e] at h; simp at h; exact ⟨x, rfl, h.symm⟩
theorem ic_one (l : List Int) : ∀ u ∈ ic l, u.oneCell' = true := by
  intro u hu
  obtain ⟨n, _, rfl⟩ := List.mem_map.1 hu
  rfl
/-- a slice value that owns a row of numbers, in blocks from B on -/
def OI (W : World) (B : Nat) (v : Value) (l : List Int) : Prop := W.ownsRow B 3 1 v l.length (ic l)
section
variable {W W' : World} {B : Nat} {v : Value} {l : List Int}
theorem OI.nil (W : World) (B : Nat) : OI W B (.slice none 0 0) [] := World.ownsRow_nil W B _ 1
theorem OI.form (h : OI W B v l) : (v = .slice none 0 0 ∧ l = []) ∨ ∃ g cap, v = .slice (some ⟨g, 0, none⟩) l.length cap ∧ B ≤ g ∧ g < W.heap.size ∧ l.length ≤ cap ∧ cap ≤ maxLen := by
  rcases h.2 with ⟨h1, h2⟩ | ⟨g, cap, cur, hv, hb, hg, hc, hm, _⟩
  · exact .inl ⟨h1, List.length_eq_zero_iff.1 h2⟩
  · exact .inr ⟨g, cap, hv, hb, (Array.getElem?_eq_some_iff.1 hg).1, hc, hm⟩
theorem OI.slice (h : OI W B v l) : ∃ a c, v = .slice a l.length c := by
  rcases h.form with ⟨rfl, rfl⟩ | ⟨g, cap, rfl, _⟩
  · exact ⟨none, 0, rfl⟩
  · exact ⟨_, cap, rfl⟩
theorem OI.lt (h : OI W B v l) : ∀ g, v.ownBlock = some g → B ≤ g ∧ g < W.heap.size := World.ownsRow.lt h
theorem OI.keep (h : OI W B v l) (hk : ∀ g, v.ownBlock = some g → W'.heap[g]? = W.heap[g]?) : OI W' B v l := by
  refine ⟨h.1, ?_⟩
  rcases h.2 with h2 | ⟨g, cap, cur, hv, hb, hg, r⟩
  · exact .inl h2
  · exact .inr ⟨g, cap, cur, hv, hb, (hk g (by rw [hv]; rfl)).trans hg, r⟩
theorem OI.below' (h : OI W B v l) (hb : Below W.heap.size W W') : OI W' B v l := h.keep fun g hg => hb.block g (h.lt g hg).2
theorem OI.alloc (h : OI W B v l) (o : Obj) : OI (W.alloc o) B v l := h.below' ((Below.refl _ _).alloc (Nat.le_refl _) o)
theorem OI.mono {B' : Nat} (h : OI W B v l) (hB : B' ≤ B) : OI W B' v l := by
  refine ⟨h.1, ?_⟩
  rcases h.2 with h2 | ⟨g, cap, cur, hv, hb, r⟩
  · exact .inl h2
  · exact .inr ⟨g, cap, cur, hv, Nat.le_trans hB hb, r⟩
theorem OI.cell {g cap n : Nat} (h : OI W B (.slice (some ⟨g, 0, none⟩) n cap) l) {i : Nat} {x : Int} (hi : l[i]? = some x) : W.cell? ⟨g, i, none⟩ = some (.int .i64 x) := by
  have := World.ownsRow.cells h (g := g) rfl i _ (ic_some hi)
  rwa [Addr.add_mid, Nat.zero_add] at this
theorem OI.ri {D : Nat → Prop} (h : OI W B v l) (hD : ∀ g, v.ownBlock = some g → D g) : RI D W v l := by
  rcases h.form with ⟨rfl, rfl⟩ | ⟨g, cap, rfl, _, hlt, hc, hm⟩
  · exact RI.nil _ _
  · exact ⟨_, cap, rfl, hc, (fun e => by cases e), .inr ⟨g, 0, rfl, hD g rfl, hlt, fun i x hx => by rw [Nat.zero_add]; exact h.cell hx⟩⟩
theorem OI.len {a : Option Addr} {n cap : Nat} (h : OI W B (.slice a n cap) l) : n = l.length := by
  rcases h.form with ⟨h1, h2⟩ | ⟨g, c, h1, _⟩
  · cases h1; rw [h2]; rfl
  · cases h1; rfl
theorem OI.fr {g cap n : Nat} (h : OI W B (.slice (some ⟨g, 0, none⟩) n cap) l) (j : Nat) : W.frozen? ⟨g, j, none⟩ = false := by
  have hn := h.len
  subst hn
  exact World.ownsRow.frozenAt h j
theorem ic_set (l : List Int) (i : Nat) (x : Int) : (ic l).set i (.int .i64 x) = ic (l.set i x) := by unfold ic; rw [List.map_set]
/-- a number is written -/
theorem OI.put {g cap n : Nat} (h : OI W B (.slice (some ⟨g, 0, none⟩) n cap) l) (i : Nat) (x : Int) : OI (W.setCell ⟨g, i, none⟩ (.int .i64 x)) B (.slice (some ⟨g, 0, none⟩) n cap) (l.set i x) := by
  have hn := h.len
  subst hn
  have := (World.ownsRow.stored h i (.int .i64 x)).1
  rw [ic_set] at this
  unfold OI
  rw [List.length_set]
  exact this
/-- a slice of numbers that was just typed -/
theorem OI.lit (W : World) (l : List Int) (hB : B ≤ W.heap.size) (hm : l.length ≤ maxLen) : OI (W.alloc (.cells (ic l).toArray 3)) B (.slice (some ⟨W.heap.size, 0, none⟩) l.length l.length) l := by
  have := World.ownsRow_lit (e := 3) (size := 1) W (ic l).toArray l.length hB hm (by simp [ic_length])
  simpa [OI] using this
/-- the last one is taken out -/
theorem OI.drop {g cap n k : Nat} {x : Int} (h : OI W B (.slice (some ⟨g, 0, none⟩) n cap) (l ++ [x])) (hk : k = l.length) : OI W B (.slice (some ⟨g, 0, none⟩) k cap) l := by
  subst hk
  obtain ⟨h1, h2⟩ := h
  refine ⟨by rw [ic_length, Nat.mul_one], ?_⟩
  rcases h2 with ⟨h2, _⟩ | ⟨g', cap', cur, hv, hb, hg, hc, hm, hs, ht⟩
  · cases h2
  · cases hv
    rw [List.length_append] at hc ht
    simp only [List.length_cons, List.length_nil] at hc ht
    refine .inr ⟨g, cap, cur, rfl, hb, hg, by omega, hm, hs, ?_⟩
    rw [ic_append] at ht
    have h3 := congrArg (List.take l.length) ht
    rw [List.take_take, List.take_left' (by rw [ic_length])] at h3
    rw [Nat.mul_one]
    rwa [show min l.length ((l.length + (0 + 1)) * 1) = l.length by omega] at h3
end
theorem infoI : (Try.prog.info? 3).map (fun i => (i.zero, i.size, i.bytes)) = some (some (.int .i64 0), 1, 8) := by kernel_rfl

end Go.Proofs.Ytdfdkddjkhcgdai
