/- Several texts in one, each with its own head. -/
import Derived.Test.YtjpkekmccbpclajSiteI
import Derived.Test.YtjpkekmccbpclajPk1
import Derived.Test.YtjpkekmccbpclajRows
import Derived.Test.YtjpkekmccbpclajPk0
import Derived.WalkKit
import Derived.WalkSpells
import Derived.WalkLawsBesides
import Derived.Deep.RegionHeld3
import Derived.Deep.DrawnRows
/- Whether a site may be, as the program tells it. -/
namespace Go.Proofs.Ytjpkekmccbpclaj
open Go.RowKit Go.Shelf
attribute [local go_sem] Oper.semAt_some

def allOk (l : List (Int × Int × Int)) : Bool := l.all okB
theorem allOk_snoc (l : List (Int × Int × Int)) (x : Int × Int × Int) : allOk (l ++ [x]) = (allOk l && okB x) := by unfold allOk; rw [List.all_append]; simp
theorem keepA_refl (W : World) : KeepA W W := fun _ _ _ _ h => h
theorem keepA_t {A B C : World} (h : KeepA A B) (k : KeepA B C) : KeepA A C := fun i c t fr hi => k i c t fr (h i c t fr hi)
theorem keepA_below {A B : World} (h : Below A.heap.size A B) : KeepA A B := fun i _ _ _ hi => (h.block i (Array.getElem?_eq_some_iff.1 hi).1).trans hi
theorem keepA_b (W : World) (l : Nat) (o o' : Obj) (h : W.heap[l]? = some o) (h1 : o.isCells = false) : KeepA W (W.putObj l o') := fun i c t fr hi =>
  ((grownBy_putObj' W l o').block i (Array.getElem?_eq_some_iff.1 hi).1 (fun e => by
    cases e
    rw [hi] at h
    cases h
    cases h1)).trans hi
/-- the frame of a round -/
def RA (w0 : World) (s : St) (n0 : Nat) (x : Int × Int × Int) (a' : Act) (W : World) : Prop := ∃ B : Nat, n0 ≤ B ∧ W.heap[B]? = some (.cells #[.int .i64 x.2.1, .int .i64 x.2.2] 68 (0, 0)) ∧
  a' = { tmps := #[.agg (sv s).toArray, .pointer (some ⟨w0.heap.size, 0, none⟩), .pointer (some ⟨w0.heap.size + 1, 0, none⟩), .int .i64 x.1, .pointer (some ⟨B, 0, none⟩), .agg (sv s).toArray, .func (.func 39) #[] #[.pointer (some ⟨w0.heap.size + 1 + 1, 0, none⟩)], .int .i64 x.1, .agg #[.int .i64 x.2.1, .int .i64 x.2.2], undef, undef, undef, undef, undef, undef, undef, undef, undef, undef], defers := [] }
theorem ra_own (w0 : World) (s : St) (n0 m : Nat) (x : Int × Int × Int) (a' : Act) : OwnFrom m (fun (_ : Unit) W => RA w0 s n0 x a' W) := by
  rintro _ X Y row ⟨B, hn, hB, he⟩ hg hr
  refine ⟨B, hn, (hg.block B (Array.getElem?_eq_some_iff.1 hB).1 (fun e => ?_)).trans hB, he⟩
  obtain ⟨_, o, ho, hc⟩ := hr B e.symm
  rw [hB] at ho
  cases ho
  cases hc

set_option maxRecDepth 100000 in
set_option maxHeartbeats 2000000 in
theorem right_any (s : St) (w : World) :
    Calls Try.prog 24 #[.agg (sv s).toArray] w fun e w' => e = .returned (.bool (rightB s)) ∧ Below w.heap.size w w' := by
  refine (callsIn_wide (n := 9)).1 ?_
  refine callsIn_of_wp_marks Try.func24 rfl trivial ?_ rfl
  simp only [Try.ntmps24, List.size_toArray, List.length_cons, List.length_nil, Nat.reduceAdd, Nat.reduceSub, Array.replicate_succ, Array.replicate_zero, List.push_toArray, List.append_toArray, List.nil_append, List.cons_append]
  have n1 := (SB.new w s).alloc (.cells #[.bool false] 4)
  have hc0 : ((w.alloc (.cells (sv s).toArray 23)).alloc (.cells #[.bool false] 4)).cell? ⟨w.heap.size, 0, none⟩ = some (.int .i64 s.fl) := n1.cell 0
  have hc1 : ((w.alloc (.cells (sv s).toArray 23)).alloc (.cells #[.bool false] 4)).cell? ⟨w.heap.size, 1, none⟩ = some (.int .i64 s.ca) := n1.cell 1
  have hc2 : ((w.alloc (.cells (sv s).toArray 23)).alloc (.cells #[.bool false] 4)).cell? ⟨w.heap.size, 2, none⟩ = some (.int .i64 s.sta) := n1.cell 2
  have hc3 : ((w.alloc (.cells (sv s).toArray 23)).alloc (.cells #[.bool false] 4)).cell? ⟨w.heap.size, 3, none⟩ = some (.int .i64 s.ste) := n1.cell 3
  have hc4 : ((w.alloc (.cells (sv s).toArray 23)).alloc (.cells #[.bool false] 4)).cell? ⟨w.heap.size, 4, none⟩ = some (.int .i64 s.sto) := n1.cell 4
  have hc5 : ((w.alloc (.cells (sv s).toArray 23)).alloc (.cells #[.bool false] 4)).cell? ⟨w.heap.size, 5, none⟩ = some (.int .i64 s.opn) := n1.cell 5
  have hc6 : ((w.alloc (.cells (sv s).toArray 23)).alloc (.cells #[.bool false] 4)).cell? ⟨w.heap.size, 6, none⟩ = some (.int .i64 s.wai) := n1.cell 6
  have hc7 : ((w.alloc (.cells (sv s).toArray 23)).alloc (.cells #[.bool false] 4)).cell? ⟨w.heap.size, 7, none⟩ = some (.int .i64 s.clo) := n1.cell 7
  have hc8 : ((w.alloc (.cells (sv s).toArray 23)).alloc (.cells #[.bool false] 4)).cell? ⟨w.heap.size, 8, none⟩ = some (.int .i64 s.nud) := n1.cell 8
  have hc9 : ((w.alloc (.cells (sv s).toArray 23)).alloc (.cells #[.bool false] 4)).cell? ⟨w.heap.size, 9, none⟩ = some (.int .i64 s.age) := n1.cell 9
  have hc10 : ((w.alloc (.cells (sv s).toArray 23)).alloc (.cells #[.bool false] 4)).cell? ⟨w.heap.size, 10, none⟩ = some (.int .i64 s.sil) := n1.cell 10
  have hc11 : ((w.alloc (.cells (sv s).toArray 23)).alloc (.cells #[.bool false] 4)).cell? ⟨w.heap.size, 11, none⟩ = some (.int .i64 s.bud) := n1.cell 11
  have hc12 : ((w.alloc (.cells (sv s).toArray 23)).alloc (.cells #[.bool false] 4)).cell? ⟨w.heap.size, 12, none⟩ = some (.int .i64 s.per) := n1.cell 12
  have hwf : ∀ k, Fence.wide.fn k := fun _ => trivial
  clear n1
  gi_wp2_with (gi_at_call 31; refine (callsIn_wide.2 (bounds_any s _)).mono ?_; rintro e w' ⟨rfl, rfl⟩)
  clear hc0 hc1 hc2 hc3 hc4 hc5 hc6 hc7 hc8 hc9 hc10 hc11 hc12
  have bR0 := (Boxed.new (w.alloc (.cells (sv s).toArray 23)) 4 (.bool false)).alloc (.cells (sv s).toArray 23)
  rw [World.size_alloc] at bR0
  have hs0 := SB.new ((w.alloc (.cells (sv s).toArray 23)).alloc (.cells #[.bool false] 4)) s
  rw [World.size_alloc, World.size_alloc] at hs0
  have hB0 : Below w.heap.size w (((w.alloc (.cells (sv s).toArray 23)).alloc (.cells #[.bool false] 4)).alloc (.cells (sv s).toArray 23)) :=
    (((Below.refl _ w).alloc (Nat.le_refl _) _).alloc (by simp) _).alloc (by simp; omega) _
  generalize (((w.alloc (.cells (sv s).toArray 23)).alloc (.cells #[.bool false] 4)).alloc (.cells (sv s).toArray 23)) = W0 at bR0 hs0 hB0 ⊢
  have eg : ∀ args w, (callFunc 39 args).run Try.prog w = .ok (.enter 39 args) w := by intro args w; simp [go_sem]
  refine wpIn_rangeFunc_ownH rfl (by decide) (gf := 39) (lb := #[.pointer (some ⟨w.heap.size + 1 + 1, 0, none⟩)]) rfl trivial eg (bounds_stops 8 _ s W0 hs0) keepA_t (fun W l o o' _ h h1 _ => keepA_b W l o o' h h1) (Below.refl _ W0) (fun _ => rfl)
    (fun pre W => allOk pre = true ∧ Boxed W (w.heap.size + 1) 4 (.bool false) ∧ Below w.heap.size w W)
    (fun c pre W => (c = .ret ∧ allOk pre = false) ∧ Boxed W (w.heap.size + 1) 4 (.bool false) ∧ Below w.heap.size w W)
    (OwnFrom.and (ownFrom_pure _ _) (OwnFrom.and (Own.from (boxed_own _ _ _) _) (ownFrom_below (Nat.le_refl _) hB0.size)))
    (fun c => OwnFrom.and (ownFrom_pure _ _) (OwnFrom.and (Own.from (boxed_own _ _ _) _) (ownFrom_below (Nat.le_refl _) hB0.size)))
    ⟨rfl, bR0, hB0⟩ (RA w s w.heap.size) (fun x a' => ra_own w s _ _ x a') ?assign ?body ?done ?stop
  case assign =>
    rintro l pre x W K ⟨hp, hb, hB⟩ hK
    have hal : Below W.heap.size W (W.alloc (.cells #[.int .i64 x.2.1, .int .i64 x.2.2] 68)) := (Below.refl _ W).alloc (Nat.le_refl _) _
    have HK := Hid.intro' (hK { tmps := #[.agg (sv s).toArray, .pointer (some ⟨w.heap.size, 0, none⟩), .pointer (some ⟨w.heap.size + 1, 0, none⟩), .int .i64 x.1, .pointer (some ⟨W.heap.size, 0, none⟩), .agg (sv s).toArray, .func (.func 39) #[] #[.pointer (some ⟨w.heap.size + 1 + 1, 0, none⟩)], .int .i64 x.1, .agg #[.int .i64 x.2.1, .int .i64 x.2.2], undef, undef, undef, undef, undef, undef, undef, undef, undef, undef], defers := [] }
      (W.alloc (.cells #[.int .i64 x.2.1, .int .i64 x.2.2] 68)) ((KeepsOthers.alloc W _).from _) (keepA_below hal) ⟨hp, hb.alloc _, below_class hB hal⟩ ⟨W.heap.size, hB.size, World.alloc_heap_new W _, rfl⟩)
    clear hK hp hb hB hal eg bR0 hs0 hB0
    simp only [encB]
    gi_wp2
    exact HK.out
  case body =>
    rintro l pre x a' W _ _ ⟨hp, hb, hB⟩ ⟨B, hnB, hBc, rfl⟩ _
    have hc0 : W.cell? ⟨B, 0, none⟩ = some (.int .i64 x.2.1) := by simp [World.cell?, hBc]
    have hc1 : W.cell? ⟨B, 1, none⟩ = some (.int .i64 x.2.2) := by simp [World.cell?, hBc]
    have hf := hb.frozen
    have hcb := hb.cell
    have HP := Hid.intro' hp
    have HBx := Hid.intro' hb
    have HB := Hid.intro' hB
    clear hp hb hB hBc eg bR0 hs0 hB0
    cases hok : okB x
    · have HN := Hid.intro' (show allOk (pre ++ [x]) = false by rw [allOk_snoc, HP.out, hok]; rfl)
      have HO := Hid.intro' hok
      clear hok
      gi_wp2
      all_goals first
        | exact ⟨(KeepsOthers.setCell _ _ _).from _, ⟨rfl, HN.out⟩, HBx.out.set _, HB.out.setCell (p := ⟨w.heap.size + 1, 0, none⟩) (by simp) _⟩
        | (exfalso; have := HO.out; simp [okB] at this; omega)
    · have HN := Hid.intro' (show allOk (pre ++ [x]) = true by rw [allOk_snoc, HP.out, hok]; rfl)
      have h1 : x.2.1 ≤ x.1 := by simp [okB] at hok; exact hok.1
      have h2 : x.1 ≤ x.2.2 := by simp [okB] at hok; exact hok.2
      clear hok
      gi_wp2
      exact ⟨KeepsFrom.refl _ _, keepA_refl _, HN.out, HBx.out, HB.out⟩
  case done =>
    rintro D ys W hD rfl ⟨hp, b0, hB⟩ hK
    have hc0 := b0.cell
    have hf0 := b0.frozen
    clear eg bR0 hs0
    gi_wp2
    have hK' := (KeepsOthers.setCell W ⟨w.heap.size + 1, 0, none⟩ (.bool true)).same D _ hK rfl
    have r0 := b0.set (.bool true)
    have hB' := hB.setCell (p := ⟨w.heap.size + 1, 0, none⟩) (by simp) (.bool true)
    refine ⟨by simp, .inl ⟨_, _, rfl, run_takeDeferred hK', ?_⟩⟩
    have hc5 := cell_kept r0.cell (grownBy_putObj' _ D (.deferred none)) (fun r e => by cases e; exact ⟨_, hK', rfl⟩)
    refine ⟨.bool true, ?_, ret_bool hp.symm, hB'.trans (belowK_b (w := w) (Nat.le_refl _) _ D _ _ (Nat.le_trans hB0.size hD) hK' rfl rfl)⟩
    simp [results, Try.f24, go_sem, hc5]
  case stop =>
    rintro D c pre W hD hpre ⟨⟨rfl, hne⟩, b0, hB⟩ hK
    clear eg bR0 hs0
    gi_wp2
    refine ⟨by simp, .inl ⟨_, _, rfl, run_takeDeferred hK, ?_⟩⟩
    have hc5 := cell_kept b0.cell (grownBy_putObj' _ D (.deferred none)) (fun r e => by cases e; exact ⟨_, hK, rfl⟩)
    have hh : rightB s = false := by
      obtain ⟨t, ht⟩ := hpre
      unfold rightB
      unfold allOk at hne
      rw [← ht, List.all_append, hne, Bool.false_and]
    refine ⟨.bool false, ?_, ret_bool hh.symm, hB.trans (belowK_b (w := w) (Nat.le_refl _) W D _ _ (Nat.le_trans hB0.size hD) hK rfl rfl)⟩
    simp [results, Try.f24, go_sem, hc5]

end Go.Proofs.Ytjpkekmccbpclaj

/- Which doors may be, as the program tells it and as the document's answer does; a tick as the document's answer has it. -/
namespace Go.Proofs.Ytjpkekmccbpclaj
open Go.RowKit

/-- a right door, as a Boolean -/
def rdB (s : St) (p l r : Int) (h : Bool) : Bool := decide (p = 0 ∧ l = 0 ∧ r = 0 ∧ h = false) || decide (0 ≤ r ∧ r ≤ s.nud ∧ 1 ≤ l ∧ l ≤ DM.tk s p ∧ 1 ≤ p ∧ p ≤ 3)
theorem rdB_iff (s : St) (d : Dr) : rdB s d.ph d.le d.ru d.he = true ↔ DM.Rd s d := by
  unfold rdB DM.Rd
  rw [Bool.or_eq_true, decide_eq_true_eq, decide_eq_true_eq]
  constructor
  · rintro (⟨h1, h2, h3, h4⟩ | ⟨h1, h2, h3, h4, h5, h6⟩)
    · left; cases d; simp_all [DM.z]
    · right; exact ⟨h1, h2, h3, h4, h5, h6⟩
  · rintro (rfl | h)
    · left; simp [DM.z]
    · right; exact ⟨h.r1, h.r2, h.l1, h.l2, h.p1, h.p3⟩

/-- and of a right site -/
def drB (s : St) (p l r : Int) (h : Bool) : Bool := rightB s && rdB s p l r h
theorem drB_t {s : St} (R : SM.Rt s) (p l r : Int) (h : Bool) : drB s p l r h = rdB s p l r h := by unfold drB; rw [rightB_true R, Bool.true_and]
theorem drB_f {s : St} (R : ¬ SM.Rt s) (p l r : Int) (h : Bool) : drB s p l r h = false := by unfold drB; rw [rightB_false R, Bool.false_and]
theorem rdB_0 {s : St} {l r : Int} {h : Bool} : rdB s 0 l r h = shB 0 l r h := by unfold rdB shB; simp
theorem rdB_n {s : St} {p l r : Int} {h : Bool} (hp : p ≠ 0) : rdB s p l r h = decide (0 ≤ r ∧ r ≤ s.nud ∧ 1 ≤ l ∧ l ≤ DM.tk s p ∧ 1 ≤ p ∧ p ≤ 3) := by unfold rdB; simp [hp]
theorem tk_pos {s : St} {p l : Int} (h1 : 1 ≤ l) (h : l ≤ DM.tk s p) : 1 ≤ p ∧ p ≤ 3 := by
  unfold DM.tk at h
  split at h
  · omega
  · split at h
    · omega
    · split at h <;> omega

theorem right_t (s : St) (r : SM.Rt s) (w : World) : Calls Try.prog 24 #[.agg (sv s).toArray] w fun e w' => e = .returned (.bool true) ∧ Below w.heap.size w w' := by
  have := right_any s w
  rwa [rightB_true r] at this
theorem right_f (s : St) (r : ¬ SM.Rt s) (w : World) : Calls Try.prog 24 #[.agg (sv s).toArray] w fun e w' => e = .returned (.bool false) ∧ Below w.heap.size w w' := by
  have := right_any s w
  rwa [rightB_false r] at this
theorem calls_keep2 {f : FuncId} {args : Array Value} {w0 W : World} {bs bd : Nat} {s : St} {p l r : Int} {h : Bool} {R : Ending → Prop}
    (hc : Calls Try.prog f args W fun e w' => R e ∧ Below W.heap.size W w') (hB : Below w0.heap.size w0 W) (hS : SB W bs s) (hD : DB W bd p l r h) :
    Calls Try.prog f args W fun e w' => R e ∧ Below w0.heap.size w0 w' ∧ SB w' bs s ∧ DB w' bd p l r h :=
  hc.mono fun _ _ hh => ⟨hh.1, below_class hB hh.2, hS.below' hh.2, hD.below' hh.2⟩

set_option maxHeartbeats 2000000 in
theorem dright_any (s : St) (p l r : Int) (h : Bool) (w : World) :
    Calls Try.prog 40 #[.agg (sv s).toArray, .agg #[.int .i64 p, .int .i64 l, .int .i64 r, .bool h]] w fun e w' => e = .returned (.bool (drB s p l r h)) ∧ Below w.heap.size w w' := by
  go_enter Try.func40, Try.ntmps40
  go_wp2_with (refine wpList_load23 rfl _ rfl w.heap.size s rfl ((SB.new w s).alloc _) ?_)
  by_cases R : SM.Rt s
  · refine (calls_keep2 (bs := w.heap.size) (bd := w.heap.size + 1) (right_t s R _) (((Below.refl _ w).alloc (Nat.le_refl _) _).alloc (by simp) _) ((SB.new w s).alloc _) (DB.new' _ p l r h (by simp))).mono ?_
    rintro e W1 ⟨rfl, hB, hs, hd⟩
    have HB := Hid.intro' hB
    have HS := Hid.intro' hs
    have HD := Hid.intro' hd
    have HR := Hid.intro' (fun p l r h => drB_t R p l r h)
    have a0 := hd.c0; have a1 := hd.c1; have a2 := hd.c2; have a3 := hd.c3
    have c8 : W1.cell? ⟨w.heap.size, 8, none⟩ = some (.int .i64 s.nud) := hs.cell 8
    clear hB hs hd R
    by_cases hp : p = 0
    · subst hp
      go_wp2_with fail
      refine (isShut_any 0 l r h _).mono ?_
      rintro e W2 ⟨rfl, hb⟩
      have HB2 := Hid.intro' (below_class HB.out hb)
      clear hb a0 a1 a2 a3 c8
      go_wp2
      go_ret
      exact ⟨ret_boo (by rw [HR.out, rdB_0]), HB2.out⟩
    · have hq : (p == 0) = false := by simpa using hp
      have HP := Hid.intro' hp
      clear hp
      go_wp2_with fail
      have hs : ∀ w', Below W1.heap.size W1 w' → SB w' w.heap.size s := fun w' h' => HS.out.below' h'
      have q0 : ∀ w', Below W1.heap.size W1 w' → w'.cell? ⟨w.heap.size + 1, 0, none⟩ = some (.int .i64 p) := fun w' h' => (HD.out.below' h').c0
      have q1 : ∀ w', Below W1.heap.size W1 w' → w'.cell? ⟨w.heap.size + 1, 1, none⟩ = some (.int .i64 l) := fun w' h' => (HD.out.below' h').c1
      have q2 : ∀ w', Below W1.heap.size W1 w' → w'.cell? ⟨w.heap.size + 1, 2, none⟩ = some (.int .i64 r) := fun w' h' => (HD.out.below' h').c2
      have q8 : ∀ w', Below W1.heap.size W1 w' → w'.cell? ⟨w.heap.size, 8, none⟩ = some (.int .i64 s.nud) := fun w' h' => (HS.out.below' h').cell 8
      clear a0 a1 a2 a3 c8
      refine wp_region_quiet (C := fun w' => Below W1.heap.size W1 w') (by kernel_rfl) (by kernel_rfl) ((Below.refl _ W1).drew) ?_
      simp only []
      rcases Bool.eq_false_or_eq_true (decide (0 ≤ r)) with k1 | k1
      · rcases Bool.eq_false_or_eq_true (decide (r ≤ s.nud)) with k2 | k2
        · rcases Bool.eq_false_or_eq_true (decide (1 ≤ l)) with k3 | k3
          · unfold wpQuiet
            generalize hK : wpQuiet Try.prog _ _ _ _ = K
            go_simp
            refine ⟨_, fun _ _ => rfl, ?_⟩
            subst hK
            unfold wpQuiet
            generalize hK : wpQuiet Try.prog _ _ _ _ = K
            rw [if_pos (by go_simp)]
            refine quiet_load3 _ _ _ rfl rfl q2 ?_
            go_simp
            subst hK
            unfold wpQuiet
            generalize hK : wpQuiet Try.prog _ _ _ _ = K
            go_simp
            refine ⟨_, fun _ _ => rfl, ?_⟩
            subst hK
            unfold wpQuiet
            generalize hK : wpQuiet Try.prog _ _ _ _ = K
            go_simp
            refine ⟨_, fun _ _ => rfl, ?_⟩
            subst hK
            unfold wpQuiet
            generalize hK : wpQuiet Try.prog _ _ _ _ = K
            go_simp
            refine ⟨_, fun _ _ => rfl, ?_⟩
            subst hK
            unfold wpQuiet
            generalize hK : wpQuiet Try.prog _ _ _ _ = K
            rw [if_pos (by go_simp)]
            refine quiet_load3 _ _ _ rfl rfl q2 ?_
            go_simp
            subst hK
            unfold wpQuiet
            generalize hK : wpQuiet Try.prog _ _ _ _ = K
            go_simp
            refine ⟨_, fun _ _ => rfl, ?_⟩
            subst hK
            unfold wpQuiet
            generalize hK : wpQuiet Try.prog _ _ _ _ = K
            rw [if_pos (by go_simp)]
            refine quiet_load3 _ _ _ rfl rfl q8 ?_
            go_simp
            subst hK
            unfold wpQuiet
            generalize hK : wpQuiet Try.prog _ _ _ _ = K
            go_simp
            refine ⟨_, fun _ _ => rfl, ?_⟩
            subst hK
            unfold wpQuiet
            generalize hK : wpQuiet Try.prog _ _ _ _ = K
            go_simp
            refine ⟨_, fun _ _ => rfl, ?_⟩
            subst hK
            unfold wpQuiet
            generalize hK : wpQuiet Try.prog _ _ _ _ = K
            go_simp
            refine ⟨_, fun _ _ => rfl, ?_⟩
            subst hK
            unfold wpQuiet
            generalize hK : wpQuiet Try.prog _ _ _ _ = K
            go_simp
            refine ⟨_, fun _ _ => rfl, ?_⟩
            subst hK
            unfold wpQuiet
            generalize hK : wpQuiet Try.prog _ _ _ _ = K
            rw [if_pos (by go_simp)]
            refine quiet_load3 _ _ _ rfl rfl q1 ?_
            go_simp
            subst hK
            unfold wpQuiet
            generalize hK : wpQuiet Try.prog _ _ _ _ = K
            go_simp
            refine ⟨_, fun _ _ => rfl, ?_⟩
            subst hK
            unfold wpQuiet
            generalize hK : wpQuiet Try.prog _ _ _ _ = K
            go_simp
            refine ⟨_, fun _ _ => rfl, ?_⟩
            subst hK
            unfold wpQuiet
            generalize hK : wpQuiet Try.prog _ _ _ _ = K
            go_simp
            refine ⟨_, fun _ _ => rfl, ?_⟩
            subst hK
            unfold wpQuiet
            generalize hK : wpQuiet Try.prog _ _ _ _ = K
            go_simp
            refine ⟨_, fun _ _ => rfl, ?_⟩
            subst hK
            unfold wpQuiet
            generalize hK : wpQuiet Try.prog _ _ _ _ = K
            rw [if_pos (by go_simp)]
            refine quiet_load3 _ _ _ rfl rfl q1 ?_
            go_simp
            subst hK
            unfold wpQuiet
            generalize hK : wpQuiet Try.prog _ _ _ _ = K
            rw [if_pos (by go_simp)]
            refine quiet_load23 _ w.heap.size s rfl rfl hs ?_
            go_simp
            subst hK
            unfold wpQuiet
            generalize hK : wpQuiet Try.prog _ _ _ _ = K
            go_simp
            refine ⟨_, fun _ _ => rfl, ?_⟩
            subst hK
            unfold wpQuiet
            generalize hK : wpQuiet Try.prog _ _ _ _ = K
            rw [if_pos (by go_simp)]
            refine quiet_load3 _ _ _ rfl rfl q0 ?_
            go_simp
            subst hK
            unfold wpQuiet
            generalize hK : wpQuiet Try.prog _ _ _ _ = K
            go_simp
            refine ⟨_, fun w' hw => (ticks_any s _ w').mono fun e w'' hh => ⟨hh.1, below_class hw hh.2⟩, ?_⟩
            subst hK
            unfold wpQuiet
            generalize hK : wpQuiet Try.prog _ _ _ _ = K
            go_simp
            refine ⟨_, fun _ _ => rfl, ?_⟩
            subst hK
            unfold wpQuiet
            generalize hK : wpQuiet Try.prog _ _ _ _ = K
            go_simp
            refine ⟨_, fun _ _ => rfl, ?_⟩
            subst hK
            unfold wpQuiet
            generalize hK : wpQuiet Try.prog _ _ _ _ = K
            go_simp
            refine ⟨_, fun _ _ => rfl, ?_⟩
            subst hK
            refine wpQuiet_nil ?_
            intro W5 hb
            have HB5 := Hid.intro' (below_class HB.out hb)
            clear hb hs q0 q1 q2 q8
            go_wp2
            go_ret
            refine ⟨ret_boo ?_, HB5.out⟩
            rw [HR.out, rdB_n HP.out]
            simp only [decide_eq_true_eq] at k1 k2 k3
            by_cases hh : l ≤ DM.tk s p
            · have := tk_pos k3 hh
              simp [hh, k1, k2, k3, this]
            · simp [hh]
          · unfold wpQuiet
            generalize hK : wpQuiet Try.prog _ _ _ _ = K
            go_simp
            refine ⟨_, fun _ _ => rfl, ?_⟩
            subst hK
            unfold wpQuiet
            generalize hK : wpQuiet Try.prog _ _ _ _ = K
            rw [if_pos (by go_simp)]
            refine quiet_load3 _ _ _ rfl rfl q2 ?_
            go_simp
            subst hK
            unfold wpQuiet
            generalize hK : wpQuiet Try.prog _ _ _ _ = K
            go_simp
            refine ⟨_, fun _ _ => rfl, ?_⟩
            subst hK
            unfold wpQuiet
            generalize hK : wpQuiet Try.prog _ _ _ _ = K
            go_simp
            refine ⟨_, fun _ _ => rfl, ?_⟩
            subst hK
            unfold wpQuiet
            generalize hK : wpQuiet Try.prog _ _ _ _ = K
            go_simp
            refine ⟨_, fun _ _ => rfl, ?_⟩
            subst hK
            unfold wpQuiet
            generalize hK : wpQuiet Try.prog _ _ _ _ = K
            rw [if_pos (by go_simp)]
            refine quiet_load3 _ _ _ rfl rfl q2 ?_
            go_simp
            subst hK
            unfold wpQuiet
            generalize hK : wpQuiet Try.prog _ _ _ _ = K
            go_simp
            refine ⟨_, fun _ _ => rfl, ?_⟩
            subst hK
            unfold wpQuiet
            generalize hK : wpQuiet Try.prog _ _ _ _ = K
            rw [if_pos (by go_simp)]
            refine quiet_load3 _ _ _ rfl rfl q8 ?_
            go_simp
            subst hK
            unfold wpQuiet
            generalize hK : wpQuiet Try.prog _ _ _ _ = K
            go_simp
            refine ⟨_, fun _ _ => rfl, ?_⟩
            subst hK
            unfold wpQuiet
            generalize hK : wpQuiet Try.prog _ _ _ _ = K
            go_simp
            refine ⟨_, fun _ _ => rfl, ?_⟩
            subst hK
            unfold wpQuiet
            generalize hK : wpQuiet Try.prog _ _ _ _ = K
            go_simp
            refine ⟨_, fun _ _ => rfl, ?_⟩
            subst hK
            unfold wpQuiet
            generalize hK : wpQuiet Try.prog _ _ _ _ = K
            go_simp
            refine ⟨_, fun _ _ => rfl, ?_⟩
            subst hK
            unfold wpQuiet
            generalize hK : wpQuiet Try.prog _ _ _ _ = K
            rw [if_pos (by go_simp)]
            refine quiet_load3 _ _ _ rfl rfl q1 ?_
            go_simp
            subst hK
            unfold wpQuiet
            generalize hK : wpQuiet Try.prog _ _ _ _ = K
            go_simp
            refine ⟨_, fun _ _ => rfl, ?_⟩
            subst hK
            unfold wpQuiet
            generalize hK : wpQuiet Try.prog _ _ _ _ = K
            go_simp
            refine ⟨_, fun _ _ => rfl, ?_⟩
            subst hK
            unfold wpQuiet
            generalize hK : wpQuiet Try.prog _ _ _ _ = K
            go_simp
            refine ⟨_, fun _ _ => rfl, ?_⟩
            subst hK
            unfold wpQuiet
            generalize hK : wpQuiet Try.prog _ _ _ _ = K
            go_simp
            subst hK
            unfold wpQuiet
            generalize hK : wpQuiet Try.prog _ _ _ _ = K
            go_simp
            subst hK
            unfold wpQuiet
            generalize hK : wpQuiet Try.prog _ _ _ _ = K
            go_simp
            subst hK
            unfold wpQuiet
            generalize hK : wpQuiet Try.prog _ _ _ _ = K
            go_simp
            subst hK
            unfold wpQuiet
            generalize hK : wpQuiet Try.prog _ _ _ _ = K
            go_simp
            subst hK
            unfold wpQuiet
            generalize hK : wpQuiet Try.prog _ _ _ _ = K
            go_simp
            subst hK
            unfold wpQuiet
            generalize hK : wpQuiet Try.prog _ _ _ _ = K
            go_simp
            subst hK
            unfold wpQuiet
            generalize hK : wpQuiet Try.prog _ _ _ _ = K
            go_simp
            refine ⟨_, fun _ _ => rfl, ?_⟩
            subst hK
            unfold wpQuiet
            generalize hK : wpQuiet Try.prog _ _ _ _ = K
            go_simp
            refine ⟨_, fun _ _ => rfl, ?_⟩
            subst hK
            refine wpQuiet_nil ?_
            intro W5 hb
            have HB5 := Hid.intro' (below_class HB.out hb)
            clear hb hs q0 q1 q2 q8
            go_wp2
            go_ret
            refine ⟨ret_boo ?_, HB5.out⟩
            rw [HR.out, rdB_n HP.out]
            simp only [decide_eq_false_iff_not] at k3; symm; rw [decide_eq_false_iff_not]; omega
        · unfold wpQuiet
          generalize hK : wpQuiet Try.prog _ _ _ _ = K
          go_simp
          refine ⟨_, fun _ _ => rfl, ?_⟩
          subst hK
          unfold wpQuiet
          generalize hK : wpQuiet Try.prog _ _ _ _ = K
          rw [if_pos (by go_simp)]
          refine quiet_load3 _ _ _ rfl rfl q2 ?_
          go_simp
          subst hK
          unfold wpQuiet
          generalize hK : wpQuiet Try.prog _ _ _ _ = K
          go_simp
          refine ⟨_, fun _ _ => rfl, ?_⟩
          subst hK
          unfold wpQuiet
          generalize hK : wpQuiet Try.prog _ _ _ _ = K
          go_simp
          refine ⟨_, fun _ _ => rfl, ?_⟩
          subst hK
          unfold wpQuiet
          generalize hK : wpQuiet Try.prog _ _ _ _ = K
          go_simp
          refine ⟨_, fun _ _ => rfl, ?_⟩
          subst hK
          unfold wpQuiet
          generalize hK : wpQuiet Try.prog _ _ _ _ = K
          rw [if_pos (by go_simp)]
          refine quiet_load3 _ _ _ rfl rfl q2 ?_
          go_simp
          subst hK
          unfold wpQuiet
          generalize hK : wpQuiet Try.prog _ _ _ _ = K
          go_simp
          refine ⟨_, fun _ _ => rfl, ?_⟩
          subst hK
          unfold wpQuiet
          generalize hK : wpQuiet Try.prog _ _ _ _ = K
          rw [if_pos (by go_simp)]
          refine quiet_load3 _ _ _ rfl rfl q8 ?_
          go_simp
          subst hK
          unfold wpQuiet
          generalize hK : wpQuiet Try.prog _ _ _ _ = K
          go_simp
          refine ⟨_, fun _ _ => rfl, ?_⟩
          subst hK
          unfold wpQuiet
          generalize hK : wpQuiet Try.prog _ _ _ _ = K
          go_simp
          refine ⟨_, fun _ _ => rfl, ?_⟩
          subst hK
          unfold wpQuiet
          generalize hK : wpQuiet Try.prog _ _ _ _ = K
          go_simp
          refine ⟨_, fun _ _ => rfl, ?_⟩
          subst hK
          unfold wpQuiet
          generalize hK : wpQuiet Try.prog _ _ _ _ = K
          go_simp
          subst hK
          unfold wpQuiet
          generalize hK : wpQuiet Try.prog _ _ _ _ = K
          go_simp
          subst hK
          unfold wpQuiet
          generalize hK : wpQuiet Try.prog _ _ _ _ = K
          go_simp
          subst hK
          unfold wpQuiet
          generalize hK : wpQuiet Try.prog _ _ _ _ = K
          go_simp
          refine ⟨_, fun _ _ => rfl, ?_⟩
          subst hK
          unfold wpQuiet
          generalize hK : wpQuiet Try.prog _ _ _ _ = K
          go_simp
          refine ⟨_, fun _ _ => rfl, ?_⟩
          subst hK
          unfold wpQuiet
          generalize hK : wpQuiet Try.prog _ _ _ _ = K
          go_simp
          subst hK
          unfold wpQuiet
          generalize hK : wpQuiet Try.prog _ _ _ _ = K
          go_simp
          subst hK
          unfold wpQuiet
          generalize hK : wpQuiet Try.prog _ _ _ _ = K
          go_simp
          subst hK
          unfold wpQuiet
          generalize hK : wpQuiet Try.prog _ _ _ _ = K
          go_simp
          subst hK
          unfold wpQuiet
          generalize hK : wpQuiet Try.prog _ _ _ _ = K
          go_simp
          subst hK
          unfold wpQuiet
          generalize hK : wpQuiet Try.prog _ _ _ _ = K
          go_simp
          subst hK
          unfold wpQuiet
          generalize hK : wpQuiet Try.prog _ _ _ _ = K
          go_simp
          subst hK
          unfold wpQuiet
          generalize hK : wpQuiet Try.prog _ _ _ _ = K
          go_simp
          refine ⟨_, fun _ _ => rfl, ?_⟩
          subst hK
          unfold wpQuiet
          generalize hK : wpQuiet Try.prog _ _ _ _ = K
          go_simp
          refine ⟨_, fun _ _ => rfl, ?_⟩
          subst hK
          refine wpQuiet_nil ?_
          intro W5 hb
          have HB5 := Hid.intro' (below_class HB.out hb)
          clear hb hs q0 q1 q2 q8
          go_wp2
          go_ret
          refine ⟨ret_boo ?_, HB5.out⟩
          rw [HR.out, rdB_n HP.out]
          simp only [decide_eq_false_iff_not] at k2; symm; rw [decide_eq_false_iff_not]; omega
      · unfold wpQuiet
        generalize hK : wpQuiet Try.prog _ _ _ _ = K
        go_simp
        refine ⟨_, fun _ _ => rfl, ?_⟩
        subst hK
        unfold wpQuiet
        generalize hK : wpQuiet Try.prog _ _ _ _ = K
        rw [if_pos (by go_simp)]
        refine quiet_load3 _ _ _ rfl rfl q2 ?_
        go_simp
        subst hK
        unfold wpQuiet
        generalize hK : wpQuiet Try.prog _ _ _ _ = K
        go_simp
        refine ⟨_, fun _ _ => rfl, ?_⟩
        subst hK
        unfold wpQuiet
        generalize hK : wpQuiet Try.prog _ _ _ _ = K
        go_simp
        refine ⟨_, fun _ _ => rfl, ?_⟩
        subst hK
        unfold wpQuiet
        generalize hK : wpQuiet Try.prog _ _ _ _ = K
        go_simp
        subst hK
        unfold wpQuiet
        generalize hK : wpQuiet Try.prog _ _ _ _ = K
        go_simp
        subst hK
        unfold wpQuiet
        generalize hK : wpQuiet Try.prog _ _ _ _ = K
        go_simp
        subst hK
        unfold wpQuiet
        generalize hK : wpQuiet Try.prog _ _ _ _ = K
        go_simp
        subst hK
        unfold wpQuiet
        generalize hK : wpQuiet Try.prog _ _ _ _ = K
        go_simp
        subst hK
        unfold wpQuiet
        generalize hK : wpQuiet Try.prog _ _ _ _ = K
        go_simp
        refine ⟨_, fun _ _ => rfl, ?_⟩
        subst hK
        unfold wpQuiet
        generalize hK : wpQuiet Try.prog _ _ _ _ = K
        go_simp
        refine ⟨_, fun _ _ => rfl, ?_⟩
        subst hK
        unfold wpQuiet
        generalize hK : wpQuiet Try.prog _ _ _ _ = K
        go_simp
        subst hK
        unfold wpQuiet
        generalize hK : wpQuiet Try.prog _ _ _ _ = K
        go_simp
        subst hK
        unfold wpQuiet
        generalize hK : wpQuiet Try.prog _ _ _ _ = K
        go_simp
        subst hK
        unfold wpQuiet
        generalize hK : wpQuiet Try.prog _ _ _ _ = K
        go_simp
        refine ⟨_, fun _ _ => rfl, ?_⟩
        subst hK
        unfold wpQuiet
        generalize hK : wpQuiet Try.prog _ _ _ _ = K
        go_simp
        refine ⟨_, fun _ _ => rfl, ?_⟩
        subst hK
        unfold wpQuiet
        generalize hK : wpQuiet Try.prog _ _ _ _ = K
        go_simp
        subst hK
        unfold wpQuiet
        generalize hK : wpQuiet Try.prog _ _ _ _ = K
        go_simp
        subst hK
        unfold wpQuiet
        generalize hK : wpQuiet Try.prog _ _ _ _ = K
        go_simp
        subst hK
        unfold wpQuiet
        generalize hK : wpQuiet Try.prog _ _ _ _ = K
        go_simp
        subst hK
        unfold wpQuiet
        generalize hK : wpQuiet Try.prog _ _ _ _ = K
        go_simp
        subst hK
        unfold wpQuiet
        generalize hK : wpQuiet Try.prog _ _ _ _ = K
        go_simp
        subst hK
        unfold wpQuiet
        generalize hK : wpQuiet Try.prog _ _ _ _ = K
        go_simp
        subst hK
        unfold wpQuiet
        generalize hK : wpQuiet Try.prog _ _ _ _ = K
        go_simp
        refine ⟨_, fun _ _ => rfl, ?_⟩
        subst hK
        unfold wpQuiet
        generalize hK : wpQuiet Try.prog _ _ _ _ = K
        go_simp
        refine ⟨_, fun _ _ => rfl, ?_⟩
        subst hK
        refine wpQuiet_nil ?_
        intro W5 hb
        have HB5 := Hid.intro' (below_class HB.out hb)
        clear hb hs q0 q1 q2 q8
        go_wp2
        go_ret
        refine ⟨ret_boo ?_, HB5.out⟩
        rw [HR.out, rdB_n HP.out]
        simp only [decide_eq_false_iff_not] at k1; symm; rw [decide_eq_false_iff_not]; omega
  · refine (right_f s R _).mono ?_
    rintro e W1 ⟨rfl, hb⟩
    have HB2 := Hid.intro' (below_class (((Below.refl _ w).alloc (Nat.le_refl _) _).alloc (by simp) _) hb)
    have HR := Hid.intro' (drB_f R p l r h)
    clear hb R
    go_wp2
    go_ret
    exact ⟨ret_boo HR.out.symm, HB2.out⟩

set_option maxHeartbeats 2000000 in
theorem rdright_any (s : St) (p l r : Int) (h : Bool) (w : World) :
    Calls Try.prog 21 #[.agg (sv s).toArray, .agg #[.int .i64 p, .int .i64 l, .int .i64 r, .bool h]] w fun e w' => e = .returned (.bool (drB s p l r h)) ∧ Below w.heap.size w w' := by
  go_enter Try.func21, Try.ntmps21
  go_wp2_with (refine wpList_load23 rfl _ rfl w.heap.size s rfl ((SB.new w s).alloc _) ?_)
  by_cases R : SM.Rt s
  · refine (calls_keep2 (bs := w.heap.size) (bd := w.heap.size + 1) (rright_t s R _) (((Below.refl _ w).alloc (Nat.le_refl _) _).alloc (by simp) _) ((SB.new w s).alloc _) (DB.new' _ p l r h (by simp))).mono ?_
    rintro e W1 ⟨rfl, hB, hs, hd⟩
    have HB := Hid.intro' hB
    have HR := Hid.intro' (fun p l r h => drB_t R p l r h)
    have a0 := hd.c0; have a1 := hd.c1; have a2 := hd.c2; have a3 := hd.c3
    have c5 : W1.cell? ⟨w.heap.size, 5, none⟩ = some (.int .i64 s.opn) := hs.cell 5
    have c6 : W1.cell? ⟨w.heap.size, 6, none⟩ = some (.int .i64 s.wai) := hs.cell 6
    have c7 : W1.cell? ⟨w.heap.size, 7, none⟩ = some (.int .i64 s.clo) := hs.cell 7
    have c8 : W1.cell? ⟨w.heap.size, 8, none⟩ = some (.int .i64 s.nud) := hs.cell 8
    clear hB hs hd R
    go_wp2
    all_goals
      clear a0 a1 a2 a3 c5 c6 c7 c8
      go_ret
      refine ⟨ret_boo ?_, HB.out⟩
      rw [HR.out]
      clear HR HB
      unfold rdB DM.tk
      first | (simp_all; done) | (simp_all; omega)
  · refine (rright_f s R _).mono ?_
    rintro e W1 ⟨rfl, hb⟩
    have HB2 := Hid.intro' (below_class (((Below.refl _ w).alloc (Nat.le_refl _) _).alloc (by simp) _) hb)
    have HR := Hid.intro' (drB_f R p l r h)
    clear hb R
    go_wp2
    go_ret
    exact ⟨ret_boo HR.out.symm, HB2.out⟩

end Go.Proofs.Ytjpkekmccbpclaj

/- The walks of package num and of the document's answer for it: each function's contract. -/
namespace Go.Proofs.Ytjpkekmccbpclaj
open Go.RowKit


set_option maxHeartbeats 400000 in
theorem within_any (a : Int) (w : World) :
    Calls Try.prog 38 #[.int .i64 a] w fun e w' => e = .returned (.int .i64 (NumM.cl a)) ∧ w' = w := by
  go_enter Try.func38, Try.ntmps38
  go_wp2
  all_goals
    go_ret
    exact ⟨ret_int (by unfold NumM.cl; (repeat' split); all_goals omega), rfl⟩

set_option maxHeartbeats 400000 in
theorem size_any (a : Int) (w : World) (h1 : -1099511627776 ≤ a) (h2 : a ≤ 1099511627776) :
    Calls Try.prog 49 #[.int .i64 a] w fun e w' => e = .returned (.int .i64 (NumM.sz a)) ∧ w' = w := by
  go_enter Try.func49, Try.ntmps49
  go_wp2
  all_goals
    go_ret
    exact ⟨ret_int (by unfold NumM.sz; split <;> omega), rfl⟩

set_option maxHeartbeats 400000 in
theorem add_any (a b : Int) (w : World) :
    Calls Try.prog 28 #[.int .i64 a, .int .i64 b] w fun e w' => e = .returned (.int .i64 (NumM.cl (NumM.cl a + NumM.cl b))) ∧ w' = w := by
  obtain ⟨a1, a2⟩ := NumM.cl_bd a
  obtain ⟨b1, b2⟩ := NumM.cl_bd b
  go_enter Try.func28, Try.ntmps28
  go_wp2_with (go_at_call 38; refine (within_any _ _).mono ?_; rintro e w' ⟨rfl, rfl⟩)
  go_ret
  exact ⟨rfl, rfl⟩

set_option maxHeartbeats 1000000 in
theorem mul_any (a b : Int) (w : World) :
    Calls Try.prog 48 #[.int .i64 a, .int .i64 b] w fun e w' => e = .returned (.int .i64 (NumM.cl (NumM.cl a * NumM.cl b))) ∧ w' = w := by
  obtain ⟨a1, a2⟩ := NumM.cl_bd a
  obtain ⟨b1, b2⟩ := NumM.cl_bd b
  have s1 := NumM.sz_nonneg (NumM.cl a)
  have s2 := NumM.sz_nonneg (NumM.cl b)
  by_cases h0 : NumM.cl a = 0
  · have hb : (NumM.cl a != 0) = false := by simp [h0]
    have H0 : Hid (NumM.cl a = 0) := h0
    have hm := NumM.mul_small (b := NumM.cl b) (Or.inl h0)
    clear h0
    go_enter Try.func48, Try.ntmps48
    go_wp2_with (first | (go_at_call 38; refine (within_any _ _).mono ?_; rintro e w' ⟨rfl, rfl⟩) | (go_at_call 49; refine (size_any _ _ (by omega) (by omega)).mono ?_; rintro e w' ⟨rfl, rfl⟩))
    go_ret
    exact ⟨ret_int (by rw [NumM.cl_in hm.1 hm.2]), rfl⟩
  · have hb : (NumM.cl a != 0) = true := by simp [h0]
    have s3 := NumM.sz_pos h0
    by_cases hq : NumM.sz (NumM.cl b) ≤ 1099511627776 / NumM.sz (NumM.cl a)
    · have hm := NumM.mul_small (Or.inr hq)
      clear h0
      go_enter Try.func48, Try.ntmps48
      go_wp2_with (first | (go_at_call 38; refine (within_any _ _).mono ?_; rintro e w' ⟨rfl, rfl⟩) | (go_at_call 49; refine (size_any _ _ (by omega) (by omega)).mono ?_; rintro e w' ⟨rfl, rfl⟩))
      go_ret
      exact ⟨ret_int (by rw [NumM.cl_in hm.1 hm.2]), rfl⟩
    · have hq' : 1099511627776 / NumM.sz (NumM.cl a) < NumM.sz (NumM.cl b) := by omega
      have HM : Hid (NumM.cl (NumM.cl a * NumM.cl b) = if (NumM.cl a < 0) ≠ (NumM.cl b < 0) then -1099511627776 else 1099511627776) := NumM.cl_mul_pass h0 hq'
      clear h0 hq
      rcases Bool.eq_false_or_eq_true (decide (NumM.cl a < 0)) with xa | xa <;> rcases Bool.eq_false_or_eq_true (decide (NumM.cl b < 0)) with xb | xb
      all_goals
        go_enter Try.func48, Try.ntmps48
        go_wp2_with (first | (go_at_call 38; refine (within_any _ _).mono ?_; rintro e w' ⟨rfl, rfl⟩) | (go_at_call 49; refine (size_any _ _ (by omega) (by omega)).mono ?_; rintro e w' ⟨rfl, rfl⟩))
        go_ret
        exact ⟨ret_int (by rw [HM.out]; simp only [decide_eq_true_eq, decide_eq_false_iff_not] at xa xb; simp [xa, xb]), rfl⟩

theorem take_snoc_i (zs : List Int) (k : Nat) (h : k < zs.length) : zs.take (k + 1) = zs.take k ++ [zs[k]?.getD 0] := by
  rw [List.take_succ_eq_append_getElem h]; simp [h]
theorem sum_take (zs : List Int) (k : Nat) (h : k < zs.length) : NumM.cl (NumM.cl (NumM.sumL (zs.take k)) + NumM.cl (zs[k]?.getD 0)) = NumM.sumL (zs.take (k + 1)) := by
  rw [take_snoc_i zs k h, NumM.sumL_snoc]

set_option maxHeartbeats 400000 in
theorem sum_any (b off len cap : Nat) (zs : List Int) (w : World) (hl : len ≤ zs.length) (hm : len ≤ 1000000)
    (hc : ∀ i, i < len → w.cell? ⟨b, off + i, none⟩ = some (.int .i64 (zs[i]?.getD 0))) :
    Calls Try.prog 47 #[.slice (some ⟨b, off, none⟩) len cap] w fun e w' => e = .returned (.int .i64 (NumM.sumL (zs.take len))) ∧ w' = w := by
  go_enter Try.func47, Try.ntmps47
  go_wp2
  go_loop [3, 8] (fun t i => ∃ k : Nat, k ≤ len ∧ i = .int .i64 k ∧ t = .int .i64 (NumM.sumL (zs.take k))) (fun _ i => len - (intOf i).toNat)
  case atStart => exact ⟨0, Nat.zero_le _, rfl, rfl⟩
  case round =>
    obtain ⟨k, hk, rfl, rfl⟩ := hrel
    by_cases hlt : k < len
    · have hcell := hc k hlt
      have HS : Hid (NumM.cl (NumM.cl (NumM.sumL (zs.take k)) + NumM.cl (zs[k]?.getD 0)) = NumM.sumL (zs.take (k + 1))) := sum_take zs k (by omega)
      clear hc
      go_wp2_with (go_at_call 28; refine (add_any _ _ _).mono ?_; rintro e w' ⟨rfl, rfl⟩)
      go_round
      case rel => exact ⟨k + 1, by omega, by go_num, by rw [HS.out]⟩
      case measure => simp [intOf]; omega
    · obtain rfl : k = len := by omega
      clear hc
      go_wp2
      go_ret
      exact ⟨rfl, rfl⟩

end Go.Proofs.Ytjpkekmccbpclaj

/- Travel, as the program reckons it. -/
namespace Go.Proofs.Ytjpkekmccbpclaj
open Go.RowKit

theorem new_drew (W : World) (o : Obj) (n : Nat) (hn : W.heap.size = n) : ((W.alloc o).drew).heap[n]? = some o := by subst hn; exact World.alloc_heap_new W o
theorem new_at (W : World) (o : Obj) (n : Nat) (hn : W.heap.size = n) : (W.alloc o).heap[n]? = some o := by subst hn; exact World.alloc_heap_new W o
/-- the sum of a row that is a block -/
theorem sum_row (W : World) (n : Nat) (zs : List Int) (L C : Nat) (hl : zs.length = L) (hm : L ≤ 100) (hn : W.heap[n]? = some (.cells (zs.map fun z => Value.int .i64 z).toArray 3)) :
    Calls Try.prog 47 #[.slice (some ⟨n, 0, none⟩) L C] W fun e w' => e = .returned (.int .i64 (NumM.sumL zs)) ∧ w' = W := by
  subst hl
  have := sum_any n 0 zs.length C zs W (Nat.le_refl _) (by omega) (fun i hi => by
    rw [Nat.zero_add]
    have e : W.cell? ⟨n, i, none⟩ = (zs.map fun z => Value.int .i64 z).toArray[i]? := by unfold World.cell?; rw [hn]; rfl
    rw [e]
    simp [hi])
  rwa [List.take_length] at this
theorem sum3 (W : World) (n : Nat) (x y z : Int) (C : Nat) (hn : W.heap[n]? = some (.cells #[.int .i64 x, .int .i64 y, .int .i64 z] 3)) :
    Calls Try.prog 47 #[.slice (some ⟨n, 0, none⟩) 3 C] W fun e w' => e = .returned (.int .i64 (NumM.sumL [x, y, z])) ∧ w' = W :=
  sum_row W n [x, y, z] 3 C rfl (by omega) hn
theorem sum4 (W : World) (n : Nat) (x y z u : Int) (C : Nat) (hn : W.heap[n]? = some (.cells #[.int .i64 x, .int .i64 y, .int .i64 z, .int .i64 u] 3)) :
    Calls Try.prog 47 #[.slice (some ⟨n, 0, none⟩) 4 C] W fun e w' => e = .returned (.int .i64 (NumM.sumL [x, y, z, u])) ∧ w' = W :=
  sum_row W n [x, y, z, u] 4 C rfl (by omega) hn

set_option maxHeartbeats 1000000 in
theorem travel_out (s : St) (a b : Int) (w : World) (HO : Hid (a < 0 ∨ b < 0 ∨ s.fl ≤ a ∨ s.fl ≤ b ∨ a = b)) :
    Calls Try.prog 42 #[.agg (sv s).toArray, .int .i64 a, .int .i64 b] w fun e w' => e = .returned (.int .i64 (SM.trav s a b)) ∧ Below w.heap.size w w' := by
  have n0 := SB.new w s
  have hc0 : (w.alloc (.cells (sv s).toArray 23)).cell? ⟨w.heap.size, 0, none⟩ = some (.int .i64 s.fl) := n0.cell 0
  have HB : Hid (Below w.heap.size w (w.alloc (.cells (sv s).toArray 23))) := Hid.intro' ((Below.refl _ w).alloc (Nat.le_refl _) _)
  have HT := Hid.intro' (SM.trav_out HO.out)
  clear n0
  go_enter Try.func42, Try.ntmps42
  go_wp2
  all_goals first
    | (go_ret; exact ⟨ret_int HT.out.symm, HB.out⟩)
    | (exfalso; have := HO.out; simp only [beq_eq_false_iff_ne] at *; omega)
set_option maxHeartbeats 1000000 in
theorem travel_up (s : St) (a b : Int) (w : World) (h2 : b < s.fl) (f1 : s.fl ≤ 64) (h1 : 0 ≤ a) (hlt : a < b) (HS : Hid (NumM.sumL [s.sta, NumM.cl (NumM.cl s.ste * NumM.cl (b - a)), s.sto] = SM.trav s a b)) :
    Calls Try.prog 42 #[.agg (sv s).toArray, .int .i64 a, .int .i64 b] w fun e w' => e = .returned (.int .i64 (SM.trav s a b)) ∧ Below w.heap.size w w' := by
  have n0 := SB.new w s
  have hc0 : (w.alloc (.cells (sv s).toArray 23)).cell? ⟨w.heap.size, 0, none⟩ = some (.int .i64 s.fl) := n0.cell 0
  have hc2 : (w.alloc (.cells (sv s).toArray 23)).cell? ⟨w.heap.size, 2, none⟩ = some (.int .i64 s.sta) := n0.cell 2
  have hc3 : (w.alloc (.cells (sv s).toArray 23)).cell? ⟨w.heap.size, 3, none⟩ = some (.int .i64 s.ste) := n0.cell 3
  have hc4 : (w.alloc (.cells (sv s).toArray 23)).cell? ⟨w.heap.size, 4, none⟩ = some (.int .i64 s.sto) := n0.cell 4
  have HB : Hid (Below w.heap.size w (w.alloc (.cells (sv s).toArray 23))) := Hid.intro' ((Below.refl _ w).alloc (Nat.le_refl _) _)
  have hx : (a == b) = false := by simp; omega
  clear n0
  go_enter Try.func42, Try.ntmps42
  go_wp2
  go_region_held3 (fun w' => w'.cell? ⟨w.heap.size, 2, none⟩ = some (.int .i64 s.sta) ∧ w'.cell? ⟨w.heap.size, 3, none⟩ = some (.int .i64 s.ste) ∧ w'.cell? ⟨w.heap.size, 4, none⟩ = some (.int .i64 s.sto)) (go_keep) (first | (go_at_call 48; refine (mul_any _ _ _).mono ?_; rintro e w' ⟨rfl, rfl⟩) | (go_at_call 47; refine (sum3 _ _ _ _ _ _ (new_drew _ _ _ (World.size_alloc _ _))).mono ?_; rintro e w' ⟨rfl, rfl⟩))
  go_wp2
  go_ret
  exact ⟨ret_int (by rw [IntWalk.i64_in _ ⟨by omega, by omega⟩]; exact HS.out), (HB.out.alloc (by simp) _).drew⟩
set_option maxHeartbeats 1000000 in
theorem travel_down (s : St) (a b : Int) (w : World) (h2 : a < s.fl) (f1 : s.fl ≤ 64) (h1 : 0 ≤ b) (hlt : b < a) (HS : Hid (NumM.sumL [s.sta, NumM.cl (NumM.cl s.ste * NumM.cl (a - b)), s.sto] = SM.trav s a b)) :
    Calls Try.prog 42 #[.agg (sv s).toArray, .int .i64 a, .int .i64 b] w fun e w' => e = .returned (.int .i64 (SM.trav s a b)) ∧ Below w.heap.size w w' := by
  have n0 := SB.new w s
  have hc0 : (w.alloc (.cells (sv s).toArray 23)).cell? ⟨w.heap.size, 0, none⟩ = some (.int .i64 s.fl) := n0.cell 0
  have hc2 : (w.alloc (.cells (sv s).toArray 23)).cell? ⟨w.heap.size, 2, none⟩ = some (.int .i64 s.sta) := n0.cell 2
  have hc3 : (w.alloc (.cells (sv s).toArray 23)).cell? ⟨w.heap.size, 3, none⟩ = some (.int .i64 s.ste) := n0.cell 3
  have hc4 : (w.alloc (.cells (sv s).toArray 23)).cell? ⟨w.heap.size, 4, none⟩ = some (.int .i64 s.sto) := n0.cell 4
  have HB : Hid (Below w.heap.size w (w.alloc (.cells (sv s).toArray 23))) := Hid.intro' ((Below.refl _ w).alloc (Nat.le_refl _) _)
  have hx : (b == a) = false := by simp; omega
  clear n0
  go_enter Try.func42, Try.ntmps42
  go_wp2
  go_region_held3 (fun w' => w'.cell? ⟨w.heap.size, 2, none⟩ = some (.int .i64 s.sta) ∧ w'.cell? ⟨w.heap.size, 3, none⟩ = some (.int .i64 s.ste) ∧ w'.cell? ⟨w.heap.size, 4, none⟩ = some (.int .i64 s.sto)) (go_keep) (first | (go_at_call 48; refine (mul_any _ _ _).mono ?_; rintro e w' ⟨rfl, rfl⟩) | (go_at_call 47; refine (sum3 _ _ _ _ _ _ (new_drew _ _ _ (World.size_alloc _ _))).mono ?_; rintro e w' ⟨rfl, rfl⟩))
  go_wp2
  go_ret
  exact ⟨ret_int (by rw [IntWalk.i64_in _ ⟨by omega, by omega⟩]; exact HS.out), (HB.out.alloc (by simp) _).drew⟩
theorem travel_any (s : St) (r : SM.Rt s) (a b : Int) (w : World) :
    Calls Try.prog 42 #[.agg (sv s).toArray, .int .i64 a, .int .i64 b] w fun e w' => e = .returned (.int .i64 (SM.trav s a b)) ∧ Below w.heap.size w w' := by
  by_cases hout : a < 0 ∨ b < 0 ∨ s.fl ≤ a ∨ s.fl ≤ b ∨ a = b
  · exact travel_out s a b w hout
  · have f1 := r.fl2
    have hne : ¬ a = b := by omega
    have HS := SM.travel_sum r (a := a) (b := b) (by omega) (by omega) (by omega) (by omega) hne
    unfold SM.dist at HS
    rcases Int.lt_or_lt_of_ne hne with hlt | hlt
    · rw [if_pos hlt] at HS
      exact travel_up s a b w (by omega) f1 (by omega) hlt HS
    · rw [if_neg (by omega)] at HS
      exact travel_down s a b w (by omega) f1 (by omega) hlt HS

end Go.Proofs.Ytjpkekmccbpclaj

/- Travel, service and bound, as the document's answer reckons them. -/
namespace Go.Proofs.Ytjpkekmccbpclaj
open Go.RowKit

theorem SB.c0 {W : World} {b : Nat} {s : St} (h : SB W b s) : W.cell? ⟨b, 0, none⟩ = some (.int .i64 s.fl) := h.cell 0
theorem SB.c2 {W : World} {b : Nat} {s : St} (h : SB W b s) : W.cell? ⟨b, 2, none⟩ = some (.int .i64 s.sta) := h.cell 2
theorem SB.c3 {W : World} {b : Nat} {s : St} (h : SB W b s) : W.cell? ⟨b, 3, none⟩ = some (.int .i64 s.ste) := h.cell 3
theorem SB.c4 {W : World} {b : Nat} {s : St} (h : SB W b s) : W.cell? ⟨b, 4, none⟩ = some (.int .i64 s.sto) := h.cell 4
theorem SB.c5 {W : World} {b : Nat} {s : St} (h : SB W b s) : W.cell? ⟨b, 5, none⟩ = some (.int .i64 s.opn) := h.cell 5
theorem SB.c6 {W : World} {b : Nat} {s : St} (h : SB W b s) : W.cell? ⟨b, 6, none⟩ = some (.int .i64 s.wai) := h.cell 6
theorem SB.c7 {W : World} {b : Nat} {s : St} (h : SB W b s) : W.cell? ⟨b, 7, none⟩ = some (.int .i64 s.clo) := h.cell 7
theorem SB.c8 {W : World} {b : Nat} {s : St} (h : SB W b s) : W.cell? ⟨b, 8, none⟩ = some (.int .i64 s.nud) := h.cell 8
theorem SB.c9 {W : World} {b : Nat} {s : St} (h : SB W b s) : W.cell? ⟨b, 9, none⟩ = some (.int .i64 s.age) := h.cell 9
theorem SB.c12 {W : World} {b : Nat} {s : St} (h : SB W b s) : W.cell? ⟨b, 12, none⟩ = some (.int .i64 s.per) := h.cell 12

set_option maxHeartbeats 1000000 in
theorem rtravel_out (s : St) (a b : Int) (w : World) (HO : Hid (a < 0 ∨ b < 0 ∨ s.fl ≤ a ∨ s.fl ≤ b ∨ a = b)) :
    Calls Try.prog 22 #[.agg (sv s).toArray, .int .i64 a, .int .i64 b] w fun e w' => e = .returned (.int .i64 (SM.trav s a b)) ∧ Below w.heap.size w w' := by
  have n0 := SB.new w s
  have hc0 := n0.c0
  have hc2 := n0.c2
  have hc4 := n0.c4
  have HB : Hid (Below w.heap.size w (w.alloc (.cells (sv s).toArray 23))) := Hid.intro' ((Below.refl _ w).alloc (Nat.le_refl _) _)
  have HT := Hid.intro' (SM.trav_out HO.out)
  clear n0
  go_enter Try.func22, Try.ntmps22
  go_wp2
  all_goals first
    | (go_ret; exact ⟨ret_int HT.out.symm, HB.out⟩)
    | (exfalso; have := HO.out; simp only [beq_eq_false_iff_ne] at *; omega)

theorem SM.step_one (c x a : Int) : c * (x + 1 - a) = c * (x - a) + c := by
  rw [show x + 1 - a = (x - a) + 1 by omega, Int.mul_add, Int.mul_one]
theorem SM.step_less (c x a : Int) : c * (a - (x - 1)) = c * (a - x) + c := by
  rw [show a - (x - 1) = (a - x) + 1 by omega, Int.mul_add, Int.mul_one]

set_option maxHeartbeats 1000000 in
theorem rtravel_up (s : St) (r : SM.Rt s) (a b : Int) (w : World) (h2 : b < s.fl) (h1 : 0 ≤ a) (hlt : a < b) :
    Calls Try.prog 22 #[.agg (sv s).toArray, .int .i64 a, .int .i64 b] w fun e w' => e = .returned (.int .i64 (SM.trav s a b)) ∧ Below w.heap.size w w' := by
  have n0 := SB.new w s
  have hc0 := n0.c0
  have hc2 := n0.c2
  have hc3 := n0.c3
  have hc4 := n0.c4
  have HB : Hid (Below w.heap.size w (w.alloc (.cells (sv s).toArray 23))) := Hid.intro' ((Below.refl _ w).alloc (Nat.le_refl _) _)
  have f1 := r.fl2
  have a1 := r.sta1
  have a2 := r.sta2
  have a3 := r.sto1
  have a4 := r.sto2
  have a5 := r.ste1
  have a6 := r.ste2
  have hx : (a == b) = false := by simp; omega
  have HT := Hid.intro' (SM.trav_in (s := s) h1 (show 0 ≤ b by omega) (show a < s.fl by omega) h2 (show a ≠ b by omega))
  have HD := Hid.intro' (show SM.dist a b = b - a by unfold SM.dist; rw [if_pos hlt])
  have R := Hid.intro' r
  clear n0 r
  go_enter Try.func22, Try.ntmps22
  go_wp2
  go_loop [1, 7] (fun t u => ∃ x m : Int, a ≤ x ∧ x ≤ b ∧ 0 ≤ m ∧ m ≤ 63000 ∧ t = .int .i64 x ∧ u = .int .i64 (s.sta + s.sto + m) ∧ Hid (m = s.ste * (x - a))) (fun t _ => (b - intOf t).toNat)
  case atStart => exact ⟨a, 0, by omega, by omega, by omega, by omega, rfl, by go_num, Hid.intro' (by simp)⟩
  case round =>
    obtain ⟨x, m, hx1, hx2, hm1, hm2, rfl, rfl, HM⟩ := hrel
    by_cases hl : x < b
    · have HM2 := Hid.intro' (show m + s.ste = s.ste * (x + 1 - a) by rw [SM.step_one, ← HM.out])
      have hb := SM.step_bd R.out (d := x + 1 - a) (by omega) (by omega)
      rw [← HM2.out] at hb
      obtain ⟨hb1, hb2⟩ := hb
      go_wp2
      go_round
      case rel => exact ⟨x + 1, m + s.ste, by omega, by omega, by omega, by omega, by go_num, by go_num, HM2⟩
      case measure => simp [intOf]; omega
    · obtain rfl : x = b := by omega
      go_wp2
      go_loop [1, 7] (fun t u => t = .int .i64 x ∧ u = .int .i64 (s.sta + s.sto + m)) (fun _ _ => 0)
      case atStart => exact ⟨rfl, rfl⟩
      case round =>
        obtain ⟨rfl, rfl⟩ := hrel
        go_wp2
        go_ret
        exact ⟨ret_int (by rw [HT.out, HD.out, ← HM.out]; omega), HB.out⟩
set_option maxHeartbeats 1000000 in
theorem rtravel_down (s : St) (r : SM.Rt s) (a b : Int) (w : World) (h2 : a < s.fl) (h1 : 0 ≤ b) (hlt : b < a) :
    Calls Try.prog 22 #[.agg (sv s).toArray, .int .i64 a, .int .i64 b] w fun e w' => e = .returned (.int .i64 (SM.trav s a b)) ∧ Below w.heap.size w w' := by
  have n0 := SB.new w s
  have hc0 := n0.c0
  have hc2 := n0.c2
  have hc3 := n0.c3
  have hc4 := n0.c4
  have HB : Hid (Below w.heap.size w (w.alloc (.cells (sv s).toArray 23))) := Hid.intro' ((Below.refl _ w).alloc (Nat.le_refl _) _)
  have f1 := r.fl2
  have a1 := r.sta1
  have a2 := r.sta2
  have a3 := r.sto1
  have a4 := r.sto2
  have a5 := r.ste1
  have a6 := r.ste2
  have hx : (a == b) = false := by simp; omega
  have HT := Hid.intro' (SM.trav_in (s := s) (show 0 ≤ a by omega) h1 h2 (show b < s.fl by omega) (show a ≠ b by omega))
  have HD := Hid.intro' (show SM.dist a b = a - b by unfold SM.dist; rw [if_neg (by omega)])
  have R := Hid.intro' r
  clear n0 r
  go_enter Try.func22, Try.ntmps22
  go_wp2
  go_loop [1, 7] (fun t u => t = .int .i64 a ∧ u = .int .i64 (s.sta + s.sto)) (fun _ _ => 0)
  case atStart => exact ⟨rfl, rfl⟩
  case round =>
    obtain ⟨rfl, rfl⟩ := hrel
    go_wp2
    go_loop [1, 7] (fun t u => ∃ x m : Int, b ≤ x ∧ x ≤ a ∧ 0 ≤ m ∧ m ≤ 63000 ∧ t = .int .i64 x ∧ u = .int .i64 (s.sta + s.sto + m) ∧ Hid (m = s.ste * (a - x))) (fun t _ => (intOf t - b).toNat)
    case atStart => exact ⟨a, 0, by omega, by omega, by omega, by omega, rfl, by go_num, Hid.intro' (by simp)⟩
    case round =>
      obtain ⟨x, m, hx1, hx2, hm1, hm2, rfl, rfl, HM⟩ := hrel
      by_cases hl : b < x
      · have HM2 := Hid.intro' (show m + s.ste = s.ste * (a - (x - 1)) by rw [SM.step_less, ← HM.out])
        have hb := SM.step_bd R.out (d := a - (x - 1)) (by omega) (by omega)
        rw [← HM2.out] at hb
        obtain ⟨hb1, hb2⟩ := hb
        go_wp2
        go_round
        case rel => exact ⟨x - 1, m + s.ste, by omega, by omega, by omega, by omega, by go_num, by go_num, HM2⟩
        case measure => simp [intOf]; omega
      · obtain rfl : x = b := by omega
        go_wp2
        go_ret
        exact ⟨ret_int (by rw [HT.out, HD.out, ← HM.out]; omega), HB.out⟩
theorem rtravel_any (s : St) (r : SM.Rt s) (a b : Int) (w : World) :
    Calls Try.prog 22 #[.agg (sv s).toArray, .int .i64 a, .int .i64 b] w fun e w' => e = .returned (.int .i64 (SM.trav s a b)) ∧ Below w.heap.size w w' := by
  by_cases hout : a < 0 ∨ b < 0 ∨ s.fl ≤ a ∨ s.fl ≤ b ∨ a = b
  · exact rtravel_out s a b w hout
  · have hne : ¬ a = b := by omega
    rcases Int.lt_or_lt_of_ne hne with hlt | hlt
    · exact rtravel_up s r a b w (by omega) (by omega) hlt
    · exact rtravel_down s r a b w (by omega) (by omega) hlt

end Go.Proofs.Ytjpkekmccbpclaj
