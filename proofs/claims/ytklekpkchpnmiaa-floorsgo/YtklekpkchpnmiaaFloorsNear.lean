/- The first floor of a sequence, and the nearest floor of a set. -/
import Derived.Test.YtklekpkchpnmiaaFloorsDown
namespace Go.Proofs.Ytklekpkchpnmiaa
open Go.RowKit Go.Shelf
attribute [local go_sem] Oper.semAt_some

abbrev encF (x : Nat) : Array Value := #[.int .i64 (x : Nat)]

theorem up_stops (n Bf Bs s : Nat) (f : Int) (hs : s < 18446744073709551616) (w : World) (hbf : Bf < w.heap.size) (hbs : Bs < w.heap.size)
    (hf : w.cell? ⟨Bf, 0, none⟩ = some (.int .i64 f)) (hc : w.cell? ⟨Bs, 0, none⟩ = some (.int .u64 s)) :
    SeqStopsK Fence.wide n Try.prog 38 #[.pointer (some ⟨Bf, 0, none⟩), .pointer (some ⟨Bs, 0, none⟩)] encF (KeepC Bs) (fun ys => ys = FM.upL s f) (fun pre => pre <+: FM.upL s f) 64 w :=
  fun l J Jx W hW _ _ hY h0 => up1_in n l Bf Bs s f hs J Jx hY W ((hW.cell (p := ⟨Bf, 0, none⟩) hbf).trans hf) ((hW.cell (p := ⟨Bs, 0, none⟩) hbs).trans hc) h0
theorem down_stops (n Bf Bs s : Nat) (f : Int) (hs : s < 18446744073709551616) (w : World) (hbf : Bf < w.heap.size) (hbs : Bs < w.heap.size)
    (hf : w.cell? ⟨Bf, 0, none⟩ = some (.int .i64 f)) (hc : w.cell? ⟨Bs, 0, none⟩ = some (.int .u64 s)) :
    SeqStopsK Fence.wide n Try.prog 39 #[.pointer (some ⟨Bf, 0, none⟩), .pointer (some ⟨Bs, 0, none⟩)] encF (KeepC Bs) (fun ys => ys = FM.downL s f) (fun pre => pre <+: FM.downL s f) 64 w :=
  fun l J Jx W hW _ _ hY h0 => down1_in n l Bf Bs s f hs J Jx hY W ((hW.cell (p := ⟨Bf, 0, none⟩) hbf).trans hf) ((hW.cell (p := ⟨Bs, 0, none⟩) hbs).trans hc) h0

theorem keepC_t {b : Nat} {A B C : World} (h : KeepC b A B) (k : KeepC b B C) : KeepC b A C := Eq.trans k h
theorem keepC_b {b : Nat} {w : World} (hb : b < w.heap.size) (W : World) (l : Nat) (o o' : Obj) (hl : w.heap.size ≤ l) (h : W.heap[l]? = some o) (h1 : o.isCells = false) (h2 : o.isWalk = false) : KeepC b W (W.putObj l o') :=
  (belowK_b (n₀ := w.heap.size) (w := w) (Nat.le_refl _) W l o o' hl h h1 h2).cell (p := ⟨b, 0, none⟩) hb

set_option maxRecDepth 100000 in
set_option maxHeartbeats 2000000 in
theorem first_any (gf : Nat) (lb : Array Value) (xs : List Nat) (Bs : Nat) (w : World) (hBs : Bs < w.heap.size)
    (eg : ∀ args w, (callFunc gf args).run Try.prog w = .ok (.enter gf args) w)
    (hseq : SeqStopsK Fence.wide 8 Try.prog gf lb encF (KeepC Bs) (fun ys => ys = xs) (fun pre => pre <+: xs) 64 w) :
    Calls Try.prog 41 #[.func (.func gf) #[] lb] w fun e w' => e = .returned (.tuple #[.int .i64 ((xs.head?.getD 0 : Nat) : Int), .bool xs.head?.isSome]) ∧ Below w.heap.size w w' := by
  refine (callsIn_wide (n := 9)).1 ?_
  refine callsIn_of_wp_marks Try.func41 rfl trivial ?_ rfl
  simp only [Try.ntmps41, List.size_toArray, List.length_cons, List.length_nil, Nat.reduceAdd, Nat.reduceSub, Array.replicate_succ, Array.replicate_zero, List.push_toArray, List.append_toArray, List.nil_append, List.cons_append]
  have HSq := Hid.intro' hseq
  clear hseq
  gi_wp2
  have bR := (Boxed.new w 3 (.int .i64 0)).alloc (.cells #[.bool false] 4)
  have bO := Boxed.new (w.alloc (.cells #[.int .i64 0] 3)) 4 (.bool false)
  rw [World.size_alloc] at bO
  have hB0 : Below w.heap.size w ((w.alloc (.cells #[.int .i64 0] 3)).alloc (.cells #[.bool false] 4)) := ((Below.refl _ w).alloc (Nat.le_refl _) _).alloc (by simp) _
  refine wpIn_rangeFunc_ownF rfl (by decide) (gf := gf) (lb := lb) rfl trivial eg HSq.out keepC_t (keepC_b (by simp; omega)) hB0 (fun _ => rfl)
    (fun pre W => pre = [] ∧ Boxed W w.heap.size 3 (.int .i64 0) ∧ Boxed W (w.heap.size + 1) 4 (.bool false) ∧ Below w.heap.size w W)
    (fun c pre W => (c = .ret ∧ pre ≠ []) ∧ Boxed W w.heap.size 3 (.int .i64 ((pre.head?.getD 0 : Nat) : Int)) ∧ Boxed W (w.heap.size + 1) 4 (.bool true) ∧ Below w.heap.size w W)
    (OwnFrom.and (ownFrom_pure _ _) (OwnFrom.and (Own.from (boxed_own _ _ _) _) (OwnFrom.and (Own.from (boxed_own _ _ _) _) (ownFrom_below (Nat.le_refl _) (by simp; omega)))))
    (fun c => OwnFrom.and (ownFrom_pure _ _) (OwnFrom.and (Own.from (boxed_own _ _ _) _) (OwnFrom.and (Own.from (boxed_own _ _ _) _) (ownFrom_below (Nat.le_refl _) (by simp; omega)))))
    ⟨rfl, bR, bO, hB0⟩
    (fun x => { tmps := #[.func (.func gf) #[] lb, undef, .pointer (some ⟨w.heap.size, 0, none⟩), .pointer (some ⟨w.heap.size + 1, 0, none⟩), .int .i64 (x : Nat), .func (.func gf) #[] lb, .int .i64 (x : Nat), undef], defers := [] }) ?assign ?body ?done ?stop
  case assign =>
    intro l x W K hK
    gi_wp2
    exact hK
  case body =>
    rintro l pre x W ⟨rfl, b0, b1, hB⟩ _
    clear eg HSq
    have hc0 := b0.cell
    have hf0 := b0.frozen
    have hc1 := b1.cell
    have hf1 := b1.frozen
    gi_wp2
    exact ⟨(KeepsOthers.setCell _ _ _).trans (KeepsOthers.setCell _ _ _), ⟨rfl, by simp⟩, (b0.set _).other (by omega) _, (b1.other (by omega) _).set _, (hB.setCell (p := ⟨w.heap.size, 0, none⟩) (Nat.le_refl _) _).setCell (p := ⟨w.heap.size + 1, 0, none⟩) (by simp) _⟩
  case done =>
    rintro D ys W hD rfl ⟨rfl, b0, b1, hB⟩ hK
    clear eg HSq
    have hc0 := b0.cell
    have hf0 := b0.frozen
    have hc1 := b1.cell
    have hf1 := b1.frozen
    gi_wp2
    have hK' := ((KeepsOthers.setCell W ⟨w.heap.size, 0, none⟩ (.int .i64 0)).trans (KeepsOthers.setCell _ ⟨w.heap.size + 1, 0, none⟩ (.bool false))).same D _ hK rfl
    have r0 : Boxed ((W.setCell ⟨w.heap.size, 0, none⟩ (.int .i64 0)).setCell ⟨w.heap.size + 1, 0, none⟩ (.bool false)) w.heap.size 3 (.int .i64 0) := (b0.set _).other (by omega) _
    have r1 : Boxed ((W.setCell ⟨w.heap.size, 0, none⟩ (.int .i64 0)).setCell ⟨w.heap.size + 1, 0, none⟩ (.bool false)) (w.heap.size + 1) 4 (.bool false) := (b1.other (by omega) _).set _
    have hB' : Below w.heap.size w ((W.setCell ⟨w.heap.size, 0, none⟩ (.int .i64 0)).setCell ⟨w.heap.size + 1, 0, none⟩ (.bool false)) := (hB.setCell (p := ⟨w.heap.size, 0, none⟩) (Nat.le_refl _) _).setCell (p := ⟨w.heap.size + 1, 0, none⟩) (by simp) _
    refine ⟨by simp, .inl ⟨_, _, rfl, run_takeDeferred hK', ?_⟩⟩
    have hc5 := cell_kept r0.cell (grownBy_putObj' _ D (.deferred none)) (fun r e => by cases e; exact ⟨_, hK', rfl⟩)
    have hc6 := cell_kept r1.cell (grownBy_putObj' _ D (.deferred none)) (fun r e => by cases e; exact ⟨_, hK', rfl⟩)
    refine ⟨.tuple #[.int .i64 0, .bool false], ?_, by simp, hB'.trans (belowK_b (w := w) (Nat.le_refl _) _ D _ _ (by simp at hD; omega) hK' rfl rfl)⟩
    simp [results, Try.f41, go_sem, hc5, hc6]
  case stop =>
    rintro D c pre W hD hpre ⟨⟨rfl, hne⟩, b0, b1, hB⟩ hK
    clear eg HSq
    gi_wp2
    refine ⟨by simp, .inl ⟨_, _, rfl, run_takeDeferred hK, ?_⟩⟩
    have hc5 := cell_kept b0.cell (grownBy_putObj' _ D (.deferred none)) (fun r e => by cases e; exact ⟨_, hK, rfl⟩)
    have hc6 := cell_kept b1.cell (grownBy_putObj' _ D (.deferred none)) (fun r e => by cases e; exact ⟨_, hK, rfl⟩)
    have hh : xs.head? = pre.head? ∧ pre.head?.isSome = true := by
      obtain ⟨t, rfl⟩ := hpre
      cases pre with
      | nil => exact absurd rfl hne
      | cons x pre => simp
    refine ⟨.tuple #[.int .i64 ((pre.head?.getD 0 : Nat) : Int), .bool true], ?_, by rw [hh.1, hh.2], hB.trans (belowK_b (w := w) (Nat.le_refl _) W D _ _ (by simp at hD; omega) hK rfl rfl)⟩
    simp [results, Try.f41, go_sem, hc5, hc6]

end Go.Proofs.Ytklekpkchpnmiaa
