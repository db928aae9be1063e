/- The document's Feed, and Same. -/
import Derived.Test.YtkbfljacjfaamaeFrL
namespace Go.Proofs.Ytkbfljacjfaamae
open Go.RowKit

/-- what holds in a round of the document's Feed -/
structure Gx (w wr : World) (l : List Nat) (k : Nat) (F : List Fr) (n : Nat) (fo : Value) : Prop where
  own : FO wr w.heap.size fo F
  bel : Below w.heap.size w wr
  eq : FC.fd l = (F ++ (FC.fd (l.drop k)).1, n + (FC.fd (l.drop k)).2.1, (FC.fd (l.drop k)).2.2)
  cnt : F.length * 10 + n = k
section
variable {w wr W : World} {l : List Nat} {k : Nat} {F : List Fr} {n : Nat} {fo : Value}
theorem Gx.next (h : Gx w wr l k F n fo) (hb : Below wr.heap.size wr W) : Gx w W l k F n fo := ⟨h.own.below' hb, below_class h.bel hb, h.eq, h.cnt⟩
theorem Gx.alloc (h : Gx w wr l k F n fo) (o : Obj) : Gx w (wr.alloc o) l k F n fo := h.next ((Below.refl _ _).alloc (Nat.le_refl _) o)
theorem Gx.yes (h : Gx w wr l k F n fo) (h10 : k + 10 ≤ l.length) {d : Fr} (D : Dc (l.drop k) d 0) {fo' : Value} (hf : FO W w.heap.size fo' (F ++ [d])) (hg : wr.grownBy W fo.ownBlock) : Gx w W l (k + 10) (F ++ [d]) n fo' := by
  refine ⟨hf, h.bel.grown hg h.bel.size (fun k hk => (h.own.lt k hk).1), ?_, ?_⟩
  · rw [h.eq, FC.fd_yes (by rw [List.length_drop]; omega) D.de, D.df, List.drop_drop]
    simp
  · have := h.cnt
    simp only [List.length_append, List.length_cons, List.length_nil]
    omega
theorem Gx.no (h : Gx w wr l k F n fo) (h10 : k + 10 ≤ l.length) {d : Fr} {q : Nat} (D : Dc (l.drop k) d q) (hq : q ≠ 0) : Gx w wr l (k + 1) F (n + 1) fo := by
  refine ⟨h.own, h.bel, ?_, ?_⟩
  · rw [h.eq, FC.fd_no (by rw [List.length_drop]; omega) (by rw [D.de]; exact hq), List.drop_drop]
    simp only [Prod.mk.injEq, true_and, and_true]
    omega
  · have := h.cnt
    omega
end
/-- ten bytes out of a row -/
theorem RD.mid {W : World} {g o n cap : Nat} {l : List Nat} (h : RD W (.slice (some ⟨g, o, none⟩) n cap) l) (k c : Nat) (hk : k + 10 ≤ l.length) (hc : c = cap - k) : RD W (.slice (some ⟨g, o + k, none⟩) 10 c) ((l.drop k).take 10) := by
  subst hc
  have h1 := h.drop (a' := some ⟨g, o + k, none⟩) k (by omega) (fun g' o' e _ => by cases e; rfl) (fun e => by cases e)
  exact h1.take 10 (by rw [List.length_drop]; omega)
theorem RF.cells6 {W : World} {g o : Nat} {y : Fr} (h : W.rangeAt g o (fv y)) : W.cell? ⟨g, o, none⟩ = some (.int .i64 y.ki) ∧ W.cell? ⟨g, o + 1, none⟩ = some (.int .i64 y.ca) ∧ W.cell? ⟨g, o + 2, none⟩ = some (.int .i64 y.sq) ∧ W.cell? ⟨g, o + 3, none⟩ = some (.int .i64 y.a) ∧ W.cell? ⟨g, o + 4, none⟩ = some (.int .i64 y.b) ∧ W.cell? ⟨g, o + 5, none⟩ = some (.int .i64 y.c) :=
  ⟨h 0 _ rfl, h 1 _ rfl, h 2 _ rfl, h 3 _ rfl, h 4 _ rfl, h 5 _ rfl⟩

set_option maxHeartbeats 2000000 in
theorem sames_any (u v : Value) (L : List Fr) (w : World) (hu : RF w u L) (hv : RF w v L) (hl : L.length ≤ 1000) :
    Calls Try.prog 9 #[u, v] w fun e w' => e = .returned (.bool true) ∧ Below w.heap.size w w' := by
  have HU := Hid.intro' hu
  have HV := Hid.intro' hv
  obtain ⟨a, ca, rfl, hca⟩ := hu.form
  obtain ⟨b, cb, rfl, hcb⟩ := hv.form
  clear hu hv
  go_enter Try.func9, Try.ntmps9
  go_wp2
  go_loopw [5] (fun i wr => ∃ k : Nat, k ≤ L.length ∧ i = .int .i64 (k : Int) ∧ Hid (Below w.heap.size w wr)) (fun i _ => L.length - (intOf i).toNat)
  case atStart => exact ⟨0, Nat.zero_le _, rfl, Below.refl _ _⟩
  case round =>
    obtain ⟨k, hk, rfl, HB⟩ := hrel
    by_cases hlt : k < L.length
    · have hkz : (k : Int) < (L.length : Int) := by omega
      have hy : L[k]? = some L[k] := List.getElem?_eq_getElem hlt
      obtain ⟨g, o, rfl, _, hr⟩ := (HU.out.below' HB.out).at hy
      obtain ⟨g', o', rfl, _, hr'⟩ := (HV.out.below' HB.out).at hy
      generalize L[k] = y at hr hr'
      obtain ⟨c0, c1, c2, c3, c4, c5⟩ := RF.cells6 hr
      obtain ⟨d0, d1, d2, d3, d4, d5⟩ := RF.cells6 hr'
      have hq : ∀ W, (Op.equalIn 10000 26 (.agg #[.int .i64 y.ki, .int .i64 y.ca, .int .i64 y.sq, .int .i64 y.a, .int .i64 y.b, .int .i64 y.c]) (.agg #[.int .i64 y.ki, .int .i64 y.ca, .int .i64 y.sq, .int .i64 y.a, .int .i64 y.b, .int .i64 y.c])).run Try.prog W = .ok true W := fun W => by rw [eqF W y y, smF_refl]
      clear hy hr hr'
      go_wp2_with fail
      go_quiet (fail)
      have HB2 := Hid.intro' (below_class HB.out (below_drewN (Below.refl wr.heap.size wr) nq))
      go_wp2
      go_roundw
      case rel => exact ⟨k + 1, by omega, by go_num, HB2⟩
      case measure => simp [intOf]; omega
    · have hkz : ¬ (k : Int) < (L.length : Int) := by omega
      go_wp2
      go_ret
      exact ⟨rfl, HB.out⟩

end Go.Proofs.Ytkbfljacjfaamae
