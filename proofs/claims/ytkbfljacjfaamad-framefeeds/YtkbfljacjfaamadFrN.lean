/- The document's Feed, and Same. -/
import Derived.Test.YtkbfljacjfaamadFrL
namespace Go.Proofs.Ytkbfljacjfaamad
open Go.RowKit

/-- what holds in a round of the document's Feed -/
structure Gx (w wr : World) (l : List Nat) (k : Nat) (F : List Fr) (n : Nat) (fo : Value) : Prop where
  own : FO wr w.heap.size fo F
  bel : Below w.heap.size w wr
  eq : FC.fd l = (F ++ (FC.fd (l.drop k)).1, n + (FC.fd (l.drop k)).2.1, (FC.fd (l.drop k)).2.2)
  cnt : F.length * 10 + n = k
section
variable {w wr W : World} {l : List Nat} {k : Nat} {F : List Fr} {n : Nat} {fo : Value}
theorem Gx.next (h : Gx w wr l k F n fo) (hb : Below wr.heap.size wr W) : Gx w W l k F n fo := ⟨h.own.below' hb, below_class h.bel hb, h.eq, h.cnt⟩
theorem Gx.alloc (h : Gx w wr l k F n fo) (o : Obj) : Gx w (wr.alloc o) l k F n fo := h.next ((Below.refl _ _).alloc (Nat.le_refl _) o)
theorem Gx.yes (h : Gx w wr l k F n fo) (h10 : k + 10 ≤ l.length) {d : Fr} (D : Dc (l.drop k) d 0) {fo' : Value} (hf : FO W w.heap.size fo' (F ++ [d])) (hg : wr.grownBy W fo.ownBlock) : Gx w W l (k + 10) (F ++ [d]) n fo' := by
  refine ⟨hf, h.bel.grown hg h.bel.size (fun k hk => (h.own.lt k hk).1), ?_, ?_⟩
  · rw [h.eq, FC.fd_yes (by rw [List.length_drop]; omega) D.de, D.df, List.drop_drop]
    simp
  · have := h.cnt
    simp only [List.length_append, List.length_cons, List.length_nil]
    omega
theorem Gx.no (h : Gx w wr l k F n fo) (h10 : k + 10 ≤ l.length) {d : Fr} {q : Nat} (D : Dc (l.drop k) d q) (hq : q ≠ 0) : Gx w wr l (k + 1) F (n + 1) fo := by
  refine ⟨h.own, h.bel, ?_, ?_⟩
  · rw [h.eq, FC.fd_no (by rw [List.length_drop]; omega) (by rw [D.de]; exact hq), List.drop_drop]
    simp only [Prod.mk.injEq, true_and, and_true]
    omega
  · have := h.cnt
    omega
end
/-- ten bytes out of a row -/
theorem RD.mid {W : World} {g o n cap : Nat} {l : List Nat} (h : RD W (.slice (some ⟨g, o, none⟩) n cap) l) (k c : Nat) (hk : k + 10 ≤ l.length) (hc : c = cap - k) : RD W (.slice (some ⟨g, o + k, none⟩) 10 c) ((l.drop k).take 10) := by
  subst hc
  have h1 := h.drop (a' := some ⟨g, o + k, none⟩) k (by omega) (fun g' o' e _ => by cases e; rfl) (fun e => by cases e)
  exact h1.take 10 (by rw [List.length_drop]; omega)
theorem rdec10 {W : World} {v : Value} {l : List Nat} {d : Fr} {q : Nat} (h : RD W v (l.take 10)) (D : Dc l d q) :
    Calls Try.prog 27 #[v] W fun e w' => e = .returned (.tuple #[.agg #[.int .i64 d.ki, .int .i64 d.ca, .int .i64 d.sq, .int .i64 d.a, .int .i64 d.b, .int .i64 d.c], .int .i64 (q : Nat)]) ∧ Below W.heap.size W w' := by
  have := rdecode_any _ (l.take 10) W h
  rwa [D.df, D.de] at this

set_option maxHeartbeats 4000000 in
theorem rfeed_any (v : Value) (l : List Nat) (w : World) (hv : RD w v l) (hl : l.length ≤ 1000) :
    Calls Try.prog 35 #[v] w fun e w' => ∃ fo v', e = .returned (.tuple #[fo, .int .i64 ((FC.fd l).2.1 : Nat), v']) ∧ FO w' w.heap.size fo (FC.fd l).1 ∧ RD w' v' (FC.fd l).2.2 ∧ (∀ g, v'.ownBlock = some g → v.ownBlock = some g) ∧ Below w.heap.size w w' := by
  have HV := Hid.intro' hv
  obtain ⟨a, cap, rfl, hc, hm, ha⟩ := hv.form
  have HM := Hid.intro' hm
  have HHA := Hid.intro' ha
  clear hv hm ha
  have HG0 : Hid (Gx w (w.alloc (.cells #[] 55)) l 0 [] 0 (.slice (some ⟨w.heap.size, 0, none⟩) 0 0)) := by
    refine ⟨?_, (Below.refl _ w).alloc (Nat.le_refl _) _, by simp, by simp⟩
    exact World.ownsRow_made (e := 55) (size := 6) w #[] 0 (Nat.le_refl _) (Nat.zero_le _) (by simp)
  go_enter Try.func35, Try.ntmps35
  go_wp2
  go_loopw [5, 6, 7, 8, 9] (fun fo p i _ _ wr => ∃ (k : Nat) (F : List Fr) (n : Nat), k ≤ l.length ∧ i = .int .i64 (k : Int) ∧ p = .int .i64 (n : Int) ∧ Hid (Gx w wr l k F n fo)) (fun _ _ i _ _ _ => l.length - (intOf i).toNat)
  case atStart => exact ⟨0, [], 0, Nat.zero_le _, rfl, rfl, HG0⟩
  case round =>
    obtain ⟨k, F, n, hk, rfl, rfl, HG⟩ := hrel
    have hnk : n ≤ k := by have := HG.out.cnt; omega
    have hnz : (n : Int) ≤ 1000 := by omega
    have hkz : (k : Int) ≤ 1000 := by omega
    by_cases h10 : k + 10 ≤ l.length
    · have hz : (10 : Int) ≤ (l.length : Int) - (k : Int) := by omega
      have hz1 : (k : Int) + 10 ≤ (cap : Int) := by omega
      rcases HHA.out with hn | ⟨g, o, rfl, hg⟩
      · exfalso; rw [hn] at h10; simp at h10
      obtain ⟨d, q, HD⟩ : ∃ d q, Dc (l.drop k) d q := ⟨_, _, rfl, rfl⟩
      go_wp2_with fail
      refine (rdec10 ((HV.out.below' HG.out.bel).mid k _ h10 rfl) HD).mono ?_
      rintro e W2 ⟨rfl, hb2⟩
      have HG2 := Hid.intro' ((HG.out.next hb2).alloc (.cells #[.int .i64 d.ki, .int .i64 d.ca, .int .i64 d.sq, .int .i64 d.a, .int .i64 d.b, .int .i64 d.c] 55))
      have HV2 := Hid.intro' (FB.new W2 d)
      clear hb2 HG
      rcases Nat.eq_zero_or_pos q with hq | hq
      · subst hq
        have HN2 : Hid (FB ((W2.alloc (.cells #[.int .i64 d.ki, .int .i64 d.ca, .int .i64 d.sq, .int .i64 d.a, .int .i64 d.b, .int .i64 d.c] 55)).alloc (.cells #[.int .i64 d.ki, .int .i64 d.ca, .int .i64 d.sq, .int .i64 d.a, .int .i64 d.b, .int .i64 d.c] 55)) (W2.heap.size + 1) d) := by
          have := FB.new (W2.alloc (.cells #[.int .i64 d.ki, .int .i64 d.ca, .int .i64 d.sq, .int .i64 d.a, .int .i64 d.b, .int .i64 d.c] 55)) d
          rw [World.size_alloc] at this
          exact this
        go_wp2_with (first | (refine wpList_loadF rfl _ rfl W2.heap.size rfl HV2.out ?_) | (at_builtin; refine wpList_appendF1 rfl _ _ rfl w.heap.size _ F rfl (HG2.out.alloc _).own _ _ d rfl HN2.out ?qc1 ?qc2 ?_))
        case qc1 => have := HG2.out.cnt; omega
        case qc2 => exact (HG2.out.alloc _).bel.size
        intro fo' W4 hf4 hg4 hl4
        have HF4 := Hid.intro' hf4
        have HG4 := Hid.intro' hg4
        clear hf4 hg4 hl4
        go_wp2
        go_roundw
        case rel => exact ⟨k + 10, F ++ [d], n, by omega, by go_num, rfl, (HG2.out.alloc _).yes h10 HD HF4.out HG4.out⟩
        case measure => simp [intOf]; omega
      · have hqz : ((q : Int) == 0) = false := by simp; omega
        go_wp2
        go_roundw
        case rel => exact ⟨k + 1, F, n + 1, by omega, by go_num, by go_num, HG2.out.no h10 HD (by omega)⟩
        case measure => simp [intOf]; omega
    · have hz : ¬ (10 : Int) ≤ (l.length : Int) - (k : Int) := by omega
      have hz1 : (k : Int) ≤ (l.length : Int) := by omega
      have hz2 : (l.length : Int) ≤ (cap : Int) := by omega
      have HFD : Hid (FC.fd l = (F, n, l.drop k)) := by
        have := HG.out.eq
        rw [FC.fd_few (l := l.drop k) (by rw [List.length_drop]; omega)] at this
        show FC.fd l = _
        simpa using this
      cases a with
      | none =>
        obtain ⟨h0, rfl, rfl⟩ := HV.out.nilv
        obtain rfl : k = 0 := by simpa using hk
        go_wp2_with fail
        go_quiet (fail)
        go_wp2
        go_ret3
        rw [HFD.out]
        exact ⟨u5, .slice none 0 0, rfl, HG.out.own.below' (below_drewN (Below.refl _ _) nq), RD.nil _, fun g hg => hg, below_class HG.out.bel (below_drewN (Below.refl _ _) nq)⟩
      | some ad =>
        obtain ⟨g, o, sp⟩ := ad
        go_wp2_with fail
        go_quiet (fail)
        have hb := below_drewN (Below.refl wr.heap.size wr) nq
        have hr := ((HV.out.below' HG.out.bel).below' hb).drop (a' := if cap = k then some ⟨g, o, sp⟩ else some ((⟨g, o, sp⟩ : Addr).add k)) k hk (fun g' o' e hlt => by cases e; rw [if_neg (by omega), Addr.add_mid]) (fun e => by split at e <;> cases e)
        have ho : ∀ g', (Value.slice (if cap = k then some ⟨g, o, sp⟩ else some ((⟨g, o, sp⟩ : Addr).add k)) (l.length - k) (cap - k)).ownBlock = some g' → g = g' := fun g' hg => by
          split at hg
          · simpa [Value.ownBlock] using hg
          · simp [Value.ownBlock, Addr.add] at hg
            split at hg <;> exact hg
        have HR := Hid.intro' hr
        have HO := Hid.intro' ho
        have HB := Hid.intro' hb
        clear hr ho hb
        generalize (if cap = k then some (⟨g, o, sp⟩ : Addr) else some ((⟨g, o, sp⟩ : Addr).add k)) = a' at HR HO ⊢
        go_wp2
        go_ret3
        rw [HFD.out]
        exact ⟨u5, _, rfl, HG.out.own.below' HB.out, HR.out, fun g' hg => by rw [← HO.out g' hg]; rfl, below_class HG.out.bel HB.out⟩

theorem RF.cells6 {W : World} {g o : Nat} {y : Fr} (h : W.rangeAt g o (fv y)) : W.cell? ⟨g, o, none⟩ = some (.int .i64 y.ki) ∧ W.cell? ⟨g, o + 1, none⟩ = some (.int .i64 y.ca) ∧ W.cell? ⟨g, o + 2, none⟩ = some (.int .i64 y.sq) ∧ W.cell? ⟨g, o + 3, none⟩ = some (.int .i64 y.a) ∧ W.cell? ⟨g, o + 4, none⟩ = some (.int .i64 y.b) ∧ W.cell? ⟨g, o + 5, none⟩ = some (.int .i64 y.c) :=
  ⟨h 0 _ rfl, h 1 _ rfl, h 2 _ rfl, h 3 _ rfl, h 4 _ rfl, h 5 _ rfl⟩

set_option maxHeartbeats 2000000 in
theorem sames_any (u v : Value) (L : List Fr) (w : World) (hu : RF w u L) (hv : RF w v L) (hl : L.length ≤ 1000) :
    Calls Try.prog 36 #[u, v] w fun e w' => e = .returned (.bool true) ∧ Below w.heap.size w w' := by
  have HU := Hid.intro' hu
  have HV := Hid.intro' hv
  obtain ⟨a, ca, rfl, hca⟩ := hu.form
  obtain ⟨b, cb, rfl, hcb⟩ := hv.form
  clear hu hv
  go_enter Try.func36, Try.ntmps36
  go_wp2
  go_loopw [5] (fun i wr => ∃ k : Nat, k ≤ L.length ∧ i = .int .i64 (k : Int) ∧ Hid (Below w.heap.size w wr)) (fun i _ => L.length - (intOf i).toNat)
  case atStart => exact ⟨0, Nat.zero_le _, rfl, Below.refl _ _⟩
  case round =>
    obtain ⟨k, hk, rfl, HB⟩ := hrel
    by_cases hlt : k < L.length
    · have hkz : (k : Int) < (L.length : Int) := by omega
      have hy : L[k]? = some L[k] := List.getElem?_eq_getElem hlt
      obtain ⟨g, o, rfl, _, hr⟩ := (HU.out.below' HB.out).at hy
      obtain ⟨g', o', rfl, _, hr'⟩ := (HV.out.below' HB.out).at hy
      generalize L[k] = y at hr hr'
      obtain ⟨c0, c1, c2, c3, c4, c5⟩ := RF.cells6 hr
      obtain ⟨d0, d1, d2, d3, d4, d5⟩ := RF.cells6 hr'
      have hq : ∀ W, (Op.equalIn 10000 55 (.agg #[.int .i64 y.ki, .int .i64 y.ca, .int .i64 y.sq, .int .i64 y.a, .int .i64 y.b, .int .i64 y.c]) (.agg #[.int .i64 y.ki, .int .i64 y.ca, .int .i64 y.sq, .int .i64 y.a, .int .i64 y.b, .int .i64 y.c])).run Try.prog W = .ok true W := fun W => by rw [eqF W y y, smF_refl]
      clear hy hr hr'
      go_wp2_with fail
      go_quiet (fail)
      have HB2 := Hid.intro' (below_class HB.out (below_drewN (Below.refl wr.heap.size wr) nq))
      go_wp2
      go_roundw
      case rel => exact ⟨k + 1, by omega, by go_num, HB2⟩
      case measure => simp [intOf]; omega
    · have hkz : ¬ (k : Int) < (L.length : Int) := by omega
      go_wp2
      go_ret
      exact ⟨rfl, HB.out⟩

end Go.Proofs.Ytkbfljacjfaamad
