/- The library's functions on rows of calls: what each answers. -/
import Derived.Test.YtiihnjfknohhbadCallC
import Derived.Shelf.Abstract
namespace Go.Proofs.Ytiihnjfknohhbad
open Go.RowKit

/-- what a predicate that is handed to the library does: it answers, and memory only grows -/
def Pr (g : Nat) (rb lb : Array Value) (p : Cl → Bool) (w : World) : Prop :=
  ∀ (W : World) (x : Cl), Below w.heap.size w W → Calls Try.prog g (rb ++ #[.agg #[.int .i64 x.fl, .int .i64 x.ca, .int .i64 x.ag, .bool x.up]] ++ lb) W fun e w' => e = .returned (.bool (p x)) ∧ Below W.heap.size W w'

/-- the first place at which a predicate holds, or -1 -/
def Ix (p : Cl → Bool) (L : List Cl) (i : Int) : Prop :=
  (i = -1 ∧ ∀ (j : Nat) x, L[j]? = some x → p x = false) ∨ ∃ (k : Nat) (x : Cl), L[k]? = some x ∧ i = (k : Int) ∧ p x = true ∧ ∀ (j : Nat) y, j < k → L[j]? = some y → p y = false

set_option maxHeartbeats 1000000 in
theorem indexFunc_any (g : Nat) (rb lb : Array Value) (p : Cl → Bool) (eg : ∀ args w, (callFunc g args).run Try.prog w = .ok (.enter g args) w) (B : Nat) (v : Value) (L : List Cl) (w : World) (hR : RW w B v L) (hL : L.length ≤ 128) (hp : Pr g rb lb p w) :
    Calls Try.prog 34 #[v, .func (.func g) rb lb] w fun e w' => ∃ i : Int, e = .returned (.int .i64 i) ∧ Below w.heap.size w w' ∧ Ix p L i := by
  rcases hR.form with ⟨rfl, rfl⟩ | ⟨b, cap, rfl, hB, hlt, hcap⟩
  · go_enter Try.func34, Try.ntmps34
    go_wp2
    refine wp_loop_rounds 1 ?_
    rw [rounds_succ]
    go_wp2
    go_ret
    exact ⟨-1, rfl, Below.refl _ _, .inl ⟨rfl, fun j x h => by simp at h⟩⟩
  · generalize hn : L.length = n at hcap hL
    have HN : Hid (L.length = n) := hn
    have HR : Hid (RW w B (.slice (some ⟨b, 0, none⟩) L.length cap) L) := hR
    have HP : Hid (Pr g rb lb p w) := hp
    clear hn hR hp
    go_enter Try.func34, Try.ntmps34
    go_wp2
    go_loopw [5, 8] (fun _ i wr => ∃ k : Nat, k ≤ n ∧ i = .int .i64 k ∧ Below w.heap.size w wr ∧ Hid (∀ (j : Nat) y, j < k → L[j]? = some y → p y = false)) (fun _ i _ => n - (intOf i).toNat)
    case atStart => exact ⟨0, Nat.zero_le _, rfl, Below.refl _ _, fun j _ h => absurd h (by omega)⟩
    case round =>
      obtain ⟨k, hk, rfl, hbel, HNO⟩ := hrel
      by_cases hlt2 : k < n
      · have hkz : (k : Int) < (n : Int) := by omega
        have hkL : k < L.length := by have := HN.out; omega
        obtain ⟨y, hy, c0, c1, c2, c3⟩ := (HR.out.below' hbel).elem hkL
        have hc := HP.out wr y hbel
        have HBEL := Hid.intro' hbel
        have HY := Hid.intro' hy
        clear hkL hbel hy
        cases hq : p y with
        | true =>
          rw [hq] at hc
          go_wp2_with (go_at_fn g; refine hc.mono ?_; rintro e w' ⟨rfl, hb'⟩)
          go_ret
          exact ⟨k, rfl, below_class HBEL.out hb', .inr ⟨k, y, HY.out, rfl, hq, HNO.out⟩⟩
        | false =>
          rw [hq] at hc
          go_wp2_with (go_at_fn g; refine hc.mono ?_; rintro e w' ⟨rfl, hb'⟩)
          go_roundw
          case rel =>
            refine ⟨k + 1, by omega, by go_num, below_class HBEL.out hb', (show Hid _ from fun j z hj hz => ?_)⟩
            by_cases e : j = k
            · subst e
              rw [HY.out] at hz
              cases hz
              exact hq
            · exact HNO.out j z (by omega) hz
          case measure => simp [intOf]; omega
      · have hkn : k = n := by omega
        have HNO2 : Hid (∀ (j : Nat) y, j < n → L[j]? = some y → p y = false) := hkn ▸ HNO
        have hkz : ¬ (k : Int) < (n : Int) := by omega
        have HBEL := Hid.intro' hbel
        clear hkn HNO hbel
        go_wp2
        go_ret
        refine ⟨-1, rfl, HBEL.out, .inl ⟨rfl, fun j x hx => HNO2.out j x ?_ hx⟩⟩
        have := (List.getElem?_eq_some_iff.1 hx).1
        have := HN.out
        omega

/-- does a predicate hold of one of them? -/
theorem Ix.any {p : Cl → Bool} {L : List Cl} {i : Int} (h : Ix p L i) : decide (0 ≤ i) = L.any p := by
  rcases h with ⟨rfl, h⟩ | ⟨k, x, hx, rfl, hp, _⟩
  · have : L.any p = false := by
      rw [List.any_eq_false]
      intro x hx
      obtain ⟨j, hj⟩ := List.getElem?_of_mem hx
      rw [h j x hj]; simp
    rw [this]; rfl
  · have : L.any p = true := List.any_eq_true.2 ⟨x, List.mem_of_getElem? hx, hp⟩
    rw [this]; simp

set_option maxHeartbeats 400000 in
theorem containsFunc_any (g : Nat) (rb lb : Array Value) (p : Cl → Bool) (eg : ∀ args w, (callFunc g args).run Try.prog w = .ok (.enter g args) w) (B : Nat) (v : Value) (L : List Cl) (w : World) (hR : RW w B v L) (hL : L.length ≤ 128) (hp : Pr g rb lb p w) :
    Calls Try.prog 24 #[v, .func (.func g) rb lb] w fun e w' => e = .returned (.bool (L.any p)) ∧ Below w.heap.size w w' := by
  have HC := Hid.intro' (indexFunc_any g rb lb p eg B v L w hR hL hp)
  clear hR hL hp eg
  go_enter Try.func24, Try.ntmps24
  go_wp2_with fail
  refine HC.out.mono ?_
  rintro e w' ⟨i, rfl, hb, hi⟩
  have HI := Hid.intro' hi
  clear hi HC
  go_wp2
  go_ret
  exact ⟨ret_boo HI.out.any, hb⟩

end Go.Proofs.Ytiihnjfknohhbad
