/- What a plan on its way is asked, and what is done to it. -/
import Derived.Test.YtjpkekmccbpclajPlD
import Derived.Deep.RegionLaw
namespace Go.Proofs.Ytjpkekmccbpclaj
open Go.RowKit

theorem bt_bits (m c : Nat) : (bits .and .i64 ((m : Int) / 2 ^ c) 1 == 1) = PM.bt m c := by
  have h : (m : Int) / 2 ^ c = ((m / 2 ^ c : Nat) : Int) := by rw [Int.natCast_ediv, Int.natCast_pow]; rfl
  rw [h, i64_and1]
  unfold PM.bt
  rw [Bool.eq_iff_iff]
  simp only [beq_iff_eq]
  omega
/-- append of one number, at a step of a region that draws -/
theorem step_appendI {ops : Array Oper} {o : Oper} {a : Act} {W : World} {K : Act → World → Prop} {Q : Exit → Act → World → Prop} {E : Prop} (hgd : o.guard = none) (s x : Operand)
    (ho : o.op = .call { callee := .builtin .append, args := #[s, x], argTypes := #[28, 28] }) (B : Nat) {v : Value} {M : List Int} {y : Int} {b c : Nat} (hs : a.eval s = v) (hR : OI W B v M) (hM : M.length ≤ 1000000)
    (hx : a.eval x = .slice (some ⟨b, 0, none⟩) 1 c) (hy : W.cell? ⟨b, 0, none⟩ = some (.int .i64 y)) (hB : B ≤ W.heap.size)
    (h : ∀ g cap W', OI W' B (.slice (some ⟨g, 0, none⟩) (M.length + 1) cap) (M ++ [y]) → W.grownBy W' v.ownBlock → (v.ownBlock = some g ∨ g = W.heap.size) → K (a.put o.dst (.slice (some ⟨g, 0, none⟩) (M.length + 1) cap)) W') :
    if Region.wanted o (yielded ops a.tmps) = true then Oper.wp Try.prog o a W K Q else E := by
  obtain ⟨i0, hi, hz0, hz1, hz2⟩ := info_parts infoI
  refine step_append_lies W hgd s x 28 ho B 3 i0 _ 1 8 Try.underlying28 hi hz0 hz1 hz2 rfl (by decide) v M.length (ic M) hs hR ⟨b, 0, none⟩ 1 c (ic [y]) hx rfl ?_ (ic_one [y]) (by omega) (by unfold maxLen; omega) (by omega) hB W.heap.size rfl ?_
  · intro j u hj
    cases j with
    | zero =>
      simp [ic] at hj
      subst hj
      rw [Addr.add_mid]; exact hy
    | succ j => simp [ic] at hj
  · intro g cap W' hown hg hat _
    refine h g cap W' ?_ hg hat
    unfold OI
    rw [List.length_append, ic_append]
    exact hown

section
variable {W : World} {B b sb lb : Nat} {vw : Value} {vs : List Value} {G : Nat → Prop} {ws : List (Int × Int)} {st : List Bool} {ls : List (List Int)}
end
end Go.Proofs.Ytjpkekmccbpclaj
