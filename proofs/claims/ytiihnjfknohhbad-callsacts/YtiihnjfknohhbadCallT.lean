/- A book and a call in the midst of a law. -/
import Derived.Test.YtiihnjfknohhbadCallS
import Derived.Test.YtiihnjfknohhbadSiteQ
namespace Go.Proofs.Ytiihnjfknohhbad
open Go.RowKit

theorem rright_t (s : St) (r : SM.Rt s) (w : World) : Calls Try.prog 7 #[.agg (sv s).toArray] w fun e w' => e = .returned (.bool true) ∧ Below w.heap.size w w' := by
  have := rright_any s w; rwa [rightB_true r] at this
theorem rright_f (s : St) (r : ¬ SM.Rt s) (w : World) : Calls Try.prog 7 #[.agg (sv s).toArray] w fun e w' => e = .returned (.bool false) ∧ Below w.heap.size w w' := by
  have := rright_any s w; rwa [rightB_false r] at this

/-- a book that a law has made, and a call in a block of its own; all from the law's start on -/
structure Tw (w0 W : World) (b cb : Nat) (F C : Int) (v : Value) (s : Nat) (L : List Cl) (c : Cl) : Prop where
  bk : BK W w0.heap.size b F C v s L
  cl : CB W cb c
  bel : Below w0.heap.size w0 W
  lo : w0.heap.size ≤ cb
  ne : ¬ Fp b v cb
section
variable {w0 W W' : World} {b cb : Nat} {F C : Int} {v v' : Value} {s s' : Nat} {L L' : List Cl} {c : Cl}
theorem Tw.next (h : Tw w0 W b cb F C v s L c) (hb : Below W.heap.size W W') : Tw w0 W' b cb F C v s L c := ⟨h.bk.below' hb, h.cl.below' hb, below_class h.bel hb, h.lo, h.ne⟩
theorem Tw.upd (h : Tw w0 W b cb F C v s L c) (hk : BK W' w0.heap.size b F C v' s' L') (hn : Nx W v v') (kp : Kp (Fp b v) W W') : Tw w0 W' b cb F C v' s' L' c := by
  refine ⟨hk, h.cl.kp kp h.ne, kp.below h.bel h.bel.size (fun i hi hF => ?_), h.lo, ?_⟩
  · have := (h.bk.lo i hF).1
    omega
  · rintro (e | e)
    · exact h.ne (.inl e)
    · rcases hn cb e with e | e
      · exact h.ne (.inr e)
      · have := h.cl.lt
        omega
theorem Nx.same {w : World} {v v' : Value} (h : v'.ownBlock = v.ownBlock) : Nx w v v' := fun k hk => .inl (by rw [← h]; exact hk)
theorem Nx.refl (w : World) (v : Value) : Nx w v v := fun _ hk => .inl hk
end

theorem i64_and15 (a : Int) : ∃ t : Nat, t ≤ 15 ∧ bits BinOp.and IntKind.i64 a 15 = (t : Int) := by
  refine ⟨((BitVec.ofInt 64 a &&& 15#64).toNat), ?_, ?_⟩
  · rw [BitVec.toNat_and]
    exact Nat.and_le_right
  · show IntKind.i64.wrap ((BitVec.ofInt 64 a &&& BitVec.ofInt 64 (15 : Int)).toNat : Int) = _
    rw [IntKind.wrap_i64]
    have h : (BitVec.ofInt 64 a &&& 15#64).toNat ≤ 15 := by rw [BitVec.toNat_and]; exact Nat.and_le_right
    show _ = ((BitVec.ofInt 64 a &&& 15#64).toNat : Int)
    rw [show BitVec.ofInt 64 (15 : Int) = 15#64 from rfl]
    generalize (BitVec.ofInt 64 a &&& 15#64).toNat = m at h ⊢
    omega
theorem i64_and3 (a : Int) : ∃ t : Nat, t ≤ 3 ∧ bits BinOp.and IntKind.i64 a 3 = (t : Int) := by
  refine ⟨((BitVec.ofInt 64 a &&& 3#64).toNat), ?_, ?_⟩
  · rw [BitVec.toNat_and]
    exact Nat.and_le_right
  · show IntKind.i64.wrap ((BitVec.ofInt 64 a &&& BitVec.ofInt 64 (3 : Int)).toNat : Int) = _
    rw [IntKind.wrap_i64]
    have h : (BitVec.ofInt 64 a &&& 3#64).toNat ≤ 3 := by rw [BitVec.toNat_and]; exact Nat.and_le_right
    show _ = ((BitVec.ofInt 64 a &&& 3#64).toNat : Int)
    rw [show BitVec.ofInt 64 (3 : Int) = 3#64 from rfl]
    generalize (BitVec.ofInt 64 a &&& 3#64).toNat = m at h ⊢
    omega

end Go.Proofs.Ytiihnjfknohhbad
