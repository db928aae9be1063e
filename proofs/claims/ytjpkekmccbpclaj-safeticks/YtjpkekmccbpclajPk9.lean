/- Several texts in one, each with its own head. -/
import Derived.Test.YtjpkekmccbpclajPk8
import Derived.Test.YtjpkekmccbpclajPk5
/- Calls that are handed in. -/
namespace Go.Proofs.Ytjpkekmccbpclaj
open Go.ChangeShapes Go.WideShapes Go.ChangeAt Go.RowKit

theorem Try.cells4u : Try.prog.cellsOf 4 = 1 := by kernel_rfl
theorem Try.cellsCu : Try.prog.cellsOf 43 = 4 := by kernel_rfl
section
variable {H : Type} {enc : TypeId × Value → H} {w : World} {base : Nat} {spare : Nat → Bool} {held : Bool}
theorem bool_at {n k o : Nat} {cs : List Value} {y : DataW H × List MemPlace} (h : DataW.trod enc Try.prog w base spare held n k ((cs.drop o).take (Try.prog.cellsOf k)) = some y) (hk : k = 4) : ∃ b : Bool, cs[o]? = some (.bool b) := by
  subst hk
  rw [Try.cells4u] at h
  obtain ⟨b, e, _⟩ := DataW.trod_bool Try.underlying4 h
  exact ⟨b, take_one e⟩
theorem calls_read {n : Nat} {cs : List Value} {x : DataW H × List MemPlace} (h : DataW.trod enc Try.prog w base spare held n 25 cs = some x) : ∃ v L, cs = [v] ∧ RC (fun _ => True) w v L := by
  have key : ∀ n es y, DataW.trod enc Try.prog w base spare held n 43 es = some y → ∃ c : Ca, ∀ (j : Nat) v, (cav c)[j]? = some v → es[j]? = some v := fun n es y ht => by
    obtain ⟨m, _, key⟩ := trod_field Try.underlying43 ht
    obtain ⟨_, k0⟩ := key 0 _ rfl
    obtain ⟨_, k1⟩ := key 1 _ rfl
    obtain ⟨_, k2⟩ := key 2 _ rfl
    obtain ⟨_, k3⟩ := key 3 _ rfl
    obtain ⟨z0, e0⟩ := int_at k0 rfl
    obtain ⟨z1, e1⟩ := int_at k1 rfl
    obtain ⟨z2, e2⟩ := int_at k2 rfl
    obtain ⟨z3, e3⟩ := bool_at k3 rfl
    refine ⟨⟨z0, z1, z2, z3⟩, fun j v hv => ?_⟩
    match j, hv with
    | 0, hv => cases hv; exact e0
    | 1, hv => cases hv; exact e1
    | 2, hv => cases hv; exact e2
    | 3, hv => cases hv; exact e3
    | j + 4, hv => simp [cav] at hv
  obtain ⟨a, cap, L, rfl, h1, h2, h3⟩ := slice_read Try.underlying25 Try.cellsCu h (α := Ca) (fun g o z => w.rangeAt g o (cav z))
    (fun n es y g o ht hc => by
      obtain ⟨c, hcv⟩ := key n es y ht
      exact ⟨c, fun j v hv => hc j v (hcv j v hv)⟩)
    (fun n es y ht => by
      obtain ⟨c, hcv⟩ := key n es y ht
      exact ⟨_, hcv 0 _ rfl⟩)
  refine ⟨_, L, rfl, a, cap, rfl, h1, ?_⟩
  rcases h3 with h3 | ⟨g, o, rfl, hg, h3⟩
  · exact .inl h3
  · exact .inr ⟨g, o, rfl, trivial, hg, fun i z hz => h3 i z hz⟩
set_option maxRecDepth 100000 in
theorem calls_open {r : Reach} {b0 : Nat} {v : Value} {d : DataW H} {p : List MemPlace} (hv : Value.okWide Try.prog w r b0 25 v) (h : DataW.Trod enc Try.prog w base spare held 25 v d p) : ∃ L, RC (fun _ => True) w v L := by
  obtain ⟨a, len, cap, rfl⟩ := okWide_slice Try.underlying25 hv
  obtain ⟨fuel, hf⟩ := h
  obtain ⟨v, L, e, hr⟩ := calls_read hf
  simp [Value.cells] at e
  exact ⟨L, by rw [e]; exact hr⟩
end

end Go.Proofs.Ytjpkekmccbpclaj

/- Cars and commands that are handed in. -/
namespace Go.Proofs.Ytjpkekmccbpclaj
open Go.ChangeShapes Go.WideShapes Go.ChangeAt Go.RowKit

theorem Try.cellsCo : Try.prog.cellsOf 36 = 8 := by kernel_rfl
section
variable {H : Type} {enc : TypeId × Value → H} {w : World} {base : Nat} {spare : Nat → Bool} {held : Bool}
theorem cars_read {n : Nat} {cs : List Value} {x : DataW H × List MemPlace} (h : DataW.trod enc Try.prog w base spare held n 24 cs = some x) : ∃ v L, cs = [v] ∧ RK (fun _ => True) w v L := by
  have key : ∀ n es y, DataW.trod enc Try.prog w base spare held n 36 es = some y → ∃ c : Cr, ∀ (j : Nat) v, (ckv c)[j]? = some v → es[j]? = some v := fun n es y ht => by
    obtain ⟨m, _, key⟩ := trod_field Try.underlying36 ht
    obtain ⟨_, k0⟩ := key 0 _ rfl
    obtain ⟨_, k1⟩ := key 1 _ rfl
    obtain ⟨_, k2⟩ := key 2 _ rfl
    obtain ⟨_, k3⟩ := key 3 _ rfl
    obtain ⟨_, k4⟩ := key 4 _ rfl
    obtain ⟨z0, e0⟩ := int_at k0 rfl
    obtain ⟨z1, e1⟩ := int_at k1 rfl
    obtain ⟨z2, e2⟩ := int_at k2 rfl
    obtain ⟨z7, e7⟩ := bool_at k4 rfl
    obtain ⟨_, _, kd⟩ := trod_field Try.underlying34 k3
    obtain ⟨_, d0⟩ := kd 0 _ rfl
    obtain ⟨_, d1⟩ := kd 1 _ rfl
    obtain ⟨_, d2⟩ := kd 2 _ rfl
    obtain ⟨_, d3⟩ := kd 3 _ rfl
    obtain ⟨z3, e3⟩ := int_at d0 rfl
    obtain ⟨z4, e4⟩ := int_at d1 rfl
    obtain ⟨z5, e5⟩ := int_at d2 rfl
    obtain ⟨z6, e6⟩ := bool_at d3 rfl
    refine ⟨⟨z0, z1, z2, ⟨z3, z4, z5, z6⟩, z7⟩, fun j v hv => ?_⟩
    match j, hv with
    | 0, hv => cases hv; exact e0
    | 1, hv => cases hv; exact e1
    | 2, hv => cases hv; exact e2
    | 3, hv => cases hv; exact take_in e3
    | 4, hv => cases hv; exact take_in e4
    | 5, hv => cases hv; exact take_in e5
    | 6, hv => cases hv; exact take_in e6
    | 7, hv => cases hv; exact e7
    | j + 8, hv => simp [ckv] at hv
  obtain ⟨a, cap, L, rfl, h1, h2, h3⟩ := slice_read Try.underlying24 Try.cellsCo h (α := Cr) (fun g o z => w.rangeAt g o (ckv z))
    (fun n es y g o ht hc => by
      obtain ⟨c, hcv⟩ := key n es y ht
      exact ⟨c, fun j v hv => hc j v (hcv j v hv)⟩)
    (fun n es y ht => by
      obtain ⟨c, hcv⟩ := key n es y ht
      exact ⟨_, hcv 0 _ rfl⟩)
  refine ⟨_, L, rfl, a, cap, rfl, h1, ?_⟩
  rcases h3 with h3 | ⟨g, o, rfl, hg, h3⟩
  · exact .inl h3
  · exact .inr ⟨g, o, rfl, trivial, hg, fun i z hz => h3 i z hz⟩
set_option maxRecDepth 100000 in
theorem cars_open {r : Reach} {b0 : Nat} {v : Value} {d : DataW H} {p : List MemPlace} (hv : Value.okWide Try.prog w r b0 24 v) (h : DataW.Trod enc Try.prog w base spare held 24 v d p) : ∃ L, RK (fun _ => True) w v L := by
  obtain ⟨a, len, cap, rfl⟩ := okWide_slice Try.underlying24 hv
  obtain ⟨fuel, hf⟩ := h
  obtain ⟨v, L, e, hr⟩ := cars_read hf
  simp [Value.cells] at e
  exact ⟨L, by rw [e]; exact hr⟩
theorem Try.cellsMo : Try.prog.cellsOf 40 = 2 := by kernel_rfl
theorem cmds_read {n : Nat} {cs : List Value} {x : DataW H × List MemPlace} (h : DataW.trod enc Try.prog w base spare held n 31 cs = some x) : ∃ v L, cs = [v] ∧ RD (fun _ => True) w v L := by
  have key : ∀ n es y, DataW.trod enc Try.prog w base spare held n 40 es = some y → ∃ c : Bool × Int, ∀ (j : Nat) v, (dcv c)[j]? = some v → es[j]? = some v := fun n es y ht => by
    obtain ⟨m, _, key⟩ := trod_field Try.underlying40 ht
    obtain ⟨_, k0⟩ := key 0 _ rfl
    obtain ⟨_, k1⟩ := key 1 _ rfl
    obtain ⟨z0, e0⟩ := bool_at k0 rfl
    obtain ⟨z1, e1⟩ := int_at k1 rfl
    refine ⟨(z0, z1), fun j v hv => ?_⟩
    match j, hv with
    | 0, hv => cases hv; exact e0
    | 1, hv => cases hv; exact e1
    | j + 2, hv => simp [dcv] at hv
  obtain ⟨a, cap, L, rfl, h1, h2, h3⟩ := slice_read Try.underlying31 Try.cellsMo h (α := Bool × Int) (fun g o z => w.rangeAt g o (dcv z))
    (fun n es y g o ht hc => by
      obtain ⟨c, hcv⟩ := key n es y ht
      exact ⟨c, fun j v hv => hc j v (hcv j v hv)⟩)
    (fun n es y ht => by
      obtain ⟨c, hcv⟩ := key n es y ht
      exact ⟨_, hcv 0 _ rfl⟩)
  refine ⟨_, L, rfl, a, cap, rfl, h1, ?_⟩
  rcases h3 with h3 | ⟨g, o, rfl, hg, h3⟩
  · exact .inl h3
  · exact .inr ⟨g, o, rfl, trivial, hg, fun i z hz => h3 i z hz⟩
set_option maxRecDepth 100000 in
theorem cmds_open {r : Reach} {b0 : Nat} {v : Value} {d : DataW H} {p : List MemPlace} (hv : Value.okWide Try.prog w r b0 31 v) (h : DataW.Trod enc Try.prog w base spare held 31 v d p) : ∃ L, RD (fun _ => True) w v L := by
  obtain ⟨a, len, cap, rfl⟩ := okWide_slice Try.underlying31 hv
  obtain ⟨fuel, hf⟩ := h
  obtain ⟨v, L, e, hr⟩ := cmds_read hf
  simp [Value.cells] at e
  exact ⟨L, by rw [e]; exact hr⟩
end

end Go.Proofs.Ytjpkekmccbpclaj
