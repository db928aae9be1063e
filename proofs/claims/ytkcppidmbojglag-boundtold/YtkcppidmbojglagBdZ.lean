/- A beginning that is made want by want: what holds of it. -/
import Derived.Test.YtkcppidmbojglagBdX
namespace Go.Proofs.Ytkcppidmbojglag
open Go.RowKit

/-- what holds of a beginning on its way -/
structure Bok (s : Sn) (z : Bz) : Prop where
  el : z.es.length = s.cs.length
  sl : z.st.length = s.ws.length
  ok : ∀ a ∈ z.es, RM.Ok s.st a ∧ a.le ≤ 1000000 + 68002 * ((s.ws.length : Int) - PM.lf z.st)
  c0 : 0 ≤ z.co
  c1 : z.co ≤ 10000000 * ((s.ws.length : Int) - PM.lf z.st)
theorem lf_le (st : List Bool) : PM.lf st ≤ st.length := List.count_le_length
theorem Bok.zero {s : Sn} (hr : rgt s = true) : Bok s (bz0 s) := by
  have hml : (msk s).length = s.ws.length := by unfold msk; rw [List.length_map]
  have hz := rgt_rz hr
  have ha := rgt_after hr
  have hl : PM.lf (List.replicate (msk s).length false) = s.ws.length := by unfold PM.lf; rw [List.count_replicate, hml]; simp
  refine ⟨by unfold bz0; rw [List.length_map], by unfold bz0; rw [List.length_replicate, hml], fun a h => ?_, Int.le_refl _, ?_⟩
  · obtain ⟨r, hr1, rfl⟩ := List.mem_map.1 h
    refine ⟨hz.cr r hr1, ?_⟩
    have := ha r hr1
    show r.2 ≤ 1000000 + 68002 * ((s.ws.length : Int) - PM.lf (List.replicate (msk s).length false))
    rw [hl]; omega
  · show 0 ≤ 10000000 * ((s.ws.length : Int) - PM.lf (List.replicate (msk s).length false))
    rw [hl]; omega
section
variable {s : Sn} {k c : Nat} {z : Bz} {x : Int}
/-- what is known of a right snapshot's want -/
theorem lfm_some {y : Int × Int} (h : lfm s z.st x = some y) : 0 ≤ x ∧ z.st[x.toNat]? = some false ∧ s.ws[x.toNat]? = some y := by
  unfold lfm at h
  split at h
  · rename_i g; exact ⟨g.1, g.2, h⟩
  · cases h
theorem bstep_no (ok : Bok s z) (hn : ∀ y, lfm s z.st x = some y → PM.bt y.2.toNat c = false) : bstep s k z ((c : Int), x) = none := by
  unfold bstep
  split
  · rfl
  · rw [if_neg]
    rintro ⟨_, h2, h3⟩
    rw [Int.toNat_natCast] at h2
    obtain ⟨g1, g2, g3⟩ := PM.okx_iff.1 h2
    have hml : (msk s).length = s.ws.length := by unfold msk; rw [List.length_map]
    obtain ⟨y, hy⟩ : ∃ y, s.ws[x.toNat]? = some y := ⟨_, List.getElem?_eq_getElem (by have h3 : z.st[x.toNat]? = some false := h3; have := (List.getElem?_eq_some_iff.1 h3).1; have := ok.sl; omega)⟩
    have h4 := hn y (by unfold lfm; rw [if_pos ⟨g1, h3⟩, hy])
    have e : (msk s)[x.toNat]? = some y.2.toNat := by unfold msk; rw [List.getElem?_map, hy]; rfl
    rw [e, Option.getD_some, h4] at g3
    cases g3
theorem bstep_yes {a : RM.Sp} {y : Int × Int} (hc : c ≤ k) (ha : z.es[c]? = some a) (hy : lfm s z.st x = some y) (hb : PM.bt y.2.toNat c = true) :
    bstep s k z ((c : Int), x) = some ⟨z.es.set c (RM.nx s.st a y.1), z.st.set x.toNat true, z.co + RM.ar s.st a y.1⟩ := by
  obtain ⟨h1, h2, h3⟩ := lfm_some hy
  obtain ⟨i, rfl⟩ : ∃ i : Nat, x = (i : Int) := ⟨x.toNat, by omega⟩
  rw [Int.toNat_natCast] at h2 h3
  have hml : (msk s).length = s.ws.length := by unfold msk; rw [List.length_map]
  have e : (msk s)[i]? = some y.2.toNat := by unfold msk; rw [List.getElem?_map, h3]; rfl
  have ew : RM.wf s.ws (i : Int) = y.1 := RM.wf_get h3
  unfold bstep
  simp only [Int.toNat_natCast, ha]
  rw [if_pos ⟨by omega, PM.okx_iff.2 ⟨h1, by have := (List.getElem?_eq_some_iff.1 h3).1; omega, by rw [Int.toNat_natCast, e, Option.getD_some]; exact hb⟩, h2⟩, ew]
theorem lfm_set (hx : 0 ≤ x) (sl : z.st.length = s.ws.length) : (fun j => if j = x then none else lfm s z.st j) = lfm s (z.st.set x.toNat true) := by
  funext j
  unfold lfm
  by_cases e : j = x
  · rw [if_pos e, if_neg]
    rintro ⟨_, h⟩
    rw [e] at h
    by_cases hl : x.toNat < z.st.length
    · rw [List.getElem?_set_self hl] at h; cases h
    · rw [List.getElem?_eq_none (by rw [List.length_set]; omega)] at h; cases h
  · rw [if_neg e]
    by_cases h0 : 0 ≤ j
    · rw [List.getElem?_set_ne (by omega)]
    · rw [if_neg (fun g => h0 g.1), if_neg (fun g => h0 g.1)]
theorem Bok.step {a : RM.Sp} {y : Int × Int} (ok : Bok s z) (hz : RM.Rz s.st s.ws s.cs) (hw : s.ws.length ≤ 128) (ha : z.es[c]? = some a) (hy : lfm s z.st x = some y) : Bok s ⟨z.es.set c (RM.nx s.st a y.1), z.st.set x.toNat true, z.co + RM.ar s.st a y.1⟩ := by
  obtain ⟨h1, h2, h3⟩ := lfm_some hy
  have hlf := PM.lf_set h2
  have hle := lf_le z.st
  have hsl := ok.sl
  have oka := ok.ok a (List.mem_of_getElem? ha)
  have hyr := hz.wr y (List.mem_of_getElem? h3)
  have g1 := RM.ar_nn hz.rt oka.1 y.1
  have g2 := RM.ar_le hz.rt oka.1 y.1
  have g3 := RM.dw_bd hz.rt
  have g4 := ok.c0
  have g5 := ok.c1
  refine ⟨by rw [List.length_set]; exact ok.el, by rw [List.length_set]; exact ok.sl, fun b hb => ?_, by show 0 ≤ z.co + _; omega, ?_⟩
  · rcases List.mem_or_eq_of_mem_set hb with h | h
    · have := ok.ok b h
      refine ⟨this.1, ?_⟩
      show b.le ≤ 1000000 + 68002 * ((s.ws.length : Int) - PM.lf (z.st.set x.toNat true))
      omega
    · rw [h]
      refine ⟨RM.nx_ok hz.rt oka.1 hyr.1 hyr.2, ?_⟩
      rw [RM.nx_eq oka.1]
      show RM.ar s.st a y.1 + RM.dw s.st ≤ 1000000 + 68002 * ((s.ws.length : Int) - PM.lf (z.st.set x.toNat true))
      omega
  · show z.co + RM.ar s.st a y.1 ≤ 10000000 * ((s.ws.length : Int) - PM.lf (z.st.set x.toNat true))
    have := oka.2
    omega
end

end Go.Proofs.Ytkcppidmbojglag
