/- A region whose last operation hangs on nothing, and nothing on it. No program is named here. -/
import Derived.Test.YtagmidolcdefiahPk6
namespace Go.Proofs.Ytagmidolcdefiah
open Go.RowKit
/-- nobody waits for number n, and nobody is guarded -/
def looseB (l : List Oper) (n : Nat) : Bool := l.all fun o => o.guard.isNone && o.after.all fun e => decide (e.on ≠ n)
section
variable {P : Program} {md : Region.Mode} {Q : Exit → Act → World → Prop} {l : List Oper} {o : Oper}
theorem ready_pop (hB : looseB l l.length = true) {ls : Array Bool} (hs : ls.size = l.length) : Region.ready md (l ++ [o]).toArray (ls.push true) = Region.ready md l.toArray ls := by
  unfold Region.ready
  have h1 : (l ++ [o]).toArray.size = l.toArray.size + 1 := by simp
  rw [h1, List.range_succ, List.filter_append]
  have h2 : ([l.toArray.size].filter fun i => !(ls.push true).getD i true && (((l ++ [o]).toArray[i]?).map (·.after.all fun e => !Region.binds md e || (ls.push true).getD e.on false)).getD false) = [] := by
    rw [List.filter_eq_nil_iff]
    intro i hi
    simp only [List.mem_singleton] at hi
    subst hi
    have : (ls.push true).getD l.toArray.size true = true := by
      simp [Array.getD, ← hs]
    rw [this]
    simp
  rw [h2, List.append_nil]
  refine List.filter_congr fun i hi => ?_
  have hi' : i < l.length := by simpa using List.mem_range.1 hi
  have e1 : (ls.push true).getD i true = ls.getD i true := by
    simp [Array.getD, hs, hi', Nat.lt_succ_of_lt hi', Array.getElem_push]
  have e2 : (l ++ [o]).toArray[i]? = l.toArray[i]? := by simp [List.getElem?_append_left hi']
  rw [e1, e2]
  congr 1
  cases hx : l.toArray[i]? with
  | none => rfl
  | some oi =>
    simp only [Option.map_some, Option.getD_some]
    have hmem : oi ∈ l := by
      have : l[i]? = some oi := by simpa using hx
      exact List.mem_of_getElem? this
    have hb := List.all_eq_true.1 hB oi hmem
    simp only [Bool.and_eq_true, Array.all_eq_true', decide_eq_true_eq] at hb
    apply Bool.eq_iff_iff.2
    simp only [Array.all_eq_true', Bool.or_eq_true, Bool.not_eq_true']
    have key : ∀ e ∈ oi.after, (ls.push true).getD e.on false = ls.getD e.on false := fun e he => by
      have hne := hb.2 e he
      by_cases hlt : e.on < l.length
      · simp [Array.getD, hs, hlt, Nat.lt_succ_of_lt hlt, Array.getElem_push]
      · have h3 : ¬ e.on < ls.size + 1 := by omega
        have h4 : ¬ e.on < ls.size := by omega
        simp [Array.getD, h3, h4]
    constructor
    · intro h e he
      rw [← key e he]; exact h e he
    · intro h e he
      rw [key e he]; exact h e he
theorem wpAny_pop (hB : looseB l l.length = true) : ∀ (fuel : Nat) (ls : Array Bool) (a : Act) (w : World), ls.size = l.length → wpAny P md l.toArray Q fuel ls a w → wpAny P md (l ++ [o]).toArray Q fuel (ls.push true) a w
  | 0, ls, a, w, hs, h => by
    unfold wpAny at h ⊢
    rw [ready_pop hB hs]
    exact h
  | fuel + 1, ls, a, w, hs, h => by
    unfold wpAny at h ⊢
    rw [ready_pop hB hs]
    refine ⟨h.1, fun i hi => ?_⟩
    have hlt : i < l.length := by
      unfold Region.ready at hi
      simpa using List.mem_range.1 (List.mem_filter.1 hi).1
    have hset : (ls.push true).setIfInBounds i true = (ls.setIfInBounds i true).push true := by
      apply Array.ext'
      simp [hs, hlt, List.set_append_left]
    have h2 := wpOp_mono (K' := wpAny P md (l ++ [o]).toArray Q fuel ((ls.setIfInBounds i true).push true)) (fun a w h => wpAny_pop hB fuel _ a w (by simpa using hs) h) (h.2 i hi)
    rw [hset]
    have hget : l.toArray[i]? = (l ++ [o]).toArray[i]? := by simp [List.getElem?_append_left hlt]
    unfold wpOp at h2 ⊢
    rw [← hget]
    obtain ⟨oi, hoi⟩ : ∃ oi, l.toArray[i]? = some oi := ⟨l[i], by simp [hlt]⟩
    rw [hoi] at h2 ⊢
    simp only at h2 ⊢
    have hg : oi.guard = none := by
      have hmem : oi ∈ l := List.mem_of_getElem? (show l[i]? = some oi by simpa using hoi)
      have hb := List.all_eq_true.1 hB oi hmem
      simp only [Bool.and_eq_true] at hb
      exact Option.isNone_iff_eq_none.1 hb.1
    have hw : ∀ y, Region.wanted oi y = true := fun y => by unfold Region.wanted; rw [hg]
    rw [if_pos (hw _)] at h2 ⊢
    exact h2
/-- the last operation first -/
theorem wp_region_last {id : Nat} {a : Act} {w : World} (v : Value) (hm : P.follows .mixedOrders = true) (hs : Region.noSelect (l ++ [o]).toArray = true) (hB : looseB l l.length = true) (hf : Region.free .any (l ++ [o]).toArray (Array.replicate (l ++ [o]).toArray.size false) l.length = true) (hr : (Region.ready .any (l ++ [o]).toArray (Array.replicate (l ++ [o]).toArray.size false)).contains l.length = true)
    (hQ : ∀ c a w, Q (.panic c) (a.put o.dst v) w → Q (.panic c) a w) (hy : Yields P (l ++ [o]).toArray o v a)
    (h : wpAny P .any l.toArray Q l.toArray.size (Array.replicate l.toArray.size false) (a.put o.dst v) w.drew) : (Code.region id (l ++ [o]).toArray true).wp P Q a w := by
  refine wp_region_any hm ?_
  have hsz : (l ++ [o]).toArray.size = l.toArray.size + 1 := by simp
  rw [hsz]
  refine wpAny_take (i := l.length) (v := v) (by simp) hs (by rw [← hsz]; exact hf) (by rw [← hsz]; exact hr) hQ hy ?_
  have hpush : (Array.replicate (l.toArray.size + 1) false).setIfInBounds l.length true = (Array.replicate l.toArray.size false).push true := by
    apply Array.ext'
    simp [List.replicate_succ', List.set_append_right]
  rw [hpush]
  exact wpAny_pop hB _ _ _ _ (by simp) h
theorem wp_region_last2 {id : Nat} {a : Act} {w : World} (n : Nat) (v : Value) (hn : l.length = n + 1) (ho : l[n]? = some o) (hm : P.follows .mixedOrders = true) (hs : Region.noSelect l.toArray = true) (hB : looseB (l.take n) n = true) (hf : Region.free .any l.toArray (Array.replicate (n + 1) false) n = true) (hr : (Region.ready .any l.toArray (Array.replicate (n + 1) false)).contains n = true)
    (hQ : ∀ c a w, Q (.panic c) (a.put o.dst v) w → Q (.panic c) a w) (hy : Yields P l.toArray o v a)
    (h : wpAny P .any (l.take n).toArray Q n (Array.replicate n false) (a.put o.dst v) w.drew) : (Code.region id l.toArray true).wp P Q a w := by
  have hl : l = l.take n ++ [o] := by
    have h1 := List.take_append_drop n l
    have h2 : l.drop n = [o] := by
      have h3 : (l.drop n).length = 1 := by rw [List.length_drop]; omega
      obtain ⟨x, hx⟩ := List.length_eq_one_iff.1 h3
      rw [hx]
      have h4 : (l.drop n)[0]? = some o := by rw [List.getElem?_drop]; exact ho
      rw [hx] at h4
      simpa using h4
    rw [h2] at h1
    exact h1.symm
  have hlen : (l.take n).length = n := by rw [List.length_take]; omega
  generalize l.take n = l' at *
  subst hl
  subst hlen
  refine wp_region_last v hm hs hB ?_ ?_ hQ hy ?_
  · simpa using hf
  · simpa using hr
  · simpa using h
theorem wp_normal {c : Code} {a : Act} {w : World} (h : c.wp P (fun ex a w => ex = Exit.normal ∧ Q ex a w) a w) : c.wp P Q a w := wp_mono h (fun _ _ _ h => h.2)
end
end Go.Proofs.Ytagmidolcdefiah
