/- A plan with a want taken out, put in twice, put elsewhere; with a list turned round. No program is named here. -/
import Derived.Test.YtkcppidmbojglagDrf
namespace Go.Proofs.Ytkcppidmbojglag.PM

/-- without w -/
def fw (w : Int) (l : List Int) : List Int := l.filter (fun x => decide (x ≠ w))
/-- w is put behind once for each time that it stands -/
def tw (w : Int) (l : List Int) : List Int := l ++ List.replicate (l.count w) w
theorem fw_snoc (w x : Int) (l : List Int) : fw w (l ++ [x]) = if x = w then fw w l else fw w l ++ [x] := by
  unfold fw
  rw [List.filter_append]
  by_cases h : x = w
  · simp [h]
  · simp [h]
theorem count_flat_set {x : Int} : ∀ {p : List (List Int)} {c : Nat} {l l' : List Int}, p[c]? = some l → (p.set c l').flatten.count x + l.count x = p.flatten.count x + l'.count x
  | [], _, _, _, h => by simp at h
  | a :: p, 0, l, l', h => by
    simp at h
    subst h
    simp only [List.set_cons_zero, List.flatten_cons, List.count_append]
    omega
  | a :: p, c + 1, l, l', h => by
    have := count_flat_set (x := x) (p := p) (c := c) (l := l) (l' := l') (by simpa using h)
    simp only [List.set_cons_succ, List.flatten_cons, List.count_append]
    omega
theorem count_fw (w x : Int) : ∀ (p : List (List Int)), (p.map (fw w)).flatten.count x = if x = w then 0 else p.flatten.count x
  | [] => by simp
  | l :: p => by
    rw [List.map_cons, List.flatten_cons, List.count_append, count_fw w x p, List.flatten_cons, List.count_append]
    have h : (fw w l).count x = if x = w then 0 else l.count x := by
      unfold fw
      by_cases e : x = w
      · subst e
        rw [if_pos rfl, List.count_eq_zero]
        intro hm
        simp at hm
      · rw [if_neg e, List.count_filter (by simp [e])]
    rw [h]
    split <;> omega
theorem count_tw (w : Int) : ∀ (p : List (List Int)), (p.map (tw w)).flatten.count w = 2 * p.flatten.count w
  | [] => by simp
  | l :: p => by
    rw [List.map_cons, List.flatten_cons, List.count_append, count_tw w p, List.flatten_cons, List.count_append]
    have h : (tw w l).count w = 2 * l.count w := by
      unfold tw
      rw [List.count_append, List.count_replicate_self]
      omega
    omega
theorem out_not {ms : List Nat} {p : List (List Int)} {w : Nat} (hw : w < ms.length) : ¬ Fz ms (p.map (fw (w : Int))) := fun h => by
  have := h.once w hw
  rw [count_fw, if_pos rfl] at this
  omega
theorem twice_not {ms : List Nat} {p : List (List Int)} {w : Nat} (hw : w < ms.length) (hp : Fz ms p) : ¬ Fz ms (p.map (tw (w : Int))) := fun h => by
  have := h.once w hw
  rw [count_tw, hp.once w hw] at this
  omega
theorem odd_iff {ms : List Nat} {p : List (List Int)} {w c : Nat} {l : List Int} (hw : w < ms.length) (hp : Fz ms p) (hc : p[c]? = some l) : Fz ms ((p.map (fw (w : Int))).set c (fw (w : Int) l ++ [(w : Int)])) ↔ bt (ms[w]?.getD 0) c = true := by
  have hcl := (List.getElem?_eq_some_iff.1 hc).1
  have hm : (p.map (fw (w : Int)))[c]? = some (fw (w : Int) l) := by rw [List.getElem?_map, hc]; rfl
  constructor
  · intro h
    have := h.ok c (fw (w : Int) l ++ [(w : Int)]) (by rw [List.getElem?_set_self (by simpa using hcl)]) (w : Int) (by simp)
    have h2 := (okx_iff.1 this).2.2
    rwa [Int.toNat_natCast] at h2
  · intro hb
    refine ⟨fun d k hd x hx => ?_, fun v hv => ?_⟩
    · by_cases e : c = d
      · subst e
        rw [List.getElem?_set_self (by simpa using hcl)] at hd
        cases hd
        rcases List.mem_append.1 hx with hx | hx
        · exact hp.ok c l hc x ((List.mem_filter.1 hx).1)
        · simp at hx
          subst hx
          exact okx_iff.2 ⟨by omega, by omega, by rw [Int.toNat_natCast]; exact hb⟩
      · rw [List.getElem?_set_ne e, List.getElem?_map] at hd
        cases hq : p[d]? with
        | none => rw [hq] at hd; simp at hd
        | some q =>
          rw [hq] at hd
          simp at hd
          subst hd
          exact hp.ok d q hq x ((List.mem_filter.1 hx).1)
    · have h1 := count_flat_set (x := (v : Int)) (l' := fw (w : Int) l ++ [(w : Int)]) hm
      rw [count_fw, List.count_append] at h1
      have h2 := hp.once v hv
      by_cases e : (v : Int) = (w : Int)
      · rw [if_pos e] at h1
        have h3 : [(w : Int)].count (v : Int) = 1 := by rw [e]; simp
        omega
      · rw [if_neg e] at h1
        have h3 : [(w : Int)].count (v : Int) = 0 := by rw [List.count_eq_zero]; simp; exact fun h => e (by omega)
        omega
theorem turned_fz {ms : List Nat} {p : List (List Int)} {c : Nat} {l l' : List Int} (hp : Fz ms p) (hc : p[c]? = some l) (hl : l'.Perm l) : Fz ms (p.set c l') := by
  have hcl := (List.getElem?_eq_some_iff.1 hc).1
  refine ⟨fun d k hd x hx => ?_, fun v hv => ?_⟩
  · by_cases e : c = d
    · subst e
      rw [List.getElem?_set_self hcl] at hd
      cases hd
      exact hp.ok c l hc x (hl.mem_iff.1 hx)
    · rw [List.getElem?_set_ne e] at hd
      exact hp.ok d k hd x hx
  · have h1 := count_flat_set (x := (v : Int)) (l' := l') hc
    have h2 := hp.once v hv
    rw [hl.count_eq] at h1
    omega
/-- who holds it -/
theorem home_lt {ms : List Nat} {p : List (List Int)} {w : Nat} (hw : w < ms.length) (hp : Fz ms p) : 0 < p.length := by
  cases p with
  | nil => have := hp.once w hw; simp at this
  | cons a p => simp

end Go.Proofs.Ytkcppidmbojglag.PM
