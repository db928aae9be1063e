/- A beginning that is made want by want: mathematics. -/
import Derived.Test.YtkcppidmbojglagBdC
namespace Go.Proofs.Ytkcppidmbojglag
open Go.RowKit

/-- a beginning on its way: where each car is, which wants stand, what they cost -/
structure Bz where
  es : List RM.Sp
  st : List Bool
  co : Int
/-- the wants that stand in lists, each with the car of its list -/
def prp : Nat → List (List Int) → List (Int × Int)
  | _, [] => []
  | c, l :: p => l.map (fun x => ((c : Int), x)) ++ prp (c + 1) p
section
variable (s : Sn) (k : Nat)
/-- one want more -/
def bstep (z : Bz) (q : Int × Int) : Option Bz :=
  match z.es[q.1.toNat]? with
  | none => none
  | some a => if q.1 ≤ (k : Int) ∧ PM.okx (msk s) q.1.toNat q.2 = true ∧ z.st[q.2.toNat]? = some false then
      some ⟨z.es.set q.1.toNat (RM.nx s.st a (RM.wf s.ws q.2)), z.st.set q.2.toNat true, z.co + RM.ar s.st a (RM.wf s.ws q.2)⟩ else none
def bfold (o : Option Bz) (xs : List (Int × Int)) : Option Bz := xs.foldl (fun o q => o.bind fun z => bstep s k z q) o
end
section
variable {s : Sn} {k : Nat}
theorem bfold_nil (o : Option Bz) : bfold s k o [] = o := rfl
theorem bfold_cons (o : Option Bz) (q : Int × Int) (xs : List (Int × Int)) : bfold s k o (q :: xs) = bfold s k (o.bind fun z => bstep s k z q) xs := rfl
theorem bfold_append (o : Option Bz) (xs ys : List (Int × Int)) : bfold s k o (xs ++ ys) = bfold s k (bfold s k o xs) ys := by unfold bfold; rw [List.foldl_append]
theorem bfold_snoc (o : Option Bz) (xs : List (Int × Int)) (q : Int × Int) : bfold s k o (xs ++ [q]) = (bfold s k o xs).bind fun z => bstep s k z q := by rw [bfold_append]; rfl
theorem bfold_none : ∀ (xs : List (Int × Int)), bfold s k none xs = none
  | [] => rfl
  | q :: xs => by rw [bfold_cons]; exact bfold_none xs
theorem bfold_pre {o : Option Bz} {xs ys : List (Int × Int)} (h : xs <+: ys) (hn : bfold s k o xs = none) : bfold s k o ys = none := by
  obtain ⟨zs, rfl⟩ := h
  rw [bfold_append, hn, bfold_none]
theorem bstep_far {z : Bz} {q : Int × Int} (h : (k : Int) < q.1) : bstep s k z q = none := by
  unfold bstep
  split
  · rfl
  · rw [if_neg fun g => by omega]
theorem bfold_far {q : Int × Int} (h : (k : Int) < q.1) : ∀ {xs : List (Int × Int)} (o : Option Bz), q ∈ xs → bfold s k o xs = none
  | [], _, hm => by simp at hm
  | x :: xs, o, hm => by
    rw [bfold_cons]
    rcases List.mem_cons.1 hm with e | hm
    · subst e
      cases o with
      | none => exact bfold_none xs
      | some z => rw [Option.bind_some, bstep_far h]; exact bfold_none xs
    · exact bfold_far h _ hm
theorem prp_mem {q : Int × Int} : ∀ {p : List (List Int)} {c : Nat}, q ∈ prp c p ↔ ∃ (d : Nat) (l : List Int), p[d]? = some l ∧ q.1 = ((c + d : Nat) : Int) ∧ q.2 ∈ l
  | [], c => by simp [prp]
  | l :: p, c => by
    rw [prp, List.mem_append, prp_mem]
    constructor
    · rintro (h | ⟨d, m, h1, h2, h3⟩)
      · obtain ⟨x, hx, rfl⟩ := List.mem_map.1 h
        exact ⟨0, l, rfl, rfl, hx⟩
      · exact ⟨d + 1, m, by simpa using h1, by rw [h2]; omega, h3⟩
    · rintro ⟨d, m, h1, h2, h3⟩
      cases d with
      | zero =>
        cases h1
        left
        exact List.mem_map.2 ⟨q.2, h3, by rw [show ((c : Int)) = q.1 by rw [h2]; simp]⟩
      | succ d => exact .inr ⟨d, m, by simpa using h1, by rw [h2]; omega, h3⟩
/-- the wants of one list -/
theorem bfold_list {c : Nat} (hc : c ≤ k) : ∀ (l : List Int) (z : Bz) (a : RM.Sp), z.es[c]? = some a →
    bfold s k (some z) (l.map fun x => ((c : Int), x)) = (PM.run1 (msk s) c z.st l).map fun st' => ⟨z.es.set c (RM.go s.st a (l.map (RM.wf s.ws))), st', z.co + (RM.tm s.st a (l.map (RM.wf s.ws))).sum⟩
  | [], z, a, ha => by
    obtain ⟨es, st, co⟩ := z
    have e : es.set c a = es := by
      obtain ⟨hi, rfl⟩ := List.getElem?_eq_some_iff.1 ha
      exact List.set_getElem_self hi
    simp only [List.map_nil, bfold_nil, PM.run1, Option.map_some, RM.go, RM.tm, List.sum_nil, Int.add_zero]
    rw [e]
  | x :: l, z, a, ha => by
    rw [List.map_cons, bfold_cons, Option.bind_some]
    have e1 : bstep s k z ((c : Int), x) = if PM.okx (msk s) c x = true ∧ z.st[x.toNat]? = some false then some ⟨z.es.set c (RM.nx s.st a (RM.wf s.ws x)), z.st.set x.toNat true, z.co + RM.ar s.st a (RM.wf s.ws x)⟩ else none := by
      unfold bstep
      simp only [Int.toNat_natCast, ha]
      by_cases h : PM.okx (msk s) c x = true ∧ z.st[x.toNat]? = some false
      · rw [if_pos h, if_pos ⟨by omega, h⟩]
      · rw [if_neg h, if_neg fun g => h g.2]
    rw [e1, PM.run1]
    by_cases h : PM.okx (msk s) c x = true ∧ z.st[x.toNat]? = some false
    · rw [if_pos h, if_pos h, bfold_list hc l _ (RM.nx s.st a (RM.wf s.ws x)) (List.getElem?_set_self (List.getElem?_eq_some_iff.1 ha).1)]
      simp only [List.set_set, List.map_cons, RM.go, RM.tm, List.sum_cons, Int.add_assoc]
    · rw [if_neg h, if_neg h, bfold_none]; rfl
/-- where the cars are behind these lists -/
def asp (s : Sn) : List (Int × Int) → List (List Int) → List RM.Sp
  | r :: cs, l :: p => RM.go s.st (RM.bg r) (l.map (RM.wf s.ws)) :: asp s cs p
  | _, _ => []
theorem asp_get : ∀ {cs : List (Int × Int)} {p : List (List Int)} {c : Nat} {r : Int × Int} {l : List Int}, cs[c]? = some r → p[c]? = some l → (asp s cs p)[c]? = some (RM.go s.st (RM.bg r) (l.map (RM.wf s.ws)))
  | [], _, _, _, _, h, _ => by simp at h
  | _ :: _, [], _, _, _, _, h => by simp at h
  | r :: cs, l :: p, 0, _, _, h1, h2 => by cases h1; cases h2; rfl
  | r :: cs, l :: p, c + 1, _, _, h1, h2 => by
    have := asp_get (cs := cs) (p := p) (c := c) (by simpa using h1) (by simpa using h2)
    simpa [asp] using this
theorem asp_length : ∀ {cs : List (Int × Int)} {p : List (List Int)}, cs.length = p.length → (asp s cs p).length = cs.length
  | [], _, _ => by simp [asp]
  | _ :: _, [], h => by simp at h
  | r :: cs, l :: p, h => by rw [asp, List.length_cons, asp_length (by simpa using h), List.length_cons]
theorem go_nil (a : RM.Sp) : RM.go s.st a [] = a := rfl
theorem asp_empty : ∀ {cs : List (Int × Int)} {p : List (List Int)}, cs.length = p.length → (∀ l ∈ p, l = []) → asp s cs p = cs.map RM.bg
  | [], _, _, _ => by simp [asp]
  | _ :: _, [], h, _ => by simp at h
  | r :: cs, l :: p, h, he => by
    have h0 : l = [] := he l (by simp)
    subst h0
    rw [asp, asp_empty (by simpa using h) fun l hl => he l (by simp [hl])]; rfl
/-- a plan's wants -/
theorem bfold_plan : ∀ (p : List (List Int)) (c : Nat) (cs : List (Int × Int)) (A : List RM.Sp) (st : List Bool) (co : Int), A.length = c → cs.length = p.length → (∀ (d : Nat) l, p[d]? = some l → k < c + d → l = []) →
    bfold s k (some ⟨A ++ cs.map RM.bg, st, co⟩) (prp c p) = (PM.runs (msk s) c st p).map fun st' => ⟨A ++ asp s cs p, st', co + RM.cst s.st s.ws cs p⟩
  | [], c, cs, A, st, co, _, hl, _ => by
    have : cs = [] := List.eq_nil_of_length_eq_zero (by simpa using hl)
    subst this
    simp [prp, bfold_nil, PM.runs, asp, RM.cst_nil]
  | l :: p, c, [], A, st, co, _, hl, _ => by simp at hl
  | l :: p, c, r :: cs, A, st, co, hA, hl, he => by
    have hl' : cs.length = p.length := by simpa using hl
    have he' : ∀ (d : Nat) m, p[d]? = some m → k < c + 1 + d → m = [] := fun d m hm hk => he (d + 1) m (by simpa using hm) (by omega)
    have ha : (A ++ (r :: cs).map RM.bg)[c]? = some (RM.bg r) := by rw [List.getElem?_append_right (by omega), show c - A.length = 0 by omega]; rfl
    have hset : ∀ b : RM.Sp, (A ++ (r :: cs).map RM.bg).set c b = (A ++ [b]) ++ cs.map RM.bg := fun b => by
      rw [List.set_append, if_neg (by omega), show c - A.length = 0 by omega, List.map_cons, List.set_cons_zero, List.append_assoc]; rfl
    rw [prp, bfold_append, PM.runs]
    have key : bfold s k (some ⟨A ++ (r :: cs).map RM.bg, st, co⟩) (l.map fun x => ((c : Int), x)) = (PM.run1 (msk s) c st l).map fun st' => ⟨(A ++ [RM.go s.st (RM.bg r) (l.map (RM.wf s.ws))]) ++ cs.map RM.bg, st', co + (RM.tm s.st (RM.bg r) (l.map (RM.wf s.ws))).sum⟩ := by
      by_cases hc : c ≤ k
      · rw [bfold_list hc l _ (RM.bg r) ha]
        simp only [hset]
      · have h0 : l = [] := he 0 l rfl (by omega)
        subst h0
        simp only [List.map_nil, bfold_nil, PM.run1, Option.map_some, RM.go, RM.tm, List.sum_nil, Int.add_zero, List.map_cons]
        rw [List.append_assoc]; rfl
    rw [key]
    cases hr : PM.run1 (msk s) c st l with
    | none => rw [Option.map_none, Option.bind_none, bfold_none]; rfl
    | some st' =>
      rw [Option.map_some, Option.bind_some, bfold_plan p (c + 1) cs _ st' _ (by rw [List.length_append, hA]; rfl) hl' he']
      congr 1
      funext st2
      rw [asp, RM.cst_cons, List.append_assoc, Int.add_assoc]; rfl
/-- the beginning that has no lists -/
def bz0 (s : Sn) : Bz := ⟨s.cs.map RM.bg, List.replicate (msk s).length false, 0⟩
/-- what is found behind all lists -/
theorem bfold_bgn {p : List (List Int)} (hr : rgt s = true) (hl : p.length = s.cs.length) (hk : k < p.length) :
    bfold s k (some (bz0 s)) (prp 0 p) = (bgn s (k : Int) p).map fun st => ⟨asp s s.cs p, st, RM.cst s.st s.ws s.cs p⟩ := by
  by_cases he : ∀ (d : Nat) l, p[d]? = some l → k < 0 + d → l = []
  · have := bfold_plan (s := s) (k := k) p 0 s.cs [] (List.replicate (msk s).length false) 0 rfl hl.symm he
    rw [List.nil_append] at this
    unfold bz0
    rw [this]
    have hb : bgn s (k : Int) p = PM.runs (msk s) 0 (List.replicate (msk s).length false) p := by
      unfold bgn
      rw [if_pos]
      simp only [Bool.and_eq_true, decide_eq_true_eq, List.all_eq_true, Int.toNat_natCast]
      refine ⟨⟨⟨⟨hr, hl⟩, by omega⟩, by omega⟩, fun l hm => ?_⟩
      obtain ⟨d, hd⟩ := List.getElem?_of_mem hm
      rw [List.getElem?_drop] at hd
      rw [he _ l hd (by omega)]; rfl
    rw [hb]
    congr 1
    funext st
    rw [Int.zero_add]; rfl
  · have : ∃ (d : Nat) (l : List Int), p[d]? = some l ∧ k < d ∧ l ≠ [] := by
      refine Classical.byContradiction fun hn => he fun d l h1 h2 => ?_
      refine Classical.byContradiction fun h3 => hn ⟨d, l, h1, by omega, h3⟩
    obtain ⟨d, l, h1, h2, h3⟩ := this
    rw [bgn_behind h1 h2 h3, Option.map_none]
    obtain ⟨x, hx⟩ := List.exists_mem_of_ne_nil l h3
    exact bfold_far (q := ((d : Int), x)) (by show (k : Int) < (d : Int); omega) _ (prp_mem.2 ⟨d, l, h1, by simp, hx⟩)
end

end Go.Proofs.Ytkcppidmbojglag
