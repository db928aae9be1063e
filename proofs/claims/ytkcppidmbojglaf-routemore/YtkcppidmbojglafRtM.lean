/- Routes: when a car is at its stops. No program is named here. -/
import Derived.Test.YtkcppidmbojglafSiteN
import Derived.Test.YtkcppidmbojglafPlN
namespace Go.Proofs.Ytkcppidmbojglaf
namespace RM
open SM

/-- a stop: a floor, when the car is here (-1: no stop yet), when it goes on -/
structure Sp where
  fl : Int
  he : Int
  le : Int
/-- how long a stop takes -/
def dw (s : St) : Int := s.opn + s.wai + s.clo + 2
/-- where a route begins -/
def bg (r : Int × Int) : Sp := ⟨r.1, -1, r.2⟩
/-- when a car is at a floor that is the next one -/
def ar (s : St) (a : Sp) (f : Int) : Int := if a.he ≠ -1 ∧ a.fl = f then a.he else a.le + trav s a.fl f
/-- the next stop -/
def nx (s : St) (a : Sp) (f : Int) : Sp := if a.he ≠ -1 ∧ a.fl = f then a else ⟨f, a.le + trav s a.fl f, a.le + trav s a.fl f + dw s⟩
/-- a stop of a route -/
structure Ok (s : St) (a : Sp) : Prop where
  f0 : 0 ≤ a.fl
  f1 : a.fl < s.fl
  l0 : 0 ≤ a.le
  hh : a.he = -1 ∨ (0 ≤ a.he ∧ a.le = a.he + dw s)
section
variable {s : St} {a b c : Sp} {f : Int}
theorem dw_bd (r : Rt s) : 5 ≤ dw s ∧ dw s ≤ 3002 := by
  have := r.opn1; have := r.opn2; have := r.wai1; have := r.wai2; have := r.clo1; have := r.clo2
  unfold dw; omega
theorem bg_ok {r : Int × Int} (h0 : 0 ≤ r.1) (h1 : r.1 < s.fl) (h2 : 0 ≤ r.2) : Ok s (bg r) := ⟨h0, h1, h2, .inl rfl⟩
theorem nx_eq (ok : Ok s a) (f : Int) : nx s a f = ⟨f, ar s a f, ar s a f + dw s⟩ := by
  unfold nx ar
  by_cases h : a.he ≠ -1 ∧ a.fl = f
  · simp only [if_pos h]
    rcases ok.hh with h1 | ⟨_, h1⟩
    · exact absurd h1 h.1
    · obtain ⟨x, y, z⟩ := a
      simp only at h h1
      rw [h1, h.2]
  · simp only [if_neg h]
theorem ar_nn (r : Rt s) (ok : Ok s a) (f : Int) : 0 ≤ ar s a f := by
  unfold ar
  split
  · rename_i h
    rcases ok.hh with h1 | ⟨h1, _⟩
    · exact absurd h1 h.1
    · exact h1
  · have := ok.l0; have := (trav_bd r a.fl f).1; omega
theorem ar_le (r : Rt s) (ok : Ok s a) (f : Int) : ar s a f ≤ a.le + 65000 := by
  unfold ar
  split
  · rename_i h
    rcases ok.hh with h1 | ⟨h1, h2⟩
    · exact absurd h1 h.1
    · have := dw_bd r; omega
  · have := (trav_bd r a.fl f).2; omega
/-- no stop is earlier than the one ahead -/
theorem ar_he (r : Rt s) (ok : Ok s a) (f : Int) : a.he ≤ ar s a f := by
  unfold ar
  split
  · omega
  · have := (trav_bd r a.fl f).1
    have := dw_bd r
    rcases ok.hh with h1 | ⟨h1, h2⟩
    · have := ok.l0; omega
    · omega
theorem nx_ok (r : Rt s) (ok : Ok s a) (h0 : 0 ≤ f) (h1 : f < s.fl) : Ok s (nx s a f) := by
  rw [nx_eq ok]
  have hn := ar_nn r ok f
  have := dw_bd r
  exact ⟨h0, h1, by show 0 ≤ ar s a f + dw s; omega, .inr ⟨hn, rfl⟩⟩
/-- when a car is somewhere behind a stop -/
theorem ar_nx (r : Rt s) (ok : Ok s a) (f g : Int) : ar s (nx s a f) g = if f = g then ar s a f else ar s a f + dw s + trav s f g := by
  rw [nx_eq ok]
  have := ar_nn r ok f
  unfold ar at this ⊢
  simp only
  by_cases e : f = g
  · rw [if_pos ⟨by omega, e⟩, if_pos e]
  · rw [if_neg (fun h => e h.2), if_neg e]

/-- at no floor any later -/
def Le (s : St) (a b : Sp) : Prop := ∀ f, 0 ≤ f → f < s.fl → ar s a f ≤ ar s b f
theorem Le.refl (s : St) (a : Sp) : Le s a a := fun _ _ _ => Int.le_refl _
theorem Le.trans (h : Le s a b) (k : Le s b c) : Le s a c := fun f h0 h1 => Int.le_trans (h f h0 h1) (k f h0 h1)
theorem Le.nx (r : Rt s) (oa : Ok s a) (ob : Ok s b) (h : Le s a b) (h0 : 0 ≤ f) (h1 : f < s.fl) : Le s (nx s a f) (nx s b f) := fun g _ _ => by
  rw [ar_nx r oa, ar_nx r ob]
  have := h f h0 h1
  split <;> omega
/-- a stop on the way makes no other one earlier -/
theorem le_nx (r : Rt s) (ok : Ok s a) (h0 : 0 ≤ f) (h1 : f < s.fl) : Le s a (nx s a f) := fun g g0 g1 => by
  rw [ar_nx r ok]
  by_cases e : f = g
  · rw [if_pos e, e]; exact Int.le_refl _
  · rw [if_neg e]
    have hd := dw_bd r
    have ht := (trav_bd r f g).1
    have h2 := trav_bd r a.fl f
    have h3 := trav_bd r a.fl g
    have h4 := trav_tri r (a := a.fl) (b := f) (c := g) ok.f0 h0 g0 ok.f1 h1 g1
    unfold ar
    by_cases q : a.he ≠ -1 ∧ a.fl = g
    · rw [if_pos q]
      split
      · omega
      · rcases ok.hh with k | ⟨k1, k2⟩
        · exact absurd k q.1
        · omega
    · rw [if_neg q]
      split
      · rename_i q2
        rcases ok.hh with k | ⟨k1, k2⟩
        · exact absurd k q2.1
        · rw [q2.2]; omega
      · omega
end

/-- behind some stops -/
def go (s : St) : Sp → List Int → Sp
  | a, [] => a
  | a, f :: l => go s (nx s a f) l
/-- when the stops are -/
def tm (s : St) : Sp → List Int → List Int
  | _, [] => []
  | a, f :: l => ar s a f :: tm s (nx s a f) l
/-- floors of a site -/
def In (s : St) (l : List Int) : Prop := ∀ f ∈ l, 0 ≤ f ∧ f < s.fl
section
variable {s : St} {a b : Sp} {l m : List Int}
theorem In.cons {f : Int} (h : In s (f :: l)) : (0 ≤ f ∧ f < s.fl) ∧ In s l := ⟨h f (by simp), fun g hg => h g (by simp [hg])⟩
theorem In.append : In s (l ++ m) ↔ In s l ∧ In s m := ⟨fun h => ⟨fun f hf => h f (by simp [hf]), fun f hf => h f (by simp [hf])⟩, fun h f hf => (List.mem_append.1 hf).elim (h.1 f) (h.2 f)⟩
theorem go_append : ∀ (l m : List Int) (a : Sp), go s a (l ++ m) = go s (go s a l) m
  | [], _, _ => rfl
  | f :: l, m, a => go_append l m (nx s a f)
theorem tm_append : ∀ (l m : List Int) (a : Sp), tm s a (l ++ m) = tm s a l ++ tm s (go s a l) m
  | [], _, _ => rfl
  | f :: l, m, a => by
    show ar s a f :: tm s (nx s a f) (l ++ m) = _
    rw [tm_append l m]; rfl
theorem tm_length : ∀ (l : List Int) (a : Sp), (tm s a l).length = l.length
  | [], _ => rfl
  | f :: l, a => by
    show (tm s (nx s a f) l).length + 1 = _
    rw [tm_length l]; rfl
theorem go_snoc (f : Int) : go s a (l ++ [f]) = nx s (go s a l) f := by rw [go_append]; rfl
theorem tm_snoc (f : Int) : tm s a (l ++ [f]) = tm s a l ++ [ar s (go s a l) f] := by rw [tm_append]; rfl
theorem tm_get {f : Int} : ∀ {l : List Int} {a : Sp} {i : Nat}, l[i]? = some f → (tm s a l)[i]? = some (ar s (go s a (l.take i)) f)
  | [], _, _, h => by simp at h
  | g :: l, a, 0, h => by simp at h; subst h; rfl
  | g :: l, a, i + 1, h => tm_get (l := l) (a := nx s a g) (i := i) (by simpa using h)
theorem go_ok (r : Rt s) : ∀ {l : List Int} {a : Sp}, Ok s a → In s l → Ok s (go s a l)
  | [], _, ok, _ => ok
  | f :: l, a, ok, h => go_ok (l := l) (a := nx s a f) r (nx_ok r ok h.cons.1.1 h.cons.1.2) h.cons.2
/-- stops on the way make no other one earlier -/
theorem le_go (r : Rt s) : ∀ {l : List Int} {a : Sp}, Ok s a → In s l → Le s a (go s a l)
  | [], _, _, _ => Le.refl _ _
  | f :: l, a, ok, h => (le_nx r ok h.cons.1.1 h.cons.1.2).trans (le_go (l := l) (a := nx s a f) r (nx_ok r ok h.cons.1.1 h.cons.1.2) h.cons.2)
theorem Le.go (r : Rt s) : ∀ {l : List Int} {a b : Sp}, Ok s a → Ok s b → In s l → Le s a b → Le s (go s a l) (go s b l)
  | [], _, _, _, _, _, h => h
  | f :: l, a, b, oa, ob, hl, h => Le.go (l := l) (a := RM.nx s a f) (b := RM.nx s b f) r (nx_ok r oa hl.cons.1.1 hl.cons.1.2) (nx_ok r ob hl.cons.1.1 hl.cons.1.2) hl.cons.2 (h.nx r oa ob hl.cons.1.1 hl.cons.1.2)
theorem tm_le (r : Rt s) (oa : Ok s a) (ob : Ok s b) (hl : In s l) (h : Le s a b) {i : Nat} {t u : Int} (ht : (tm s a l)[i]? = some t) (hu : (tm s b l)[i]? = some u) : t ≤ u := by
  have hi : i < l.length := by have := (List.getElem?_eq_some_iff.1 ht).1; rwa [tm_length] at this
  have hf : l[i]? = some l[i] := List.getElem?_eq_getElem hi
  have hin := hl l[i] (List.getElem_mem hi)
  rw [tm_get (i := i) hf] at ht hu
  cases ht
  cases hu
  exact (Le.go r oa ob (fun f hf => hl f (List.mem_of_mem_take hf)) h) _ hin.1 hin.2
theorem tm_sum_le (r : Rt s) : ∀ {l : List Int} {a b : Sp}, Ok s a → Ok s b → In s l → Le s a b → (tm s a l).sum ≤ (tm s b l).sum
  | [], _, _, _, _, _, _ => Int.le_refl _
  | f :: l, a, b, oa, ob, hl, h => by
    have h1 := h f hl.cons.1.1 hl.cons.1.2
    have h2 := tm_sum_le r (nx_ok r oa hl.cons.1.1 hl.cons.1.2) (nx_ok r ob hl.cons.1.1 hl.cons.1.2) hl.cons.2 (h.nx r oa ob hl.cons.1.1 hl.cons.1.2)
    show (ar s a f :: tm s (nx s a f) l).sum ≤ (ar s b f :: tm s (nx s b f) l).sum
    rw [List.sum_cons, List.sum_cons]
    omega
theorem tm_nn (r : Rt s) : ∀ {l : List Int} {a : Sp}, Ok s a → In s l → ∀ t ∈ tm s a l, 0 ≤ t
  | [], _, _, _, t, h => by simp [tm] at h
  | f :: l, a, ok, hl, t, h => by
    rcases List.mem_cons.1 h with h | h
    · rw [h]; exact ar_nn r ok f
    · exact tm_nn r (nx_ok r ok hl.cons.1.1 hl.cons.1.2) hl.cons.2 t h
/-- how late a car may be -/
theorem go_le (r : Rt s) : ∀ {l : List Int} {a : Sp}, Ok s a → In s l → (go s a l).le ≤ a.le + 68002 * (l.length : Int)
  | [], _, _, _ => by simp [go]
  | f :: l, a, ok, hl => by
    have h1 := go_le r (nx_ok r ok hl.cons.1.1 hl.cons.1.2) hl.cons.2
    have h2 := ar_le r ok f
    have h3 := dw_bd r
    show (go s (nx s a f) l).le ≤ _
    rw [nx_eq ok] at h1 ⊢
    simp only at h1
    rw [List.length_cons]
    omega
theorem tm_bd (r : Rt s) (ok : Ok s a) (hl : In s l) : ∀ t ∈ tm s a l, t ≤ a.le + 68002 * (l.length : Int) := fun t ht => by
  obtain ⟨i, hi⟩ := List.getElem?_of_mem ht
  have hlt : i < l.length := by have := (List.getElem?_eq_some_iff.1 hi).1; rwa [tm_length] at this
  rw [tm_get (i := i) (List.getElem?_eq_getElem hlt)] at hi
  cases hi
  have hin : In s (l.take i) := fun f hf => hl f (List.mem_of_mem_take hf)
  have h1 := ar_le r (go_ok r ok hin) l[i]
  have h2 := go_le r ok hin
  rw [List.length_take] at h2
  omega
end

/- a car that goes on later -/
def sh (n : Int) (a : Sp) : Sp := ⟨a.fl, if a.he = -1 then -1 else a.he + n, a.le + n⟩
section
variable {s : St} {a : Sp} {n : Int}
theorem sh_bg (r : Int × Int) : bg (r.1, r.2 + n) = sh n (bg r) := rfl
theorem ar_sh (hn : 0 ≤ n) (ok : Ok s a) (f : Int) : ar s (sh n a) f = ar s a f + n := by
  unfold ar sh
  simp only
  by_cases h : a.he = -1
  · rw [if_pos h, if_neg (fun q => q.1 rfl), if_neg (fun q => q.1 h)]; omega
  · rw [if_neg h]
    have h1 : a.he + n ≠ -1 := by rcases ok.hh with k | k <;> omega
    by_cases e : a.fl = f
    · rw [if_pos ⟨h1, e⟩, if_pos ⟨h, e⟩]
    · rw [if_neg (fun q => e q.2), if_neg (fun q => e q.2)]; omega
theorem nx_sh (hn : 0 ≤ n) (r : Rt s) (ok : Ok s a) (f : Int) : nx s (sh n a) f = sh n (nx s a f) := by
  have h1 := ar_sh hn ok f
  have h2 := ar_nn r ok f
  have h3 : nx s (sh n a) f = ⟨f, ar s (sh n a) f, ar s (sh n a) f + dw s⟩ := by
    unfold nx ar
    by_cases h : (sh n a).he ≠ -1 ∧ (sh n a).fl = f
    · simp only [if_pos h]
      have hne : a.he ≠ -1 := fun e => h.1 (by unfold sh; simp only; rw [if_pos e])
      rcases ok.hh with k | ⟨_, k⟩
      · exact absurd k hne
      · unfold sh at h ⊢
        simp only at h ⊢
        rw [if_neg hne, k, h.2]
        congr 1
        omega
    · simp only [if_neg h]
  rw [h3, h1, nx_eq ok]
  unfold sh
  simp only
  rw [if_neg (by omega)]
  congr 1
  omega
theorem tm_sh (hn : 0 ≤ n) (r : Rt s) : ∀ {l : List Int} {a : Sp}, Ok s a → In s l → tm s (sh n a) l = (tm s a l).map (· + n)
  | [], _, _, _ => rfl
  | f :: l, a, ok, hl => by
    show ar s (sh n a) f :: tm s (nx s (sh n a) f) l = _
    rw [ar_sh hn ok, nx_sh hn r ok, tm_sh hn r (nx_ok r ok hl.cons.1.1 hl.cons.1.2) hl.cons.2]
    rfl
end

end RM
end Go.Proofs.Ytkcppidmbojglaf
