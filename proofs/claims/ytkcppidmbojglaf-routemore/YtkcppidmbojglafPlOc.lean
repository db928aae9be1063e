/- What is asked of plans that are changed; the three rows at their end; a list that is turned round. -/
import Derived.Test.YtkcppidmbojglafPlOb
import Derived.Test.YtkcppidmbojglafPlC
namespace Go.Proofs.Ytkcppidmbojglaf
open Go.RowKit Go.Shelf

/- what the program tells of them -/
theorem fsb_parts {s : Sn} {p : List (List Int)} : fsb s p = true ↔ rgt s = true ∧ p.length = s.cs.length ∧ PM.Fz (msk s) p := by
  unfold fsb
  rw [Bool.and_eq_true, Bool.and_eq_true, decide_eq_true_eq, PM.feas_iff, and_assoc]
theorem msk_length (s : Sn) : (msk s).length = s.ws.length := by unfold msk; rw [List.length_map]
theorem fsb_out {s : Sn} {p : List (List Int)} {x : Nat} (hx : x < s.ws.length) : fsb s (p.map (PM.fw (x : Int))) = false := by
  rw [Bool.eq_false_iff]
  intro h
  exact PM.out_not (by rw [msk_length]; exact hx) (fsb_parts.1 h).2.2
theorem fsb_twice {s : Sn} {p : List (List Int)} {x : Nat} (hx : x < s.ws.length) (hp : fsb s p = true) : fsb s (p.map (PM.tw (x : Int))) = false := by
  rw [Bool.eq_false_iff]
  intro h
  exact PM.twice_not (by rw [msk_length]; exact hx) (fsb_parts.1 hp).2.2 (fsb_parts.1 h).2.2
theorem fsb_odd {s : Sn} {p : List (List Int)} {x c m : Nat} {l : List Int} (hx : (msk s)[x]? = some m) (hp : fsb s p = true) (hc : p[c]? = some l) : fsb s ((p.map (PM.fw (x : Int))).set c (PM.fw (x : Int) l ++ [(x : Int)])) = PM.bt m c := by
  obtain ⟨h1, h2, h3⟩ := fsb_parts.1 hp
  have := PM.odd_iff (List.getElem?_eq_some_iff.1 hx).1 h3 hc
  rw [hx, Option.getD_some] at this
  rw [Bool.eq_iff_iff, fsb_parts, this]
  constructor
  · exact fun h => h.2.2
  · exact fun h => ⟨h1, by simpa using h2, h⟩
theorem fsb_turned {s : Sn} {p : List (List Int)} {c : Nat} {l l' : List Int} (hp : fsb s p = true) (hc : p[c]? = some l) (hl : l'.Perm l) : fsb s (p.set c l') = true := by
  obtain ⟨h1, h2, h3⟩ := fsb_parts.1 hp
  exact fsb_parts.2 ⟨h1, by rw [List.length_set]; exact h2, PM.turned_fz h3 hc hl⟩
theorem fw_length (x : Int) (l : List Int) : (PM.fw x l).length ≤ l.length := List.length_filter_le _ _
theorem tw_length (x : Int) (l : List Int) : (PM.tw x l).length ≤ 2 * l.length := by
  unfold PM.tw
  rw [List.length_append, List.length_replicate]
  have := List.count_le_length (a := x) (l := l)
  omega

/- two numbers change their places -/
theorem count_set' {b z : Int} : ∀ {l : List Int} {i : Nat} {y : Int}, l[i]? = some y → (l.set i z).count b + [y].count b = l.count b + [z].count b
  | [], _, _, h => by simp at h
  | a :: l, 0, y, h => by
    simp at h
    subst h
    simp only [List.set_cons_zero, List.count_cons, List.count_nil]
    omega
  | a :: l, i + 1, y, h => by
    have := count_set' (b := b) (z := z) (l := l) (i := i) (y := y) (by simpa using h)
    simp only [List.set_cons_succ, List.count_cons, List.count_nil] at this ⊢
    omega
theorem swap_perm {l : List Int} {i j : Nat} {y z : Int} (hi : l[i]? = some y) (hj : l[j]? = some z) (hn : i ≠ j) : ((l.set i z).set j y).Perm l := by
  rw [List.perm_iff_count]
  intro b
  have h1 := count_set' (b := b) (z := z) hi
  have h2 := count_set' (b := b) (z := y) (l := l.set i z) (i := j) (y := z) (by rw [List.getElem?_set_ne hn]; exact hj)
  omega

section
variable {W W' : World} {B : Nat} {x : Int} {p : List (List Int)} {k kt ko kd gt go gd ct co cd : Nat} {ut uo ud : List Value}
theorem On.rlo (h : On W B x p kt k kd gt go gd ct co cd ut uo ud) (hk : k = p.length) : RL (fun _ => True) W (.slice (some ⟨go, 0, none⟩) k co) (p.map (PM.fw x)) := by
  have hn := h.oo.len
  have ho := h.oo
  subst hn
  refine ho.rl (D := fun _ => True) trivial (by rw [List.length_map]; exact hk) fun i u l hu hl => ?_
  rw [List.getElem?_map] at hl
  cases hq : p[i]? with
  | none => rw [hq] at hl; simp at hl
  | some q =>
    rw [hq] at hl
    simp at hl
    subst hl
    exact (h.ro i u q hu hq).mono fun _ _ _ _ => trivial
theorem On.rlt (h : On W B x p k ko kd gt go gd ct co cd ut uo ud) (hk : k = p.length) : RL (fun _ => True) W (.slice (some ⟨gt, 0, none⟩) k ct) (p.map (PM.tw x)) := by
  have hn := h.ot.len
  have ho := h.ot
  subst hn
  refine ho.rl (D := fun _ => True) trivial (by rw [List.length_map]; exact hk) fun i u l hu hl => ?_
  rw [List.getElem?_map] at hl
  cases hq : p[i]? with
  | none => rw [hq] at hl; simp at hl
  | some q =>
    rw [hq] at hl
    simp at hl
    subst hl
    exact (h.rt i u q hu hq).mono fun _ _ _ _ => trivial
/-- the list that is asked for has one more -/
theorem On.odd (h : On W B x p kt ko k gt go gd ct co cd ut uo ud) (hk : k = p.length) {c : Nat} {u : Value} {l : List Int} (hu : ud[c]? = some u) (hg : W.grownBy W' u.ownBlock) {g' n' cap' : Nat}
    (ho : OI W' B (.slice (some ⟨g', 0, none⟩) n' cap') (PM.fw x l ++ [x])) (hat : u.ownBlock = some g' ∨ g' = W.heap.size) :
    RL (fun _ => True) (W'.setCell ⟨gd, c, none⟩ (.slice (some ⟨g', 0, none⟩) n' cap')) (.slice (some ⟨gd, 0, none⟩) k cd) ((p.map (PM.fw x)).set c (PM.fw x l ++ [x])) := by
  have ld := h.od.lt gd rfl
  have hne : g' ≠ gd := by
    rcases hat with e | e
    · exact (h.rf c u g' hu e).1.2.2.2
    · omega
  have hng : ∀ g, u.ownBlock = some g → g ≠ gd := fun g e => (h.rf c u g hu e).1.2.2.2
  have hn := h.od.len
  have hod : OP W' B (.slice (some ⟨gd, 0, none⟩) k cd) ud := h.od.keep fun g e => by
    have := own_some e
    subst this
    exact hg.block _ ld.2 (fun e => hng _ e.symm rfl)
  have hp := hod.put c (.slice (some ⟨g', 0, none⟩) n' cap')
  have hset : ∀ g, g ≠ gd → (W'.setCell ⟨gd, c, none⟩ (.slice (some ⟨g', 0, none⟩) n' cap')).heap[g]? = W'.heap[g]? := fun g hgn => Below.heap_setCell _ _ _ _ hgn
  have hcl : c < ud.length := (List.getElem?_eq_some_iff.1 hu).1
  have hkl : k = (ud.set c (.slice (some ⟨g', 0, none⟩) n' cap')).length := by rw [List.length_set]; exact hn
  rw [hkl] at hp ⊢
  refine hp.rl (D := fun _ => True) trivial (by rw [List.length_set, List.length_set, List.length_map]; omega) fun i v m hv hm => ?_
  by_cases e : c = i
  · subst e
    rw [List.getElem?_set_self hcl] at hv
    rw [List.getElem?_set_self (by rw [List.length_map]; omega)] at hm
    cases hv
    cases hm
    exact (ho.keep fun g e => hset g (by have := own_some e; omega)).ri fun _ _ => trivial
  · rw [List.getElem?_set_ne e] at hv
    rw [List.getElem?_set_ne e, List.getElem?_map] at hm
    cases hq : p[i]? with
    | none => rw [hq] at hm; simp at hm
    | some q =>
      rw [hq] at hm
      simp at hm
      subst hm
      have hr := h.rd i v q hv hq
      refine (hr.keep (W' := W'.setCell ⟨gd, c, none⟩ (.slice (some ⟨g', 0, none⟩) n' cap')) fun g eg => ?_).ri fun _ _ => trivial
      have hf := h.rf i v g hv eg
      rw [hset g hf.1.2.2.2]
      exact hg.block g hf.2 (fun e2 => h.rs i c v u g (fun e3 => e e3.symm) hv hu eg e2.symm)
end
/-- a plan that is copied, one list of which is another one -/
theorem OP.other {W W' : World} {D : Nat → Prop} {B g cap n c : Nat} {us : List Value} {p : List (List Int)} {v : Value} {l : List Int} (h : OP W' B (.slice (some ⟨g, 0, none⟩) n cap) us) (hus : us.length = p.length) (hr : ∀ (i : Nat) u m, us[i]? = some u → p[i]? = some m → RI D W u m)
    (hc : c < p.length) (hs : W.heap.size ≤ W'.heap.size) (hD : ∀ q, D q → q < W.heap.size → W'.heap[q]? = W.heap[q]? ∧ q ≠ g) (hv : RI (fun q => q ≠ g) W' v l) :
    RL (fun _ => True) (W'.setCell ⟨g, c, none⟩ v) (.slice (some ⟨g, 0, none⟩) n cap) (p.set c l) := by
  have hn := h.len
  have hp := h.put c v
  have hset : ∀ q, q ≠ g → (W'.setCell ⟨g, c, none⟩ v).heap[q]? = W'.heap[q]? := fun q hq => Below.heap_setCell _ _ _ _ hq
  have hsz : (W'.setCell ⟨g, c, none⟩ v).heap.size = W'.heap.size := by simp [World.setCell]
  have hkl : n = (us.set c v).length := by rw [List.length_set]; exact hn
  rw [hkl] at hp ⊢
  refine hp.rl (D := fun _ => True) trivial (by rw [List.length_set, List.length_set]; exact hus) fun i u m hu hm => ?_
  by_cases e : c = i
  · subst e
    rw [List.getElem?_set_self (by omega)] at hu
    rw [List.getElem?_set_self hc] at hm
    cases hu
    cases hm
    exact (hv.keep (W' := W'.setCell ⟨g, c, none⟩ v) (by omega) fun q hq _ => hset q hq).mono fun _ _ _ _ => trivial
  · rw [List.getElem?_set_ne e] at hu hm
    exact ((hr i u m hu hm).keep (W' := W'.setCell ⟨g, c, none⟩ v) (by omega) fun q hq hlt => by rw [hset q (hD q hq hlt).2]; exact (hD q hq hlt).1).mono fun _ _ _ _ => trivial

/-- a row that isn't empty lies somewhere -/
theorem OP.some {W : World} {B : Nat} {v : Value} {us : List Value} (h : OP W B v us) (hn : 0 < us.length) : ∃ g cap, v = .slice (some ⟨g, 0, none⟩) us.length cap ∧ B ≤ g := by
  rcases h.2 with ⟨_, h2⟩ | ⟨g, cap, cur, hv, hb, _⟩
  · omega
  · exact ⟨g, cap, hv, hb⟩

/- steps of a region that only reads -/
theorem loadW (w : World) (b o : Nat) (v : Value) (h : w.cell? ⟨b, o, none⟩ = some v) : (Instr.loadAt 25 (.pointer (some ⟨b, o, none⟩))).run Try.prog w = .ok v w := by simp [go_sem, h]
theorem quiet_loadW {C : World → Prop} {K : Act → Prop} {o : Oper} {a : Act} (x : Operand) (b k : Nat) {v : Value} (ho : o.op = .load 25 x) (hx : a.eval x = .pointer (some ⟨b, k, none⟩)) (hr : ∀ w, C w → w.cell? ⟨b, k, none⟩ = some v)
    (h : K (a.put o.dst v)) : o.quiet Try.prog a C K :=
  quiet_val _ (fun w hw => by unfold execOp; simp only [ho, hx, Sem.run_bind, Sem.run_pure, Result.andThen_ok, loadW w b k v (hr w hw)]) h
theorem quiet_ixW {C : World → Prop} {K : Act → Prop} {o : Oper} {a : Act} (x y : Operand) {g f n cap j : Nat} (ho : o.op = .indexAddr 25 x y) (hx : a.eval x = .slice (some ⟨g, f, none⟩) n cap) (hy : a.eval y = .int .i64 (j : Int)) (hj : j < n)
    (h : K (a.put o.dst (.pointer (some ⟨g, f + j * 2, none⟩)))) : o.quiet Try.prog a C K :=
  quiet_val _ (fun w hw => by unfold execOp; simp only [ho, hx, hy, Sem.run_bind, Sem.run_pure, Result.andThen_ok, ixW w rfl hj]) h
theorem quiet_shr {C : World → Prop} {K : Act → Prop} {o : Oper} {a : Act} (x y : Operand) {t : TypeId} {m c : Nat} (ho : o.op = .binOp .shr 3 x y t) (hx : a.eval x = .int .i64 (m : Int)) (hy : a.eval y = .int .i64 (c : Int)) (hc : c ≤ 64)
    (h : K (a.put o.dst (.int .i64 ((m / 2 ^ c : Nat) : Int)))) : o.quiet Try.prog a C K :=
  quiet_val _ (fun w hw => by unfold execOp; simp only [ho, hx, hy, eqGuard, ite_self, Sem.run_bind, Sem.run_pure, Result.andThen_ok, shr_any m c hc w]) h

end Go.Proofs.Ytkcppidmbojglaf
