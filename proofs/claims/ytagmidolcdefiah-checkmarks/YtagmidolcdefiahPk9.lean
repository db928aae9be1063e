/- Several texts in one, each with its own head. -/
import Derived.Test.YtagmidolcdefiahPk8
import Derived.Deep.RegionLaw
import Derived.Test.YtagmidolcdefiahPk3
import Derived.Great.BuildSlice
import Derived.Great.Walk
import Derived.Great.FillDense
import Derived.Deep.Cut
import Derived.StillTail
import Derived.WalkMore
/- A search in memory: its block, its marks, the plans that it reads. -/
namespace Go.Proofs.Ytagmidolcdefiah
open Go.RowKit Go.Shelf
/-- the cells of bytes; a row of bytes that is owned -/
def yc (l : List Nat) : List Value := l.map fun (n : Nat) => Value.int .u8 (n : Int)
theorem yc_length (l : List Nat) : (yc l).length = l.length := by unfold yc; rw [List.length_map]
theorem yc_append (l m : List Nat) : yc (l ++ m) = yc l ++ yc m := by unfold yc; rw [List.map_append]
theorem yc_some {l : List Nat} {i x : Nat} (h : l[i]? = some x) : (yc l)[i]? = some (.int .u8 (x : Int)) := by unfold yc; rw [List.getElem?_map, h]; rfl
theorem yc_get {l : List Nat} {i : Nat} {u : Value} (h : (yc l)[i]? = some u) : ∃ x, l[i]? = some x ∧ u = .int .u8 (x : Int) := by
  unfold yc at h
  rw [List.getElem?_map] at h
  cases e : l[i]? with
  | none => rw [e] at h; simp at h
  | some x => rw [e] at h; simp at h; exact ⟨x, rfl, h.symm⟩
theorem yc_one (l : List Nat) : ∀ u ∈ yc l, u.oneCell' = true := by
  intro u hu
  obtain ⟨n, _, rfl⟩ := List.mem_map.1 hu
  rfl
def OY (W : World) (B : Nat) (v : Value) (l : List Nat) : Prop := W.ownsRow B 5 1 v l.length (yc l)
section
variable {W W' : World} {B : Nat} {v : Value} {l : List Nat}
theorem OY.nil (W : World) (B : Nat) : OY W B (.slice none 0 0) [] := World.ownsRow_nil W B _ 1
theorem OY.form (h : OY W B v l) : (v = .slice none 0 0 ∧ l = []) ∨ ∃ g cap, v = .slice (some ⟨g, 0, none⟩) l.length cap ∧ B ≤ g ∧ g < W.heap.size ∧ l.length ≤ cap ∧ cap ≤ maxLen := by
  rcases h.2 with ⟨h1, h2⟩ | ⟨g, cap, cur, hv, hb, hg, hc, hm, _⟩
  · exact .inl ⟨h1, List.length_eq_zero_iff.1 h2⟩
  · exact .inr ⟨g, cap, hv, hb, (Array.getElem?_eq_some_iff.1 hg).1, hc, hm⟩
theorem OY.slice (h : OY W B v l) : ∃ a c, v = .slice a l.length c := by
  rcases h.form with ⟨rfl, rfl⟩ | ⟨g, cap, rfl, _⟩
  · exact ⟨none, 0, rfl⟩
  · exact ⟨_, cap, rfl⟩
theorem OY.lt (h : OY W B v l) : ∀ g, v.ownBlock = some g → B ≤ g ∧ g < W.heap.size := World.ownsRow.lt h
theorem OY.keep (h : OY W B v l) (hk : ∀ g, v.ownBlock = some g → W'.heap[g]? = W.heap[g]?) : OY W' B v l := by
  refine ⟨h.1, ?_⟩
  rcases h.2 with h2 | ⟨g, cap, cur, hv, hb, hg, r⟩
  · exact .inl h2
  · exact .inr ⟨g, cap, cur, hv, hb, (hk g (by rw [hv]; rfl)).trans hg, r⟩
theorem OY.below' (h : OY W B v l) (hb : Below W.heap.size W W') : OY W' B v l := h.keep fun g hg => hb.block g (h.lt g hg).2
theorem OY.alloc (h : OY W B v l) (o : Obj) : OY (W.alloc o) B v l := h.below' ((Below.refl _ _).alloc (Nat.le_refl _) o)
theorem OY.cell {g cap n : Nat} (h : OY W B (.slice (some ⟨g, 0, none⟩) n cap) l) {i x : Nat} (hi : l[i]? = some x) : W.cell? ⟨g, i, none⟩ = some (.int .u8 (x : Int)) := by
  have := World.ownsRow.cells h (g := g) rfl i _ (yc_some hi)
  rwa [Addr.add_mid, Nat.zero_add] at this
theorem OY.lit (W : World) (l : List Nat) (hB : B ≤ W.heap.size) (hm : l.length ≤ maxLen) : OY (W.alloc (.cells (yc l).toArray 5)) B (.slice (some ⟨W.heap.size, 0, none⟩) l.length l.length) l := by
  have := World.ownsRow_lit (e := 5) (size := 1) W (yc l).toArray l.length hB hm (by simp [yc_length])
  simpa [OY] using this
end
theorem infoY : (Try.prog.info? 5).map (fun i => (i.zero, i.size, i.bytes)) = some (some (.int .u8 0), 1, 1) := by kernel_rfl
/-- a byte is put behind a row of bytes -/
theorem wpList_appY {ops : Array Oper} {rest : List Oper} {o : Oper} {a : Act} {w : World} {Q : Exit → Act → World → Prop} (hgd : o.guard = none) (s x : Operand)
    (ho : o.op = .call { callee := .builtin .append, args := #[s, x], argTypes := #[33, 33] })
    (B : Nat) (v : Value) (l : List Nat) (hs : a.eval s = v) (hown : OY w B v l) (g c : Nat) (y : Nat) (hx : a.eval x = .slice (some ⟨g, 0, none⟩) 1 c) (hc : w.cell? ⟨g, 0, none⟩ = some (.int .u8 (y : Int)))
    (h63 : l.length ≤ 2000000) (hB : B ≤ w.heap.size)
    (h : ∀ g' cap w', OY w' B (.slice (some ⟨g', 0, none⟩) (l.length + 1) cap) (l ++ [y]) → w.grownBy w' v.ownBlock → (v.ownBlock = some g' ∨ g' = w.heap.size) → g' < w'.heap.size → wpList Try.prog ops Q rest (a.put o.dst (.slice (some ⟨g', 0, none⟩) (l.length + 1) cap)) w') : wpList Try.prog ops Q (o :: rest) a w := by
  obtain ⟨i0, hi, hz0, hz1, hz2⟩ := info_parts infoY
  refine wpList_append_lies w hgd s x 33 ho B 5 i0 _ 1 1 Try.underlying33 hi hz0 hz1 hz2 rfl (by decide) v l.length (yc l) hs hown ⟨g, 0, none⟩ 1 c (yc [y]) hx rfl ?_ (yc_one [y]) (by omega) (by unfold maxLen; omega) (by omega) hB w.heap.size rfl ?_
  · intro j u hj
    cases j with
    | zero =>
      simp [yc] at hj
      subst hj
      rw [Addr.add_mid]; exact hc
    | succ j => simp [yc] at hj
  · intro g' cap w' h1 h2 h3 h4
    refine h g' cap w' ?_ h2 h3 h4
    unfold OY
    rw [List.length_append, yc_append]
    exact h1
/-- a number is put behind a row of numbers: a step of a region that draws -/
theorem step_appI {ops : Array Oper} {o : Oper} {a : Act} {W : World} {K : Act → World → Prop} {Q : Exit → Act → World → Prop} {E : Prop} (hgd : o.guard = none) (s x : Operand)
    (ho : o.op = .call { callee := .builtin .append, args := #[s, x], argTypes := #[55, 55] }) (B : Nat) {v : Value} {l : List Int} {y : Int} {b c : Nat} (hs : a.eval s = v) (hR : OI W B v l) (hM : l.length ≤ 1000)
    (hx : a.eval x = .slice (some ⟨b, 0, none⟩) 1 c) (hy : W.cell? ⟨b, 0, none⟩ = some (.int .i64 y)) (hB : B ≤ W.heap.size)
    (h : ∀ g cap W', OI W' B (.slice (some ⟨g, 0, none⟩) (l.length + 1) cap) (l ++ [y]) → W.grownBy W' v.ownBlock → (v.ownBlock = some g ∨ g = W.heap.size) → K (a.put o.dst (.slice (some ⟨g, 0, none⟩) (l.length + 1) cap)) W') :
    if Region.wanted o (yielded ops a.tmps) = true then Oper.wp Try.prog o a W K Q else E := by
  obtain ⟨i0, hi, hz0, hz1, hz2⟩ := info_parts infoI
  refine step_append_lies W hgd s x 55 ho B 3 i0 _ 1 8 Try.underlying55 hi hz0 hz1 hz2 rfl (by decide) v l.length (ic l) hs hR ⟨b, 0, none⟩ 1 c (ic [y]) hx rfl ?_ (ic_one [y]) (by omega) (by unfold maxLen; omega) (by omega) hB W.heap.size rfl ?_
  · intro j u hj
    cases j with
    | zero =>
      simp [ic] at hj
      subst hj
      rw [Addr.add_mid]; exact hy
    | succ j => simp [ic] at hj
  · intro g cap W' hown hg hat _
    refine h g cap W' ?_ hg hat
    unfold OI
    rw [List.length_append, ic_append]
    exact hown
/-- a whole snapshot is read out of a longer block -/
theorem wpList_load27r {ops : Array Oper} {rest : List Oper} {op : Oper} {a : Act} {w : World} {Q : Exit → Act → World → Prop} (hgd : Region.wanted op (yielded ops a.tmps) = true) (x : Operand) (ho : op.op = .load 27 x)
    (b : Nat) (s : St) (vc vw : Value) (hx : a.eval x = .pointer (some ⟨b, 0, none⟩)) (hr : w.rangeAt b 0 (nv s vc vw))
    (h : wpList Try.prog ops Q rest (a.put op.dst (.agg (nv s vc vw).toArray)) w) : wpList Try.prog ops Q (op :: rest) a w :=
  wpList_step fun _ hK => by
    rw [if_pos hgd]
    unfold Oper.wp execOp
    simp only [ho, Sem.run_bind, Sem.run_pure, Result.andThen_ok, hx, load27 w b s vc vw hr]
    exact hK _ _ h
theorem quiet_load27r {C : World → Prop} {K : Act → Prop} {o : Oper} {a : Act} (x : Operand) (b : Nat) (s : St) (vc vw : Value) (ho : o.op = .load 27 x) (hx : a.eval x = .pointer (some ⟨b, 0, none⟩)) (hr : ∀ w, C w → w.rangeAt b 0 (nv s vc vw))
    (h : K (a.put o.dst (.agg (nv s vc vw).toArray))) : o.quiet Try.prog a C K :=
  quiet_val _ (fun w hw => by unfold execOp; simp only [ho, hx, Sem.run_bind, Sem.run_pure, Result.andThen_ok, load27 w b s vc vw (hr w hw)]) h
/-- a search's cells -/
def xc (s : St) (vc vw : Value) (B : Nat) (vp : Value) (x : Sx) (vm : Value) : List Value := nv s vc vw ++ [.int .i64 (B : Int), vp, .int .i64 x.cost, .int .i64 (x.nodes : Int), .bool x.ended, vm]
theorem xc_length (s : St) (vc vw : Value) (B : Nat) (vp : Value) (x : Sx) (vm : Value) : (xc s vc vw B vp x vm).length = 21 := rfl
/-- what may be read beside it -/
def Dv (xb : Nat) (vm : Value) (g : Nat) : Prop := g ≠ xb ∧ vm.ownBlock ≠ some g
/-- what a visit writes -/
structure Mv (xb : Nat) (vm vm' : Value) (w w' : World) : Prop where
  kp : Kp (fun i => i = xb ∨ vm.ownBlock = some i) w w'
  own : vm'.ownBlock = vm.ownBlock ∨ ∀ g, vm'.ownBlock = some g → w.heap.size ≤ g
section
variable {xb : Nat} {vm vm' vm'' : Value} {w w' w'' : World}
theorem Mv.below (xb : Nat) (vm : Value) (h : Below w.heap.size w w') : Mv xb vm vm w w' := ⟨Kp.ofBelow _ h, .inl rfl⟩
theorem Mv.refl (xb : Nat) (vm : Value) (w : World) : Mv xb vm vm w w := Mv.below xb vm (Below.refl _ _)
theorem Mv.trans (h : Mv xb vm vm' w w') (k : Mv xb vm' vm'' w' w'') : Mv xb vm vm'' w w'' := by
  refine ⟨h.kp.trans k.kp (fun i hi e => ?_), ?_⟩
  · rcases e with e | e
    · exact .inl e
    · rcases h.own with o | o
      · exact .inr (o.symm.trans e)
      · have := o i e; omega
  · rcases k.own with o | o
    · rcases h.own with o' | o'
      · exact .inl (o.trans o')
      · exact .inr fun g hg => o' g (o.symm.trans hg)
    · exact .inr fun g hg => Nat.le_trans h.kp.size (o g hg)
theorem Mv.set {xb i : Nat} {vm : Value} {v : Value} (w : World) : Mv xb vm vm w (w.setCell ⟨xb, i, none⟩ v) := ⟨(Kp.refl _ w).set xb i v (fun _ => .inl rfl), .inl rfl⟩
theorem Mv.dv (h : Mv xb vm vm' w w') {g : Nat} (hg : Dv xb vm g) (hlt : g < w.heap.size) : Dv xb vm' g := ⟨hg.1, fun e => by
  rcases h.own with o | o
  · exact hg.2 (o.symm.trans e)
  · have := o g e; omega⟩
theorem Mv.block (h : Mv xb vm vm' w w') {g : Nat} (hg : Dv xb vm g) (hlt : g < w.heap.size) : w'.heap[g]? = w.heap[g]? := h.kp.block g hlt (fun e => e.elim hg.1 hg.2)
theorem Mv.rl (h : Mv xb vm vm' w w') {v : Value} {p : List (List Int)} (hp : RL (Dv xb vm) w v p) : RL (Dv xb vm') w' v p :=
  RL.keep (hp.mono (D' := fun g => Dv xb vm' g ∧ Dv xb vm g) (fun _ hg hlt _ => ⟨h.dv hg hlt, hg⟩)) h.kp.size (fun _ hg hlt => h.block hg.2 hlt) |>.mono fun _ hg _ _ => hg.1
theorem Mv.ri (h : Mv xb vm vm' w w') {v : Value} {p : List Int} (hp : RI (Dv xb vm) w v p) : RI (Dv xb vm') w' v p :=
  RI.keep (hp.mono (D' := fun g => Dv xb vm' g ∧ Dv xb vm g) (fun _ hg hlt _ => ⟨h.dv hg hlt, hg⟩)) h.kp.size (fun _ hg hlt => h.block hg.2 hlt) |>.mono fun _ hg _ _ => hg.1
theorem Mv.r2 (h : Mv xb vm vm' w w') {v : Value} {p : List (Int × Int)} (hp : R2 (Dv xb vm) w v p) : R2 (Dv xb vm') w' v p :=
  R2.keep (hp.mono (D' := fun g => Dv xb vm' g ∧ Dv xb vm g) (fun _ hg hlt _ => ⟨h.dv hg hlt, hg⟩)) h.kp.size (fun _ hg hlt => h.block hg.2 hlt) |>.mono fun _ hg _ _ => hg.1
end
section
variable {W W' : World} {xb : Nat} {s : Sn} {vc vw : Value} {B : Nat} {x : Sx} {vp vm : Value}
end
section
variable {W W' : World} {B g : Nat} {us : List Value} {p : List (List Int)}
/-- a list is laid in a block of its own -/
theorem OW.put (h : OW W B g us p) {c : Nat} {u' : Value} {l : List Int} (hcp : c < p.length) (hb : Below W.heap.size W W') (hf : ∀ q, u'.ownBlock = some q → W.heap.size ≤ q) (ho : OI W' B u' l) : OW (W'.setCell ⟨g, c, none⟩ u') B g (us.set c u') (p.set c l) := by
  have hlt := h.lt
  have hcl : c < us.length := by rw [h.len]; exact hcp
  have keep : ∀ j, j ≠ g → (W'.setCell ⟨g, c, none⟩ u').heap[j]? = W'.heap[j]? := fun j hj => Below.heap_setCell W' ⟨g, c, none⟩ _ j hj
  have hlts : ∀ (d : Nat) v k, us[d]? = some v → v.ownBlock = some k → k < W.heap.size := fun d v k hv hk => by
    obtain ⟨l', hl'⟩ : ∃ l', p[d]? = some l' := ⟨_, List.getElem?_eq_getElem (by rw [← h.len]; exact (List.getElem?_eq_some_iff.1 hv).1)⟩
    exact ((h.li d v l' hv hl').lt k hk).2
  refine ⟨blk_set ((hb.block g hlt).trans h.hl) c u', by rw [List.length_set, List.length_set]; exact h.len, fun d v l' hv hl' => ?_, h.bg, fun d v hv => ?_, fun d e v v' k hv hv' hk hk' => ?_⟩
  · by_cases e : c = d
    · subst e
      rw [List.getElem?_set_self hcl] at hv
      rw [List.getElem?_set_self hcp] at hl'
      cases hv
      cases hl'
      exact ho.keep fun k hk => keep k (by have := hf k hk; omega)
    · rw [List.getElem?_set_ne e] at hv hl'
      have ho' := (h.li d v l' hv hl').below' hb
      exact ho'.keep fun k hk => keep k (fun e' => by subst e'; exact h.ne d v hv hk)
  · by_cases e : c = d
    · subst e
      rw [List.getElem?_set_self hcl] at hv
      cases hv
      exact fun e => by have := hf g e; omega
    · rw [List.getElem?_set_ne e] at hv
      exact h.ne d v hv
  · by_cases e1 : c = d
    · by_cases e2 : c = e
      · omega
      · subst e1
        rw [List.getElem?_set_self hcl] at hv
        rw [List.getElem?_set_ne e2] at hv'
        cases hv
        have h1 := hf k hk
        have h2 := hlts e v' k hv' hk'
        omega
    · by_cases e2 : c = e
      · subst e2
        rw [List.getElem?_set_self hcl] at hv'
        rw [List.getElem?_set_ne e1] at hv
        cases hv'
        have h1 := hf k hk'
        have h2 := hlts d v k hv hk
        omega
      · rw [List.getElem?_set_ne e1] at hv
        rw [List.getElem?_set_ne e2] at hv'
        exact h.dj d e v v' k hv hv' hk hk'
/-- a copy, as far as its first lists are laid -/
def cpk (p : List (List Int)) (c : Nat) : List (List Int) := p.take c ++ List.replicate (p.length - c) []
theorem cpk_zero (p : List (List Int)) : cpk p 0 = List.replicate p.length [] := by unfold cpk; simp
theorem cpk_end (p : List (List Int)) : cpk p p.length = p := by unfold cpk; simp
theorem cpk_length {p : List (List Int)} {c : Nat} (h : c ≤ p.length) : (cpk p c).length = p.length := by unfold cpk; simp; omega
theorem cpk_succ {p : List (List Int)} {c : Nat} {l : List Int} (h : p[c]? = some l) : (cpk p c).set c l = cpk p (c + 1) := by
  have hc : c < p.length := (List.getElem?_eq_some_iff.1 h).1
  unfold cpk
  rw [List.set_append_right _ _ (by rw [List.length_take]; omega), List.length_take, show c - min c p.length = 0 by omega, show p.length - c = (p.length - (c + 1)) + 1 by omega, List.replicate_succ, List.set_cons_zero, take_snoc h, List.append_assoc]
  rfl
end
section
variable {s : Sn} {B : Nat}
/-- one mark for each node -/
theorem vis_ml : ∀ (f k : Nat) (b : List (List Int)) (st : List Bool) (x : Sx), x.marks.length = x.nodes → (vis s B f k b st x).marks.length = (vis s B f k b st x).nodes
  | 0, _, _, _, _, h => h
  | f + 1, k, b, st, x, h => by
    show (vst s B (vis s B f) k b st x).marks.length = (vst s B (vis s B f) k b st x).nodes
    have hs : ∀ (m : Nat), (x.marks ++ [m]).length = x.nodes + 1 := fun m => by rw [List.length_append, h]; rfl
    unfold vst
    by_cases h1 : x.ended = true
    · rw [if_pos h1]; exact h
    · rw [if_neg h1]
      by_cases h2 : x.nodes = B
      · rw [if_pos h2]; exact h
      · rw [if_neg h2]
        by_cases h3 : lfs s st = []
        · rw [if_pos h3]
          by_cases h4 : RM.cst s.st s.ws s.cs b < x.cost
          · rw [if_pos h4]; exact hs 2
          · rw [if_neg h4]; exact hs 2
        · rw [if_neg h3]
          by_cases h5 : x.cost ≤ lsv s k b st
          · rw [if_pos h5]; exact hs 0
          · rw [if_neg h5]
            have hk := kids_rel (s := s) (R := fun x y => x.marks.length = x.nodes → y.marks.length = y.nodes) (fun _ h => h) (fun _ _ _ h g e => g (h e)) (go := vis s B f) (k := k) (b := b) (st := st) (lfs s st) (fun w _ _ y => vis_ml f k _ _ y) ⟨x.nodes + 1, false, x.plan, x.cost, x.marks ++ [1]⟩ (hs 1)
            unfold nxt
            split
            · exact vis_ml f (k + 1) b st _ hk
            · exact hk
end
end Go.Proofs.Ytagmidolcdefiah

/- Nodes in memory. -/
namespace Go.Proofs.Ytagmidolcdefiah
open Go.RowKit Go.Shelf
/-- which wants stand, in 128 places -/
def pad (st : List Bool) : List Bool := (st ++ List.replicate 128 false).take 128
theorem pad_length (st : List Bool) : (pad st).length = 128 := by unfold pad; rw [List.length_take, List.length_append, List.length_replicate]; omega
theorem pad_get {st : List Bool} {w : Nat} {q : Bool} (hl : st.length ≤ 128) (h : st[w]? = some q) : (pad st)[w]? = some q := by
  have hw : w < st.length := (List.getElem?_eq_some_iff.1 h).1
  unfold pad
  rw [List.getElem?_take, if_pos (by omega), List.getElem?_append_left hw, h]
theorem pad_set {st : List Bool} {w : Nat} (hw : w < st.length) : (pad st).set w true = pad (st.set w true) := by
  unfold pad
  rw [← List.take_set, List.set_append_left _ _ hw]
theorem pad_rep (n : Nat) (hn : n ≤ 128) : pad (List.replicate n false) = List.replicate 128 false := by
  unfold pad
  rw [List.replicate_append_replicate, List.take_replicate, show min 128 (n + 128) = 128 by omega]
/-- a node's cells -/
def ncl (s : Sn) (pa : Option Addr) (wt : Int) (n : Nn) : List Value := [.pointer pa, .int .i64 (n.k : Int), .int .i64 wt, .int .i64 (sat s n).fl, .int .i64 (sat s n).he, .int .i64 (sat s n).le, .int .i64 (RM.cst s.st s.ws s.cs n.b), .int .i64 ((PM.lf n.st : Nat) : Int)] ++ (pad n.st).map Value.bool
theorem ncl_length (s : Sn) (pa : Option Addr) (wt : Int) (n : Nn) : (ncl s pa wt n).length = 136 := by unfold ncl; rw [List.length_append, List.length_map, pad_length]; rfl
theorem ncl_one (s : Sn) (pa : Option Addr) (wt : Int) (n : Nn) : ∀ u ∈ ncl s pa wt n, u.oneCell' = true := fun u hu => by
  unfold ncl at hu
  rcases List.mem_append.1 hu with hu | hu
  · simp only [List.mem_cons, List.not_mem_nil, or_false] at hu
    rcases hu with rfl | rfl | rfl | rfl | rfl | rfl | rfl | rfl <;> rfl
  · obtain ⟨b, _, rfl⟩ := List.mem_map.1 hu
    rfl
theorem ncl_st {s : Sn} {pa : Option Addr} {wt : Int} {n : Nn} {w : Nat} {q : Bool} (hl : n.st.length ≤ 128) (h : n.st[w]? = some q) : (ncl s pa wt n)[8 + w]? = some (.bool q) := by
  unfold ncl
  rw [List.getElem?_append_right (by simp)]
  simp only [List.length_cons, List.length_nil, Nat.reduceAdd, Nat.add_sub_cancel_left, List.getElem?_map, pad_get hl h, Option.map_some]
theorem infoN : (Try.prog.info? 97).map (·.size) = some 136 := by kernel_rfl
/-- the node that is nothing -/
def zn : List Value := [.pointer none, .int .i64 0, .int .i64 0, .int .i64 0, .int .i64 0, .int .i64 0, .int .i64 0, .int .i64 0] ++ List.replicate 128 (.bool false)
theorem zn_length : zn.length = 136 := by unfold zn; rw [List.length_append, List.length_replicate]; rfl
theorem infoNz : (Try.prog.info? 97).map (fun i => (i.zero, i.size, i.bytes)) = some (some (.agg zn.toArray), 136, 192) := by kernel_rfl
/-- a block that holds a node, or what is to be one -/
def NK (W : World) (q : Nat) (cs : List Value) : Prop := cs.length = 136 ∧ W.heap[q]? = some (.cells cs.toArray 97 (0, 0))
section
variable {W W' : World} {q : Nat} {cs : List Value}
theorem NK.lt (h : NK W q cs) : q < W.heap.size := (Array.getElem?_eq_some_iff.1 h.2).1
theorem NK.keep (h : NK W q cs) (hk : W'.heap[q]? = W.heap[q]?) : NK W' q cs := ⟨h.1, hk.trans h.2⟩
theorem NK.below' (h : NK W q cs) (hb : Below W.heap.size W W') : NK W' q cs := h.keep (hb.block q h.lt)
theorem NK.cell (h : NK W q cs) (i : Nat) : W.cell? ⟨q, i, none⟩ = cs[i]? := blk_cell h.2 i
theorem NK.fr (h : NK W q cs) (i : Nat) : W.frozen? ⟨q, i, none⟩ = false := blk_fr h.2 i
theorem NK.range (h : NK W q cs) : W.rangeAt q 0 cs := fun j v hv => by rw [Nat.zero_add, h.cell, hv]
theorem NK.put (h : NK W q cs) (i : Nat) (v : Value) : NK (W.setCell ⟨q, i, none⟩ v) q (cs.set i v) := ⟨by rw [List.length_set]; exact h.1, blk_set h.2 i v⟩
theorem NK.new (W : World) (hl : cs.length = 136) : NK (W.alloc (.cells cs.toArray 97)) W.heap.size cs := ⟨hl, World.alloc_heap_new W _⟩
theorem NK.kp {G : Nat → Prop} (h : NK W q cs) (k : Kp G W W') (hG : ¬ G q) : NK W' q cs := h.keep (k.block q h.lt hG)
end
theorem loadN (w : World) (b o : Nat) (cs : List Value) (hl : cs.length = 136) (h : w.rangeAt b o cs) :
    (Instr.loadAt 97 (.pointer (some ⟨b, o, none⟩))).run Try.prog w = .ok (.agg cs.toArray) w :=
  run_loadAt_mid (P := Try.prog) w b o 97 cs _ h Try.underlying97 rfl (by rw [hl]; exact infoN)
/-- a whole node is read -/
theorem wpList_loadN {ops : Array Oper} {rest : List Oper} {op : Oper} {a : Act} {w : World} {Q : Exit → Act → World → Prop} (hgd : Region.wanted op (yielded ops a.tmps) = true) (x : Operand) (ho : op.op = .load 97 x)
    (b o : Nat) (cs : List Value) (hl : cs.length = 136) (hx : a.eval x = .pointer (some ⟨b, o, none⟩)) (hr : w.rangeAt b o cs)
    (h : wpList Try.prog ops Q rest (a.put op.dst (.agg cs.toArray)) w) : wpList Try.prog ops Q (op :: rest) a w :=
  wpList_step fun _ hK => by
    rw [if_pos hgd]
    unfold Oper.wp execOp
    simp only [ho, Sem.run_bind, Sem.run_pure, Result.andThen_ok, hx, loadN w b o cs hl hr]
    exact hK _ _ h
theorem calm_loadN {W0 : World} {K : Act → Prop} {o : Oper} {a : Act} (x : Operand) (b f : Nat) (cs : List Value) (hl : cs.length = 136) (ho : o.op = .load 97 x) (hx : a.eval x = .pointer (some ⟨b, f, none⟩)) (hr : ∀ w, Below W0.heap.size W0 w → w.rangeAt b f cs)
    (h : K (a.put o.dst (.agg cs.toArray))) : Oper.calm Try.prog W0 o a K :=
  calm_val _ (fun w hw => by unfold execOp; simp only [ho, hx, Sem.run_bind, Sem.run_pure, Result.andThen_ok, loadN w b f cs hl (hr w hw)]) h
/-- a whole node is written -/
theorem wpList_storeN {ops : Array Oper} {rest : List Oper} {op : Oper} {a : Act} {w : World} {Q : Exit → Act → World → Prop} (hgd : op.guard = none) (x y : Operand) (ho : op.op = .store 97 x y)
    (b : Nat) {old cs : List Value} (hx : a.eval x = .pointer (some ⟨b, 0, none⟩)) (hy : a.eval y = .agg cs.toArray) (hL : NK w b old) (hl : cs.length = 136) (h1 : ∀ u ∈ cs, u.oneCell' = true)
    (hn : ∀ W', Kp (fun k => k = b) w W' → W'.heap.size = w.heap.size → NK W' b cs → wpList Try.prog ops Q rest (a.put op.dst undef) W') : wpList Try.prog ops Q (op :: rest) a w :=
  wpList_store_row hgd 97 x y ho b _ hx hy _ _ hL.2 (by rw [List.size_toArray, hl]; exact infoN) (by rw [List.size_toArray, List.size_toArray, hl, hL.1]) (all_oneCell_toArray h1) (hn _ (kp_row b w _) (by simp) ⟨hl, setRow_heap w b _ _ _ _ hL.2⟩)
/-- a new node -/
theorem run_allocN (w : World) : (Instr.alloc 97 true (.tuple #[])).run Try.prog w = .ok (.pointer (some ⟨w.heap.size, 0, none⟩)) (w.alloc (.cells zn.toArray 97)) := by
  obtain ⟨i0, hi, hz0, hz1, hz2⟩ := info_parts infoNz
  simp [Instr.alloc, zeroValue, typeInfo, hi, hz0, newVar, newRow, Value.cells]
theorem wpList_allocN {ops : Array Oper} {rest : List Oper} {op : Oper} {a : Act} {w : World} {Q : Exit → Act → World → Prop} (hgd : op.guard = none) (ho : op.op = .alloc 97)
    (hn : wpList Try.prog ops Q rest (a.put op.dst (.pointer (some ⟨w.heap.size, 0, none⟩))) (w.alloc (.cells zn.toArray 97))) : wpList Try.prog ops Q (op :: rest) a w :=
  wpList_plain hgd fun _ hK => by
    unfold Oper.wp execOp
    simp only [ho, Sem.run_bind, Sem.run_pure, Result.andThen_ok, run_allocN]
    exact hK _ _ hn
theorem retN {fn : Func} {t : Tmp} (hf : fn.results = #[.cell t 97]) {tmps : Array Value} {w : World} {b : Nat} {cs : List Value} (hp : tmps.getD t undef = .pointer (some ⟨b, 0, none⟩)) (hC : NK w b cs) :
    (results fn tmps).run Try.prog w = .ok (.agg cs.toArray) w :=
  results_cell_row hf tmps w b _ _ _ _ hp hC.2 Try.underlying97 rfl (by rw [List.size_toArray, hC.1]; exact infoN)
/-- a node that waits: its parent, its want -/
structure En where
  pa : Option Addr
  wt : Int
  nd : Nn
def En.c (s : Sn) (e : En) : List Value := ncl s e.pa e.wt e.nd
theorem En.len (s : Sn) (e : En) : (e.c s).length = 136 := ncl_length _ _ _ _
def nrow (s : Sn) : List En → List Value
  | [] => []
  | e :: L => e.c s ++ nrow s L
section
variable {s : Sn}
theorem nrow_length : ∀ (L : List En), (nrow s L).length = L.length * 136
  | [] => rfl
  | e :: L => by rw [nrow, List.length_append, En.len, nrow_length L, List.length_cons]; omega
theorem nrow_append : ∀ (L M : List En), nrow s (L ++ M) = nrow s L ++ nrow s M
  | [], M => rfl
  | e :: L, M => by rw [List.cons_append, nrow, nrow_append L M, nrow, List.append_assoc]
theorem nrow_one (e : En) : nrow s [e] = e.c s := by rw [nrow, nrow, List.append_nil]
theorem nrow_get : ∀ {L : List En} {j : Nat} {e : En}, L[j]? = some e → ∀ i, i < 136 → (nrow s L)[j * 136 + i]? = (e.c s)[i]?
  | [], _, _, h, _, _ => by simp at h
  | a :: L, 0, e, h, i, hi => by
    simp at h; subst h
    rw [nrow, Nat.zero_mul, Nat.zero_add, List.getElem?_append_left (by rw [En.len]; exact hi)]
  | a :: L, j + 1, e, h, i, hi => by
    rw [nrow, List.getElem?_append_right (by rw [En.len]; omega), En.len, show (j + 1) * 136 + i - 136 = j * 136 + i by omega]
    exact nrow_get (by simpa using h) i hi
end
/-- a row of nodes that is owned -/
def ON (s : Sn) (W : World) (B : Nat) (v : Value) (L : List En) : Prop := W.ownsRow B 97 136 v L.length (nrow s L)
section
variable {s : Sn} {W W' : World} {B : Nat} {v : Value} {L : List En}
theorem ON.form (h : ON s W B v L) : (v = .slice none 0 0 ∧ L = []) ∨ ∃ g cap, v = .slice (some ⟨g, 0, none⟩) L.length cap ∧ B ≤ g ∧ g < W.heap.size ∧ L.length ≤ cap ∧ cap ≤ maxLen := by
  rcases h.2 with ⟨h1, h2⟩ | ⟨g, cap, cur, hv, hb, hg, hc, hm, _⟩
  · exact .inl ⟨h1, List.length_eq_zero_iff.1 h2⟩
  · exact .inr ⟨g, cap, hv, hb, (Array.getElem?_eq_some_iff.1 hg).1, hc, hm⟩
theorem ON.slice (h : ON s W B v L) : ∃ a c, v = .slice a L.length c := by
  rcases h.form with ⟨rfl, rfl⟩ | ⟨g, cap, rfl, _⟩
  · exact ⟨none, 0, rfl⟩
  · exact ⟨_, cap, rfl⟩
theorem ON.lt (h : ON s W B v L) : ∀ g, v.ownBlock = some g → B ≤ g ∧ g < W.heap.size := World.ownsRow.lt h
theorem ON.keep (h : ON s W B v L) (hk : ∀ g, v.ownBlock = some g → W'.heap[g]? = W.heap[g]?) : ON s W' B v L := by
  refine ⟨h.1, ?_⟩
  rcases h.2 with h2 | ⟨g, cap, cur, hv, hb, hg, r⟩
  · exact .inl h2
  · exact .inr ⟨g, cap, cur, hv, hb, (hk g (by rw [hv]; rfl)).trans hg, r⟩
theorem ON.below' (h : ON s W B v L) (hb : Below W.heap.size W W') : ON s W' B v L := h.keep fun g hg => hb.block g (h.lt g hg).2
theorem ON.range {g cap n : Nat} (h : ON s W B (.slice (some ⟨g, 0, none⟩) n cap) L) {j : Nat} {e : En} (hj : L[j]? = some e) : W.rangeAt g (j * 136) (e.c s) := fun i v hv => by
  have hi : i < 136 := by have := (List.getElem?_eq_some_iff.1 hv).1; rwa [En.len] at this
  have := World.ownsRow.cells h (g := g) rfl (j * 136 + i) v (by rw [nrow_get hj i hi]; exact hv)
  rwa [Addr.add_mid, Nat.zero_add] at this
theorem ON.fr {g cap n : Nat} (h : ON s W B (.slice (some ⟨g, 0, none⟩) n cap) L) (j : Nat) : W.frozen? ⟨g, j, none⟩ = false := by
  rcases h.form with ⟨e, _⟩ | ⟨g', c', e, _⟩
  · cases e
  · cases e
    exact World.ownsRow.frozenAt h j
/-- the last one is taken off -/
theorem ON.pop {g cap n : Nat} {e : En} (h : ON s W B (.slice (some ⟨g, 0, none⟩) n cap) (L ++ [e])) : ON s W B (.slice (some ⟨g, 0, none⟩) L.length cap) L := by
  rcases h.2 with ⟨e, _⟩ | ⟨g', cap', cur, hv, hb, hg, hc, hm, hs, ht⟩
  · cases e
  · cases hv
    rw [List.length_append] at hc ht
    refine ⟨nrow_length L, .inr ⟨g, cap, cur, rfl, hb, hg, by omega, hm, hs, ?_⟩⟩
    have := congrArg (List.take (L.length * 136)) ht
    rw [List.take_take, show min (L.length * 136) ((L.length + [e].length) * 136) = L.length * 136 by rw [Nat.add_mul]; omega] at this
    rw [this, nrow_append, List.take_left' (nrow_length L)]
end
/-- a slice of one node -/
theorem built1N (cs : List Value) (hl : cs.length = 136) : Try.prog.builtSlice 97 1 [(0, .agg cs.toArray)] = some cs.toArray := by
  obtain ⟨i0, hi, hz0, hz1, hz2⟩ := info_parts infoNz
  unfold Program.builtSlice
  rw [hi]
  simp only [hz0, hz1]
  rw [if_neg (by omega)]
  have := Great.fill_whole (s := 136) (by omega) [Value.agg cs.toArray] ((Array.range (1 * 136)).map ((Value.agg zn.toArray).cells[· % (Value.agg zn.toArray).cells.size]!)) (fun v hv => by simp at hv; subst hv; simp [Value.cells, hl]) (by simp)
  simpa [Value.cells] using this
theorem wpList_build1N {ops : Array Oper} {rest : List Oper} {o : Oper} {a : Act} {w : World} {Q : Exit → Act → World → Prop} (hg : o.guard = none) (x : Operand) (ho : o.op = .buildSlice 99 1 #[(0, x)]) (cs : List Value) (hl : cs.length = 136) (hx : a.eval x = .agg cs.toArray)
    (h : wpList Try.prog ops Q rest (a.put o.dst (.slice (some ⟨w.heap.size, 0, none⟩) 1 1)) (w.alloc (.cells cs.toArray 97))) : wpList Try.prog ops Q (o :: rest) a w :=
  Great.wpList_buildSliceTo hg 99 97 1 _ ho w.heap.size rfl o.dst rfl Try.underlying99 cs.toArray (by simp only [List.map_toArray, List.map_cons, List.map_nil, hx]; exact built1N cs hl) h
end Go.Proofs.Ytagmidolcdefiah

/- Small laws on reading rows of rows, wants and cars. -/
namespace Go.Proofs.Ytagmidolcdefiah
open Go.RowKit Go.Shelf
section
variable {W0 : World} {K : Act → Prop} {o : Oper} {a : Act}
theorem loadBH (w : World) (b k : Nat) (v : Value) (h : w.cell? ⟨b, k, none⟩ = some v) : (Instr.loadAt 31 (.pointer (some ⟨b, k, none⟩))).run Try.prog w = .ok v w := by simp [go_sem, h]
theorem calm_loadBH (x : Operand) (b k : Nat) {v : Value} (ho : o.op = .load 31 x) (hx : a.eval x = .pointer (some ⟨b, k, none⟩)) (hr : ∀ w, Below W0.heap.size W0 w → w.cell? ⟨b, k, none⟩ = some v)
    (h : K (a.put o.dst v)) : Oper.calm Try.prog W0 o a K :=
  calm_val _ (fun w hw => by unfold execOp; simp only [ho, hx, Sem.run_bind, Sem.run_pure, Result.andThen_ok, loadBH w b k v (hr w hw)]) h
theorem ixBh (W : World) {a : Option Addr} {g o n cap j : Nat} (ha : a = some ⟨g, o, none⟩) (hj : j < n) : (Instr.indexAt 31 (.slice a n cap) (.int .i64 (j : Int))).run Try.prog W = .ok (.pointer (some ⟨g, o + j, none⟩)) W := by
  subst ha
  rw [run_indexAt_slice W 31 _ n cap .i64 j (by kernel_rfl), if_pos ⟨by omega, by omega⟩, show Try.prog.elem 31 = 55 by kernel_rfl, Try.sizeOf55]
  simp only [Result.andThen_ok, Int.toNat_natCast, Addr.add_mid, Nat.mul_one]
theorem calm_ixB (x y : Operand) {g f n cap j : Nat} (ho : o.op = .indexAddr 31 x y) (hx : a.eval x = .slice (some ⟨g, f, none⟩) n cap) (hy : a.eval y = .int .i64 (j : Int)) (hj : j < n)
    (h : K (a.put o.dst (.pointer (some ⟨g, f + j, none⟩)))) : Oper.calm Try.prog W0 o a K :=
  calm_val _ (fun w hw => by unfold execOp; simp only [ho, hx, hy, Sem.run_bind, Sem.run_pure, Result.andThen_ok, ixBh w rfl hj]) h
end
end Go.Proofs.Ytagmidolcdefiah

/- A check's ways, nodes and tree, in memory. -/
namespace Go.Proofs.Ytagmidolcdefiah
open Go.RowKit Go.Shelf
/-- ways, cell by cell -/
def wcs : List RM.Sp → List Value
  | [] => []
  | a :: l => .int .i64 a.fl :: .int .i64 a.he :: .int .i64 a.le :: wcs l
theorem wcs_length : ∀ (l : List RM.Sp), (wcs l).length = l.length * 3
  | [] => rfl
  | a :: l => by rw [wcs, List.length_cons, List.length_cons, List.length_cons, wcs_length l, List.length_cons]; omega
theorem wcs_get : ∀ {l : List RM.Sp} {i : Nat} {a : RM.Sp}, l[i]? = some a → (wcs l)[i * 3]? = some (.int .i64 a.fl) ∧ (wcs l)[i * 3 + 1]? = some (.int .i64 a.he) ∧ (wcs l)[i * 3 + 2]? = some (.int .i64 a.le)
  | [], _, _, h => by simp at h
  | x :: l, 0, a, h => by simp at h; subst h; exact ⟨rfl, rfl, rfl⟩
  | x :: l, i + 1, a, h => by
    have := wcs_get (l := l) (i := i) (a := a) (by simpa using h)
    rw [show (i + 1) * 3 = i * 3 + 1 + 1 + 1 by omega]
    exact this
theorem wcs_set : ∀ (l : List RM.Sp) (i : Nat) (a : RM.Sp), (((wcs l).set (i * 3) (.int .i64 a.fl)).set (i * 3 + 1) (.int .i64 a.he)).set (i * 3 + 2) (.int .i64 a.le) = wcs (l.set i a)
  | [], _, _ => by simp [wcs]
  | x :: l, 0, a => rfl
  | x :: l, i + 1, a => by
    rw [List.set_cons_succ, wcs, wcs, ← wcs_set l i a, show (i + 1) * 3 = i * 3 + 1 + 1 + 1 by omega]
    rfl
theorem wcs_one (l : List RM.Sp) : ∀ u ∈ wcs l, u.oneCell' = true := by
  induction l with
  | nil => intro u hu; simp [wcs] at hu
  | cons a l ih =>
    intro u hu
    simp only [wcs, List.mem_cons] at hu
    rcases hu with rfl | rfl | rfl | hu
    · rfl
    · rfl
    · rfl
    · exact ih u hu
def w0 : RM.Sp := ⟨0, 0, 0⟩
theorem wcs_rep : ∀ (n : Nat), wcs (List.replicate n w0) = List.replicate (n * 3) (.int .i64 0)
  | 0 => rfl
  | n + 1 => by rw [List.replicate_succ, wcs, wcs_rep n, show (n + 1) * 3 = n * 3 + 1 + 1 + 1 by omega]; rfl
theorem infoV : (Try.prog.info? 156).map (·.size) = some 3 := by kernel_rfl
theorem infoVz : (Try.prog.info? 156).map (fun i => (i.zero, i.size, i.bytes)) = some (some (.agg #[.int .i64 0, .int .i64 0, .int .i64 0]), 3, 24) := by kernel_rfl
theorem mkV (n : Nat) (hn : n ≤ 1000) (W : World) : (Instr.makeSlice 125 (.int .i64 (n : Int)) (.int .i64 (n : Int))).run Try.prog W = .ok (.slice (some ⟨W.heap.size, 0, none⟩) n n) (W.alloc (.cells (wcs (List.replicate n w0)).toArray 156)) := by
  obtain ⟨i, hi, h1, h2, h3⟩ := info_parts infoVz
  have := run_make (P := Try.prog) W 125 156 i _ Try.underlying125 hi h1 .i64 .i64 (n : Int) (n : Int) (by omega) (by omega) (by
    have : (i.bytes : Int) * (n : Int) ≤ 24 * 1000 := Int.mul_le_mul (by omega) (by omega) (by omega) (by omega)
    omega) (by omega)
  have e : madeCells (Value.agg #[.int .i64 0, .int .i64 0, .int .i64 0]).cells (n * 3) = (wcs (List.replicate n w0)).toArray := by
    rw [wcs_rep]
    apply Array.ext
    · rw [size_madeCells]; simp
    · intro j h4 h5
      have : j % 3 = 0 ∨ j % 3 = 1 ∨ j % 3 = 2 := by omega
      simp only [madeCells, List.getElem_toArray, List.getElem_replicate, Array.getElem_map, Array.getElem_range, Value.cells]
      rcases this with e | e | e <;> simp [e]
  rw [this, h2, Int.toNat_natCast, e]
/-- a row of ways -/
def WR (W : World) (g : Nat) (l : List RM.Sp) : Prop := W.heap[g]? = some (.cells (wcs l).toArray 156 (0, 0))
section
variable {W W' : World} {g : Nat} {l : List RM.Sp}
theorem WR.lt (h : WR W g l) : g < W.heap.size := (Array.getElem?_eq_some_iff.1 h).1
theorem WR.keep (h : WR W g l) (hk : W'.heap[g]? = W.heap[g]?) : WR W' g l := hk.trans h
theorem WR.below' (h : WR W g l) (hb : Below W.heap.size W W') : WR W' g l := h.keep (hb.block g h.lt)
theorem WR.kp {G : Nat → Prop} (h : WR W g l) (k : Kp G W W') (hG : ¬ G g) : WR W' g l := h.keep (k.block g h.lt hG)
theorem WR.new (W : World) (l : List RM.Sp) : WR (W.alloc (.cells (wcs l).toArray 156)) W.heap.size l := World.alloc_heap_new W _
theorem WR.cells (h : WR W g l) {i : Nat} {a : RM.Sp} (hi : l[i]? = some a) : W.cell? ⟨g, i * 3, none⟩ = some (.int .i64 a.fl) ∧ W.cell? ⟨g, i * 3 + 1, none⟩ = some (.int .i64 a.he) ∧ W.cell? ⟨g, i * 3 + 2, none⟩ = some (.int .i64 a.le) := by
  obtain ⟨h1, h2, h3⟩ := wcs_get hi
  exact ⟨(blk_cell h _).trans h1, (blk_cell h _).trans h2, (blk_cell h _).trans h3⟩
theorem WR.range (h : WR W g l) {i : Nat} {a : RM.Sp} (hi : l[i]? = some a) : W.rangeAt g (i * 3) [.int .i64 a.fl, .int .i64 a.he, .int .i64 a.le] := fun j v hv => by
  obtain ⟨h1, h2, h3⟩ := h.cells hi
  match j, hv with
  | 0, hv => cases hv; exact h1
  | 1, hv => cases hv; exact h2
  | 2, hv => cases hv; exact h3
  | j + 3, hv => simp at hv
theorem WR.put (h : WR W g l) (i : Nat) (a : RM.Sp) : WR (((W.setCell ⟨g, i * 3, none⟩ (.int .i64 a.fl)).setCell ⟨g, i * 3 + 1, none⟩ (.int .i64 a.he)).setCell ⟨g, i * 3 + 2, none⟩ (.int .i64 a.le)) g (l.set i a) := by
  have h1 : W.heap[g]? = some (.cells (wcs l).toArray 156 (0, 0)) := h
  have := blk_set (blk_set (blk_set h1 (i * 3) (.int .i64 a.fl)) (i * 3 + 1) (.int .i64 a.he)) (i * 3 + 2) (.int .i64 a.le)
  rw [wcs_set] at this
  exact this
end
theorem loadV (w : World) (b f : Nat) (a : RM.Sp) (h : w.rangeAt b f [.int .i64 a.fl, .int .i64 a.he, .int .i64 a.le]) :
    (Instr.loadAt 156 (.pointer (some ⟨b, f, none⟩))).run Try.prog w = .ok (.agg #[.int .i64 a.fl, .int .i64 a.he, .int .i64 a.le]) w :=
  run_loadAt_mid (P := Try.prog) w b f 156 _ _ h Try.underlying156 rfl infoV
theorem ixV (W : World) {g n cap j : Nat} (hj : j < n) : (Instr.indexAt 125 (.slice (some ⟨g, 0, none⟩) n cap) (.int .i64 (j : Int))).run Try.prog W = .ok (.pointer (some ⟨g, j * 3, none⟩)) W := by
  rw [run_indexAt_slice W 125 _ n cap .i64 j (by kernel_rfl), if_pos ⟨by omega, by omega⟩, show Try.prog.elem 125 = 156 by kernel_rfl, Try.sizeOf156]
  simp only [Result.andThen_ok, Int.toNat_natCast, Addr.add_mid, Nat.zero_add]
theorem loadVs (w : World) (b k : Nat) (v : Value) (h : w.cell? ⟨b, k, none⟩ = some v) : (Instr.loadAt 125 (.pointer (some ⟨b, k, none⟩))).run Try.prog w = .ok v w := by simp [go_sem, h]
theorem loadWv (w : World) (b k : Nat) (v : Value) (h : w.cell? ⟨b, k, none⟩ = some v) : (Instr.loadAt 25 (.pointer (some ⟨b, k, none⟩))).run Try.prog w = .ok v w := by simp [go_sem, h]
section
variable {W0 : World} {K : Act → Prop} {o : Oper} {a : Act}
theorem calm_loadV (x : Operand) (b f : Nat) (z : RM.Sp) (ho : o.op = .load 156 x) (hx : a.eval x = .pointer (some ⟨b, f, none⟩)) (hr : ∀ w, Below W0.heap.size W0 w → w.rangeAt b f [.int .i64 z.fl, .int .i64 z.he, .int .i64 z.le])
    (h : K (a.put o.dst (.agg #[.int .i64 z.fl, .int .i64 z.he, .int .i64 z.le]))) : Oper.calm Try.prog W0 o a K :=
  calm_val _ (fun w hw => by unfold execOp; simp only [ho, hx, Sem.run_bind, Sem.run_pure, Result.andThen_ok, loadV w b f z (hr w hw)]) h
theorem calm_ixV (x y : Operand) {g n cap j : Nat} (ho : o.op = .indexAddr 125 x y) (hx : a.eval x = .slice (some ⟨g, 0, none⟩) n cap) (hy : a.eval y = .int .i64 (j : Int)) (hj : j < n)
    (h : K (a.put o.dst (.pointer (some ⟨g, j * 3, none⟩)))) : Oper.calm Try.prog W0 o a K :=
  calm_val _ (fun w hw => by unfold execOp; simp only [ho, hx, hy, Sem.run_bind, Sem.run_pure, Result.andThen_ok, ixV w hj]) h
theorem calm_loadVs (x : Operand) (b k : Nat) {v : Value} (ho : o.op = .load 125 x) (hx : a.eval x = .pointer (some ⟨b, k, none⟩)) (hr : ∀ w, Below W0.heap.size W0 w → w.cell? ⟨b, k, none⟩ = some v)
    (h : K (a.put o.dst v)) : Oper.calm Try.prog W0 o a K :=
  calm_val _ (fun w hw => by unfold execOp; simp only [ho, hx, Sem.run_bind, Sem.run_pure, Result.andThen_ok, loadVs w b k v (hr w hw)]) h
theorem calm_loadWv (x : Operand) (b k : Nat) {v : Value} (ho : o.op = .load 25 x) (hx : a.eval x = .pointer (some ⟨b, k, none⟩)) (hr : ∀ w, Below W0.heap.size W0 w → w.cell? ⟨b, k, none⟩ = some v)
    (h : K (a.put o.dst v)) : Oper.calm Try.prog W0 o a K :=
  calm_val _ (fun w hw => by unfold execOp; simp only [ho, hx, Sem.run_bind, Sem.run_pure, Result.andThen_ok, loadWv w b k v (hr w hw)]) h
theorem calm_ixWv (x y : Operand) {g f n cap j : Nat} (ho : o.op = .indexAddr 25 x y) (hx : a.eval x = .slice (some ⟨g, f, none⟩) n cap) (hy : a.eval y = .int .i64 (j : Int)) (hj : j < n)
    (h : K (a.put o.dst (.pointer (some ⟨g, f + j * 2, none⟩)))) : Oper.calm Try.prog W0 o a K :=
  calm_val _ (fun w hw => by unfold execOp; simp only [ho, hx, hy, Sem.run_bind, Sem.run_pure, Result.andThen_ok, ixW w rfl hj]) h
theorem calm_fieldV (x : Operand) {f h l : Int} (ho : o.op = .field 156 x 1) (hx : a.eval x = .agg #[.int .i64 f, .int .i64 h, .int .i64 l])
    (hK : K (a.put o.dst (.int .i64 h))) : Oper.calm Try.prog W0 o a K :=
  calm_val _ (fun w hw => by
    have hf : (Instr.field 156 (.agg #[.int .i64 f, .int .i64 h, .int .i64 l]) 1).run Try.prog w = .ok (.int .i64 h) w := by kernel_rfl
    unfold execOp
    simp only [ho, hx, Sem.run_bind, Sem.run_pure, Result.andThen_ok, hf]) hK
end
/-- a way is written into a row -/
theorem wpList_storeV {ops : Array Oper} {rest : List Oper} {op : Oper} {a : Act} {w : World} {Q : Exit → Act → World → Prop} (hgd : op.guard = none) (x y : Operand) (ho : op.op = .store 156 x y)
    (g i : Nat) (l : List RM.Sp) (hi : i < l.length) (z : RM.Sp) (hL : WR w g l) (hx : a.eval x = .pointer (some ⟨g, i * 3, none⟩)) (hy : a.eval y = .agg #[.int .i64 z.fl, .int .i64 z.he, .int .i64 z.le])
    (hn : ∀ W', Kp (fun k => k = g) w W' → WR W' g (l.set i z) → wpList Try.prog ops Q rest (a.put op.dst undef) W') : wpList Try.prog ops Q (op :: rest) a w := by
  obtain ⟨b, hb⟩ : ∃ b, l[i]? = some b := ⟨_, List.getElem?_eq_getElem hi⟩
  obtain ⟨h1, h2, h3⟩ := hL.cells hb
  refine wpList_store_mid hgd 156 x y ho g (i * 3) #[.int .i64 z.fl, .int .i64 z.he, .int .i64 z.le] hx hy (fun j hj => ?_) infoV (by simp [Value.oneCell']) ?_
  · refine ⟨?_, blk_fr hL _⟩
    have : j = 0 ∨ j = 1 ∨ j = 2 := by simp at hj; omega
    rcases this with rfl | rfl | rfl
    · rw [Nat.add_zero, h1]; rfl
    · rw [h2]; rfl
    · rw [h3]; rfl
  · exact hn _ ((((Kp.refl (fun k => k = g) w).set g _ _ (fun _ => rfl)).set g _ _ (fun _ => rfl)).set g _ _ (fun _ => rfl)) (hL.put i z)
/-- a block that holds a way -/
def VB (W : World) (b : Nat) (a : RM.Sp) : Prop := W.heap[b]? = some (.cells #[.int .i64 a.fl, .int .i64 a.he, .int .i64 a.le] 156 (0, 0))
section
variable {W W' : World} {b : Nat} {a : RM.Sp}
theorem VB.lt (H : VB W b a) : b < W.heap.size := (Array.getElem?_eq_some_iff.1 H).1
theorem VB.cell (H : VB W b a) (i : Nat) : W.cell? ⟨b, i, none⟩ = [Value.int .i64 a.fl, .int .i64 a.he, .int .i64 a.le][i]? := blk_cell H i
theorem VB.below' (H : VB W b a) (hb : Below W.heap.size W W') : VB W' b a := (hb.block b H.lt).trans H
theorem VB.new (W : World) (a : RM.Sp) : VB (W.alloc (.cells #[.int .i64 a.fl, .int .i64 a.he, .int .i64 a.le] 156)) W.heap.size a := World.alloc_heap_new W _
end
theorem wpList_storeVb {ops : Array Oper} {rest : List Oper} {op : Oper} {a : Act} {w : World} {Q : Exit → Act → World → Prop} (hgd : op.guard = none) (x y : Operand) (ho : op.op = .store 156 x y)
    (b : Nat) {s : RM.Sp} {f h l : Int} (hx : a.eval x = .pointer (some ⟨b, 0, none⟩)) (hy : a.eval y = .agg #[.int .i64 f, .int .i64 h, .int .i64 l]) (hL : VB w b s)
    (hn : ∀ W', Kp (fun k => k = b) w W' → VB W' b ⟨f, h, l⟩ → wpList Try.prog ops Q rest (a.put op.dst undef) W') : wpList Try.prog ops Q (op :: rest) a w :=
  wpList_store_row hgd 156 x y ho b _ hx hy _ _ hL infoV rfl (by simp [Value.oneCell']) (hn _ (kp_row b w _) (setRow_heap w b _ _ _ _ hL))
theorem retV {fn : Func} {t : Tmp} (hf : fn.results = #[.cell t 156]) {tmps : Array Value} {w : World} {b : Nat} {a : RM.Sp} (hp : tmps.getD t undef = .pointer (some ⟨b, 0, none⟩)) (hC : VB w b a) :
    (results fn tmps).run Try.prog w = .ok (.agg #[.int .i64 a.fl, .int .i64 a.he, .int .i64 a.le]) w :=
  results_cell_row hf tmps w b _ _ _ _ hp hC Try.underlying156 rfl infoV
/-- a row of ways is copied whole -/
theorem run_copyV (w : World) (ty : TypeId) (g g' n : Nat) (A B : List RM.Sp) (hA : A.length = n) (hB : B.length = n) (h : WR w g B) (h' : WR w g' A) :
    (Builtin.copy_ #[125, 125] ty #[.slice (some ⟨g, 0, none⟩) n n, .slice (some ⟨g', 0, none⟩) n n]).run Try.prog w = .ok (goInt n) (w.setRow g (wcs A).toArray) := by
  obtain ⟨i, hi, hz0, hz1, hz2⟩ := info_parts infoVz
  have hl := run_loadCells_list (P := Try.prog) w ⟨g', 0, none⟩ (wcs A) (fun j v hv => by rw [Addr.add_mid, Nat.zero_add]; exact (blk_cell h' j).trans hv)
  have hst := run_storeCells_at Try.prog g 0 156 (wcs A) 0 (wcs B).toArray w h (by simp [wcs_length, hA, hB]) (wcs_one A)
  have e2 : (wcs B).drop (wcs A).length = [] := List.drop_eq_nil_of_le (by rw [wcs_length, wcs_length, hA, hB]; exact Nat.le_refl _)
  simp only [Nat.zero_add, List.take_zero, List.nil_append, e2, List.append_nil] at hst
  have hn : n * 3 = (wcs A).length := by rw [wcs_length, hA]
  simp [Builtin.copy_, run_underlying Try.underlying125, Builtin.lenOf, Builtin.firstCells, sizeOf, typeInfo, hi, hz1, hn, hl, hst]
theorem wpList_copyV {ops : Array Oper} {rest : List Oper} {o : Oper} {a : Act} {w : World} {Q : Exit → Act → World → Prop} (hgd : o.guard = none) (d s : Operand)
    (ho : o.op = .call { callee := .builtin .copy, args := #[d, s], argTypes := #[125, 125] }) (g g' n : Nat) (A B : List RM.Sp) (hA : A.length = n) (hB : B.length = n) (h : WR w g B) (h' : WR w g' A)
    (hd : a.eval d = .slice (some ⟨g, 0, none⟩) n n) (hs : a.eval s = .slice (some ⟨g', 0, none⟩) n n)
    (hn : ∀ W', Kp (fun k => k = g) w W' → WR W' g A → wpList Try.prog ops Q rest (a.put o.dst (goInt n)) W') : wpList Try.prog ops Q (o :: rest) a w := by
  refine wpList_plain hgd fun K hK => ?_
  have hrun := run_copyV w o.type g g' n A B hA hB h h'
  unfold Oper.wp
  simp [execOp, ho, resolve, invoke, builtin, hd, hs, hrun, Result.andThen]
  exact hK _ _ (hn _ (kp_row g w _) (setRow_heap w g _ _ _ _ h))
/-- a check's node, cell by cell -/
def knc (k : Int) (g n : Nat) (co lf : Int) (st : List Bool) : List Value := [.int .i64 k, .slice (some ⟨g, 0, none⟩) n n, .int .i64 co, .int .i64 lf] ++ st.map Value.bool
theorem knc_length {st : List Bool} (h : st.length = 128) (k : Int) (g n : Nat) (co lf : Int) : (knc k g n co lf st).length = 132 := by unfold knc; rw [List.length_append, List.length_map, h]; rfl
theorem knc_one (k : Int) (g n : Nat) (co lf : Int) (st : List Bool) : ∀ u ∈ knc k g n co lf st, u.oneCell' = true := fun u hu => by
  unfold knc at hu
  rcases List.mem_append.1 hu with hu | hu
  · simp only [List.mem_cons, List.not_mem_nil, or_false] at hu
    rcases hu with rfl | rfl | rfl | rfl <;> rfl
  · obtain ⟨b, _, rfl⟩ := List.mem_map.1 hu
    rfl
theorem knc_at {k : Int} {g n : Nat} {co lf : Int} {st : List Bool} {w : Nat} {q : Bool} (h : st[w]? = some q) : (knc k g n co lf st)[4 + w]? = some (.bool q) := by
  unfold knc
  rw [List.getElem?_append_right (by simp)]
  simp [h]
theorem knc_set (k : Int) (g n : Nat) (co lf : Int) (st : List Bool) (w : Nat) : (knc k g n co lf st).set (4 + w) (.bool true) = knc k g n co lf (st.set w true) := by
  unfold knc
  rw [List.set_append_right _ _ (by simp), List.map_set]
  simp
/-- the cells of a node -/
def kc (s : Sn) (n : Nn) (g : Nat) : List Value := knc (n.k : Int) g s.cs.length (RM.cst s.st s.ws s.cs n.b) ((PM.lf n.st : Nat) : Int) (pad n.st)
theorem kc_length (s : Sn) (n : Nn) (g : Nat) : (kc s n g).length = 132 := knc_length (pad_length _) _ _ _ _ _
theorem infoK : (Try.prog.info? 127).map (·.size) = some 132 := by kernel_rfl
def zk : List Value := [.int .i64 0, .slice none 0 0, .int .i64 0, .int .i64 0] ++ List.replicate 128 (.bool false)
theorem zk_length : zk.length = 132 := by unfold zk; rw [List.length_append, List.length_replicate]; rfl
theorem infoKz : (Try.prog.info? 127).map (fun i => (i.zero, i.size, i.bytes)) = some (some (.agg zk.toArray), 132, 176) := by kernel_rfl
def KN (W : World) (q : Nat) (cs : List Value) : Prop := cs.length = 132 ∧ W.heap[q]? = some (.cells cs.toArray 127 (0, 0))
section
variable {W W' : World} {q : Nat} {cs : List Value}
theorem KN.lt (h : KN W q cs) : q < W.heap.size := (Array.getElem?_eq_some_iff.1 h.2).1
theorem KN.keep (h : KN W q cs) (hk : W'.heap[q]? = W.heap[q]?) : KN W' q cs := ⟨h.1, hk.trans h.2⟩
theorem KN.below' (h : KN W q cs) (hb : Below W.heap.size W W') : KN W' q cs := h.keep (hb.block q h.lt)
theorem KN.kp {G : Nat → Prop} (h : KN W q cs) (k : Kp G W W') (hG : ¬ G q) : KN W' q cs := h.keep (k.block q h.lt hG)
theorem KN.cell (h : KN W q cs) (i : Nat) : W.cell? ⟨q, i, none⟩ = cs[i]? := blk_cell h.2 i
theorem KN.fr (h : KN W q cs) (i : Nat) : W.frozen? ⟨q, i, none⟩ = false := blk_fr h.2 i
theorem KN.range (h : KN W q cs) : W.rangeAt q 0 cs := fun j v hv => by rw [Nat.zero_add, h.cell, hv]
theorem KN.put (h : KN W q cs) (i : Nat) (v : Value) : KN (W.setCell ⟨q, i, none⟩ v) q (cs.set i v) := ⟨by rw [List.length_set]; exact h.1, blk_set h.2 i v⟩
theorem KN.new (W : World) (hl : cs.length = 132) : KN (W.alloc (.cells cs.toArray 127)) W.heap.size cs := ⟨hl, World.alloc_heap_new W _⟩
end
theorem loadK (w : World) (b : Nat) (cs : List Value) (h : KN w b cs) : (Instr.loadAt 127 (.pointer (some ⟨b, 0, none⟩))).run Try.prog w = .ok (.agg cs.toArray) w :=
  run_loadAt_mid (P := Try.prog) w b 0 127 cs _ h.range Try.underlying127 rfl (by rw [h.1]; exact infoK)
theorem wpList_loadK {ops : Array Oper} {rest : List Oper} {op : Oper} {a : Act} {w : World} {Q : Exit → Act → World → Prop} (hgd : Region.wanted op (yielded ops a.tmps) = true) (x : Operand) (ho : op.op = .load 127 x)
    (b : Nat) (cs : List Value) (hx : a.eval x = .pointer (some ⟨b, 0, none⟩)) (hr : KN w b cs)
    (h : wpList Try.prog ops Q rest (a.put op.dst (.agg cs.toArray)) w) : wpList Try.prog ops Q (op :: rest) a w :=
  wpList_step fun _ hK => by
    rw [if_pos hgd]
    unfold Oper.wp execOp
    simp only [ho, Sem.run_bind, Sem.run_pure, Result.andThen_ok, hx, loadK w b cs hr]
    exact hK _ _ h
theorem wpList_storeK {ops : Array Oper} {rest : List Oper} {op : Oper} {a : Act} {w : World} {Q : Exit → Act → World → Prop} (hgd : op.guard = none) (x y : Operand) (ho : op.op = .store 127 x y)
    (b : Nat) {old cs : List Value} (hx : a.eval x = .pointer (some ⟨b, 0, none⟩)) (hy : a.eval y = .agg cs.toArray) (hL : KN w b old) (hl : cs.length = 132) (h1 : ∀ u ∈ cs, u.oneCell' = true)
    (hn : ∀ W', Kp (fun k => k = b) w W' → KN W' b cs → wpList Try.prog ops Q rest (a.put op.dst undef) W') : wpList Try.prog ops Q (op :: rest) a w :=
  wpList_store_row hgd 127 x y ho b _ hx hy _ _ hL.2 (by rw [List.size_toArray, hl]; exact infoK) (by rw [List.size_toArray, List.size_toArray, hl, hL.1]) (all_oneCell_toArray h1) (hn _ (kp_row b w _) ⟨hl, setRow_heap w b _ _ _ _ hL.2⟩)
theorem run_allocK (w : World) : (Instr.alloc 127 true (.tuple #[])).run Try.prog w = .ok (.pointer (some ⟨w.heap.size, 0, none⟩)) (w.alloc (.cells zk.toArray 127)) := by
  obtain ⟨i0, hi, hz0, hz1, hz2⟩ := info_parts infoKz
  simp [Instr.alloc, zeroValue, typeInfo, hi, hz0, newVar, newRow, Value.cells]
theorem wpList_allocK {ops : Array Oper} {rest : List Oper} {op : Oper} {a : Act} {w : World} {Q : Exit → Act → World → Prop} (hgd : op.guard = none) (ho : op.op = .alloc 127)
    (hn : wpList Try.prog ops Q rest (a.put op.dst (.pointer (some ⟨w.heap.size, 0, none⟩))) (w.alloc (.cells zk.toArray 127))) : wpList Try.prog ops Q (op :: rest) a w :=
  wpList_plain hgd fun _ hK => by
    unfold Oper.wp execOp
    simp only [ho, Sem.run_bind, Sem.run_pure, Result.andThen_ok, run_allocK]
    exact hK _ _ hn
theorem retK {fn : Func} {t : Tmp} (hf : fn.results = #[.cell t 127]) {tmps : Array Value} {w : World} {b : Nat} {cs : List Value} (hp : tmps.getD t undef = .pointer (some ⟨b, 0, none⟩)) (hC : KN w b cs) :
    (results fn tmps).run Try.prog w = .ok (.agg cs.toArray) w :=
  results_cell_row hf tmps w b _ _ _ _ hp hC.2 Try.underlying127 rfl (by rw [List.size_toArray, hC.1]; exact infoK)
/-- how long each way takes -/
def tbl (s : St) : List (List Int) := (List.range s.fl.toNat).map fun (i : Nat) => (List.range s.fl.toNat).map fun (j : Nat) => SM.trav s (i : Int) (j : Int)
theorem tbl_get {s : St} {i : Nat} (h : i < s.fl.toNat) : (tbl s)[i]? = some ((List.range s.fl.toNat).map fun (j : Nat) => SM.trav s (i : Int) (j : Int)) := by
  unfold tbl
  rw [List.getElem?_map, List.getElem?_range h]; rfl
theorem tbl_at {s : St} (i : Nat) {j : Nat} (h : j < s.fl.toNat) : ((List.range s.fl.toNat).map fun (j : Nat) => SM.trav s (i : Int) (j : Int))[j]? = some (SM.trav s (i : Int) (j : Int)) := by
  rw [List.getElem?_map, List.getElem?_range h]; rfl
/-- a check's tree in memory -/
def tcl2 (s : St) (vc vw vt : Value) : List Value := nv s vc vw ++ [vt, .int .i64 (RM.dw s)]
structure TC (D : Nat → Prop) (W : World) (tb : Nat) (s : Sn) (vc vw vt : Value) : Prop where
  hl : W.heap[tb]? = some (.cells (tcl2 s.st vc vw vt).toArray 124 (0, 0))
  td : D tb
  cs : R2 D W vc s.cs
  ws : R2 D W vw s.ws
  tt : RL D W vt (tbl s.st)
  rg : rgt s = true
section
variable {D D' : Nat → Prop} {W W' : World} {tb : Nat} {s : Sn} {vc vw vt : Value}
theorem TC.lt (h : TC D W tb s vc vw vt) : tb < W.heap.size := (Array.getElem?_eq_some_iff.1 h.hl).1
theorem TC.keep (h : TC D W tb s vc vw vt) (hs : W.heap.size ≤ W'.heap.size) (hk : ∀ g, D g → g < W.heap.size → W'.heap[g]? = W.heap[g]?) : TC D W' tb s vc vw vt :=
  ⟨(hk tb h.td h.lt).trans h.hl, h.td, h.cs.keep hs hk, h.ws.keep hs hk, h.tt.keep hs hk, h.rg⟩
theorem TC.mono (h : TC D W tb s vc vw vt) (hD : ∀ g, D g → g < W.heap.size → D' g) : TC D' W tb s vc vw vt :=
  ⟨h.hl, hD tb h.td h.lt, h.cs.mono fun g hg hl _ => hD g hg hl, h.ws.mono fun g hg hl _ => hD g hg hl, h.tt.mono fun g hg hl _ => hD g hg hl, h.rg⟩
theorem TC.below' (h : TC D W tb s vc vw vt) (hb : Below W.heap.size W W') : TC D W' tb s vc vw vt := h.keep hb.size fun g _ hl => hb.block g hl
theorem TC.kp {G : Nat → Prop} (h : TC D W tb s vc vw vt) (k : Kp G W W') (hG : ∀ g, D g → ¬ G g) : TC D W' tb s vc vw vt := h.keep k.size fun g hg hl => k.block g hl (hG g hg)
theorem TC.cell (h : TC D W tb s vc vw vt) (i : Nat) : W.cell? ⟨tb, i, none⟩ = (tcl2 s.st vc vw vt)[i]? := blk_cell h.hl i
theorem TC.c13 (h : TC D W tb s vc vw vt) : W.cell? ⟨tb, 13, none⟩ = some vc := h.cell 13
theorem TC.c14 (h : TC D W tb s vc vw vt) : W.cell? ⟨tb, 14, none⟩ = some vw := h.cell 14
theorem TC.c15 (h : TC D W tb s vc vw vt) : W.cell? ⟨tb, 15, none⟩ = some vt := h.cell 15
theorem TC.c16 (h : TC D W tb s vc vw vt) : W.cell? ⟨tb, 16, none⟩ = some (.int .i64 (RM.dw s.st)) := h.cell 16
/-- a travel in memory -/
theorem TC.trav (h : TC D W tb s vc vw vt) {i j : Nat} (hi : (i : Int) < s.st.fl) (hj : (j : Int) < s.st.fl) :
    ∃ g o cap, vt = .slice (some ⟨g, o, none⟩) s.st.fl.toNat cap ∧ ∃ g' o' cap', W.cell? ⟨g, o + i, none⟩ = some (.slice (some ⟨g', o', none⟩) s.st.fl.toNat cap') ∧ W.cell? ⟨g', o' + j, none⟩ = some (.int .i64 (SM.trav s.st (i : Int) (j : Int))) := by
  obtain ⟨a, cap, rfl, _, _⟩ := h.tt.form
  obtain ⟨g, o, rfl, u, hu, hri⟩ := h.tt.at (tbl_get (s := s.st) (i := i) (by omega))
  rw [show (tbl s.st).length = s.st.fl.toNat by unfold tbl; simp]
  obtain ⟨a', cap', rfl, _, _⟩ := hri.form
  obtain ⟨g', o', rfl, hc⟩ := hri.at (tbl_at i (j := j) (by omega))
  rw [List.length_map, List.length_range] at hu
  exact ⟨g, o, cap, rfl, g', o', cap', hu, hc⟩
end
end Go.Proofs.Ytagmidolcdefiah

/- A check's tree: the next stop of a car, and the node with the next car. -/
namespace Go.Proofs.Ytagmidolcdefiah
open Go.RowKit Go.Shelf
/-- may a car serve a want? -/
theorem khas_any (f : Int) (m c : Nat) (hc : c ≤ 64) (w : World) : Calls Try.prog 94 #[.agg #[.int .i64 f, .int .i64 (m : Int)], .int .i64 (c : Int)] w fun e w' => e = .returned (.bool (PM.bt m c)) ∧ Below w.heap.size w w' := by
  have hb := (Below.refl w.heap.size w).alloc (Nat.le_refl _) (.cells #[.int .i64 f, .int .i64 (m : Int)] 58)
  have hsh := shr_any m c hc
  have HE := Hid.intro' (bt_bits m c)
  go_enter Try.func94, Try.ntmps94
  go_wp2
  go_ret
  exact ⟨ret_bool HE.out, hb⟩
theorem vb_two (W : World) (a : RM.Sp) : VB ((W.alloc (.cells #[.int .i64 a.fl, .int .i64 a.he, .int .i64 a.le] 156)).alloc (.cells #[.int .i64 0, .int .i64 0, .int .i64 0] 156)) W.heap.size a ∧ VB ((W.alloc (.cells #[.int .i64 a.fl, .int .i64 a.he, .int .i64 a.le] 156)).alloc (.cells #[.int .i64 0, .int .i64 0, .int .i64 0] 156)) (W.heap.size + 1) w0 ∧ Below W.heap.size W ((W.alloc (.cells #[.int .i64 a.fl, .int .i64 a.he, .int .i64 a.le] 156)).alloc (.cells #[.int .i64 0, .int .i64 0, .int .i64 0] 156)) := by
  have h2 := VB.new (W.alloc (.cells #[.int .i64 a.fl, .int .i64 a.he, .int .i64 a.le] 156)) w0
  rw [World.size_alloc] at h2
  exact ⟨(VB.new W a).below' ((Below.refl _ _).alloc (Nat.le_refl _) _), h2, ((Below.refl W.heap.size W).alloc (Nat.le_refl _) _).alloc (by simp) _⟩
section
variable {D : Nat → Prop} {W : World} {tb : Nat} {s : Sn} {vc vw vt : Value}
set_option maxHeartbeats 2000000 in
theorem knext_same (fl he le : Int) (hh : he ≠ -1) (w : World) : Calls Try.prog 77 #[.pointer (some ⟨tb, 0, none⟩), .agg #[.int .i64 fl, .int .i64 he, .int .i64 le], .int .i64 fl] w fun e w' => e = .returned (.agg #[.int .i64 fl, .int .i64 he, .int .i64 le]) ∧ Below w.heap.size w w' := by
  obtain ⟨h1, h2, h3⟩ := vb_two w ⟨fl, he, le⟩
  have H2 := Hid.intro' h2
  have H3 := Hid.intro' h3
  have c0 := h1.cell 0
  have c1 := h1.cell 1
  have c2 := h1.cell 2
  have q1 : (he != -1) = true := by simpa using hh
  clear hh h1 h2 h3
  go_enter Try.func77, Try.ntmps77
  go_wp2_with (refine wpList_storeVb rfl _ _ rfl (w.heap.size + 1) rfl rfl H2.out ?_)
  intro W1 hk1 ht1
  have HK := Hid.intro' (And.intro hk1 ht1)
  clear hk1 ht1 c0 c1 c2
  go_wp2
  exact bodyPost_ret (retV Try.results77 rfl HK.out.2) rfl ⟨rfl, HK.out.1.below H3.out H3.out.size (fun i hi e => by omega)⟩
set_option maxRecDepth 100000 in
set_option maxHeartbeats 4000000 in
theorem knext_far (ht : TC D W tb s vc vw vt) (i j : Nat) (he le : Int) (hq : he = -1 ∨ (he ≠ -1 ∧ i ≠ j)) (hi : (i : Int) < s.st.fl) (hj : (j : Int) < s.st.fl) (l0 : 0 ≤ le) (l1 : le ≤ 100000000) :
    Calls Try.prog 77 #[.pointer (some ⟨tb, 0, none⟩), .agg #[.int .i64 (i : Int), .int .i64 he, .int .i64 le], .int .i64 (j : Int)] W fun e w' => e = .returned (.agg #[.int .i64 (j : Int), .int .i64 (le + SM.trav s.st (i : Int) (j : Int)), .int .i64 (le + SM.trav s.st (i : Int) (j : Int) + RM.dw s.st)]) ∧ Below W.heap.size W w' := by
  have rt := (rgt_rz ht.rg).rt
  have tbd := SM.trav_bd rt (i : Int) (j : Int)
  have dbd := RM.dw_bd rt
  obtain ⟨gt, ot, ct, rfl, gr, or, cr, hr1, hr2⟩ := ht.trav hi hj
  have hi' : i < s.st.fl.toNat := by omega
  have hj' : j < s.st.fl.toNat := by omega
  generalize SM.trav s.st (i : Int) (j : Int) = tr at tbd hr2 ⊢
  have hw1 : IntKind.i64.wrap (le + tr) = le + tr := IntWalk.i64_in _ (by omega)
  have hw2 : IntKind.i64.wrap (le + tr + RM.dw s.st) = le + tr + RM.dw s.st := IntWalk.i64_in _ (by omega)
  obtain ⟨h1, h2, h3⟩ := vb_two W ⟨(i : Int), he, le⟩
  have HA := Hid.intro' h1
  have HZ := Hid.intro' h2
  have HB := Hid.intro' h3
  have HT := Hid.intro' ht
  have HR := Hid.intro' (And.intro hr1 hr2)
  have c0 := h1.cell 0
  have c1 := h1.cell 1
  clear hr1 hr2 h1 h2 h3 ht tbd dbd rt hi hj l0 l1
  have hq2 : he = -1 ∨ ((he != -1) = true ∧ ((i : Int) == (j : Int)) = false) := by
    rcases hq with h | ⟨h, h'⟩
    · exact .inl h
    · exact .inr ⟨by simpa using h, by simp; omega⟩
  clear hq
  have HGO : Hid (∀ W2, Below W.heap.size W W2 → (VB W2 W.heap.size ⟨(i : Int), he, le⟩ ∧ VB W2 (W.heap.size + 1) w0) → ∀ w', Below W2.drew.heap.size W2.drew w' → w'.cell? ⟨W.heap.size, 0, none⟩ = some (.int .i64 (i : Int)) ∧ w'.cell? ⟨W.heap.size, 2, none⟩ = some (.int .i64 le) ∧ w'.cell? ⟨tb, 15, none⟩ = some (.slice (some ⟨gt, ot, none⟩) s.st.fl.toNat ct) ∧ w'.cell? ⟨gt, ot + i, none⟩ = some (.slice (some ⟨gr, or, none⟩) s.st.fl.toNat cr) ∧ w'.cell? ⟨gr, or + j, none⟩ = some (.int .i64 tr)) := fun W2 hb hv w' hw => by
    have hb' : Below W2.heap.size W2 w' := (Below.refl _ _).drew.trans hw
    have hb2 := below_class hb hb'
    exact ⟨(hv.1.below' hb').cell 0, (hv.1.below' hb').cell 2, (HT.out.below' hb2).c15, (Below.cell hb2 (World.block_lt_of_cell? W _ HR.out.1)).trans HR.out.1, (Below.cell hb2 (World.block_lt_of_cell? W _ HR.out.2)).trans HR.out.2⟩
  rcases hq2 with rfl | ⟨q1, q2⟩
  all_goals
    go_enter Try.func77, Try.ntmps77
    go_wp2_with fail
    clear c0 c1
    generalize (W.alloc (.cells #[.int .i64 (i : Int), _, .int .i64 le] 156)).alloc (.cells #[.int .i64 0, .int .i64 0, .int .i64 0] 156) = W2 at HA HZ HB ⊢
    have HG := Hid.intro' (HGO.out W2 HB.out ⟨HA.out, HZ.out⟩)
    have G0 : Hid (∀ w', Below W2.drew.heap.size W2.drew w' → w'.cell? ⟨W.heap.size, 0, none⟩ = some (.int .i64 (i : Int))) := fun w' hw => (HG.out w' hw).1
    have G2 : Hid (∀ w', Below W2.drew.heap.size W2.drew w' → w'.cell? ⟨W.heap.size, 2, none⟩ = some (.int .i64 le)) := fun w' hw => (HG.out w' hw).2.1
    have G15 : Hid (∀ w', Below W2.drew.heap.size W2.drew w' → w'.cell? ⟨tb, 15, none⟩ = some (.slice (some ⟨gt, ot, none⟩) s.st.fl.toNat ct)) := fun w' hw => (HG.out w' hw).2.2.1
    have GR : Hid (∀ w', Below W2.drew.heap.size W2.drew w' → w'.cell? ⟨gt, ot + i, none⟩ = some (.slice (some ⟨gr, or, none⟩) s.st.fl.toNat cr)) := fun w' hw => (HG.out w' hw).2.2.2.1
    have GT : Hid (∀ w', Below W2.drew.heap.size W2.drew w' → w'.cell? ⟨gr, or + j, none⟩ = some (.int .i64 tr)) := fun w' hw => (HG.out w' hw).2.2.2.2
    clear HG
    refine wp_region_tail 14 (by kernel_rfl) (by kernel_rfl) ?_
    simp only [List.take_succ_cons, List.take_zero, List.drop_succ_cons, List.drop_zero]
    unfold wpCalm
    generalize hK : wpCalm Try.prog _ _ _ _ = K
    unfold Oper.calm
    go_simp
    refine ⟨_, fun _ _ => rfl, ?_⟩
    subst hK
    unfold wpCalm
    generalize hK : wpCalm Try.prog _ _ _ _ = K
    rw [if_pos (by go_simp)]
    refine calm_load3 _ _ _ rfl rfl G2.out ?_
    go_simp
    subst hK
    unfold wpCalm
    generalize hK : wpCalm Try.prog _ _ _ _ = K
    unfold Oper.calm
    go_simp
    refine ⟨_, fun _ _ => rfl, ?_⟩
    subst hK
    unfold wpCalm
    generalize hK : wpCalm Try.prog _ _ _ _ = K
    unfold Oper.calm
    go_simp
    refine ⟨_, fun _ _ => rfl, ?_⟩
    subst hK
    unfold wpCalm
    generalize hK : wpCalm Try.prog _ _ _ _ = K
    unfold Oper.calm
    go_simp
    refine ⟨_, fun _ _ => rfl, ?_⟩
    subst hK
    unfold wpCalm
    generalize hK : wpCalm Try.prog _ _ _ _ = K
    rw [if_pos (by go_simp)]
    refine calm_loadBH _ _ _ rfl rfl G15.out ?_
    go_simp
    subst hK
    unfold wpCalm
    generalize hK : wpCalm Try.prog _ _ _ _ = K
    unfold Oper.calm
    go_simp
    refine ⟨_, fun _ _ => rfl, ?_⟩
    subst hK
    unfold wpCalm
    generalize hK : wpCalm Try.prog _ _ _ _ = K
    rw [if_pos (by go_simp)]
    refine calm_load3 _ _ _ rfl rfl G0.out ?_
    go_simp
    subst hK
    unfold wpCalm
    generalize hK : wpCalm Try.prog _ _ _ _ = K
    rw [if_pos (by go_simp)]
    refine calm_ixB _ _ rfl rfl rfl hi' ?_
    go_simp
    subst hK
    unfold wpCalm
    generalize hK : wpCalm Try.prog _ _ _ _ = K
    rw [if_pos (by go_simp)]
    refine calm_loadLI _ _ _ rfl rfl GR.out ?_
    go_simp
    subst hK
    unfold wpCalm
    generalize hK : wpCalm Try.prog _ _ _ _ = K
    unfold Oper.calm
    go_simp
    refine ⟨_, fun _ _ => rfl, ?_⟩
    subst hK
    unfold wpCalm
    generalize hK : wpCalm Try.prog _ _ _ _ = K
    rw [if_pos (by go_simp)]
    refine calm_ixI _ _ rfl rfl rfl hj' ?_
    go_simp
    subst hK
    unfold wpCalm
    generalize hK : wpCalm Try.prog _ _ _ _ = K
    rw [if_pos (by go_simp)]
    refine calm_load3 _ _ _ rfl rfl GT.out ?_
    go_simp
    subst hK
    unfold wpCalm
    generalize hK : wpCalm Try.prog _ _ _ _ = K
    unfold Oper.calm
    go_simp
    refine ⟨_, fun _ _ => rfl, ?_⟩
    subst hK
    refine wpCalm_nil ?_
    intro W3 hb3
    have hbd := (Below.refl W2.heap.size W2).drew.trans hb3
    have HB3 := Hid.intro' (below_class HB.out hbd)
    have HZ3 := Hid.intro' (HZ.out.below' hbd)
    have c16 : W3.cell? ⟨tb, 16, none⟩ = some (.int .i64 (RM.dw s.st)) := (HT.out.below' HB3.out).c16
    clear hbd hb3 G0 G2 G15 GR GT HA HZ HB
    go_wp2_with (refine wpList_storeVb rfl _ _ rfl (W.heap.size + 1) rfl rfl HZ3.out ?_)
    intro W4 hk4 hv4
    have HK := Hid.intro' (And.intro hk4 hv4)
    clear hk4 hv4 c16
    go_wp2
    exact bodyPost_ret (retV Try.results77 rfl HK.out.2) rfl ⟨rfl, HK.out.1.below HB3.out HB3.out.size (fun i hi e => by omega)⟩
theorem knext_any (ht : TC D W tb s vc vw vt) (a : RM.Sp) (ok : RM.Ok s.st a) (hl : a.le ≤ 100000000) (f : Int) (h0 : 0 ≤ f) (h1 : f < s.st.fl) :
    Calls Try.prog 77 #[.pointer (some ⟨tb, 0, none⟩), .agg #[.int .i64 a.fl, .int .i64 a.he, .int .i64 a.le], .int .i64 f] W fun e w' => e = .returned (.agg #[.int .i64 (RM.nx s.st a f).fl, .int .i64 (RM.nx s.st a f).he, .int .i64 (RM.nx s.st a f).le]) ∧ Below W.heap.size W w' := by
  by_cases hc : a.he ≠ -1 ∧ a.fl = f
  · have e : RM.nx s.st a f = a := by unfold RM.nx; rw [if_pos hc]
    rw [e, ← hc.2]
    exact knext_same a.fl a.he a.le hc.1 W
  · have e : RM.nx s.st a f = ⟨f, a.le + SM.trav s.st a.fl f, a.le + SM.trav s.st a.fl f + RM.dw s.st⟩ := by unfold RM.nx; rw [if_neg hc]
    rw [e]
    obtain ⟨fl, he, le⟩ := a
    have f0 := ok.f0
    have f1 := ok.f1
    have l0 := ok.l0
    simp only at hc hl f0 f1 l0 ⊢
    obtain ⟨i, rfl⟩ : ∃ i : Nat, fl = (i : Int) := ⟨fl.toNat, by omega⟩
    obtain ⟨j, rfl⟩ : ∃ j : Nat, f = (j : Int) := ⟨f.toNat, by omega⟩
    exact knext_far ht i j he le (by omega) f1 h1 l0 hl
end
/-- the node with the next car -/
theorem kn_two (W : World) (cs : List Value) (hl : cs.length = 132) : KN ((W.alloc (.cells cs.toArray 127)).alloc (.cells zk.toArray 127)) W.heap.size cs ∧ KN ((W.alloc (.cells cs.toArray 127)).alloc (.cells zk.toArray 127)) (W.heap.size + 1) zk ∧ Below W.heap.size W ((W.alloc (.cells cs.toArray 127)).alloc (.cells zk.toArray 127)) := by
  have h2 := KN.new (W.alloc (.cells cs.toArray 127)) zk_length
  rw [World.size_alloc] at h2
  exact ⟨(KN.new W hl).below' ((Below.refl _ _).alloc (Nat.le_refl _) _), h2, ((Below.refl W.heap.size W).alloc (Nat.le_refl _) _).alloc (by simp) _⟩
set_option maxRecDepth 100000 in
set_option maxHeartbeats 2000000 in
theorem knextCar_any (k g n : Nat) (co lf : Int) (st : List Bool) (hst : st.length = 128) (hk : k ≤ 1000) (W : World) :
    Calls Try.prog 95 #[.agg (knc (k : Int) g n co lf st).toArray] W fun e w' => e = .returned (.agg (knc ((k + 1 : Nat) : Int) g n co lf st).toArray) ∧ Below W.heap.size W w' := by
  obtain ⟨h1, _, _⟩ := kn_two W _ (knc_length hst (k : Int) g n co lf)
  obtain ⟨g1, g2, g3⟩ := kn_two W ((knc (k : Int) g n co lf st).set 0 (.int .i64 ((k : Int) + 1))) (by rw [List.length_set]; exact knc_length hst (k : Int) g n co lf)
  have c0 : ((W.alloc (.cells (knc (k : Int) g n co lf st).toArray 127)).alloc (.cells zk.toArray 127)).cell? ⟨W.heap.size, 0, none⟩ = some (.int .i64 (k : Int)) := h1.cell 0
  have f0 := h1.fr 0
  have hw1 : IntKind.i64.wrap ((k : Int) + 1) = (k : Int) + 1 := IntWalk.i64_in _ (by omega)
  have HS : Hid (KN ((W.alloc (.cells ((knc (k : Int) g n co lf st).set 0 (.int .i64 ((k : Int) + 1))).toArray 127)).alloc (.cells zk.toArray 127)) W.heap.size (knc ((k : Int) + 1) g n co lf st)) := g1
  have HZ2 := Hid.intro' g2
  have HB2 := Hid.intro' g3
  have H1 := Hid.intro' (knc_one ((k : Int) + 1) g n co lf st)
  have HE : Hid (((k + 1 : Nat) : Int) = (k : Int) + 1) := by show _ = _; omega
  rw [HE.out]
  clear h1 g1 g2 g3
  go_enter Try.func95, Try.ntmps95
  go_wp2_with (first | (refine wpList_allocK rfl rfl ?_) | (refine wpList_loadK rfl _ rfl W.heap.size _ rfl HS.out ?_) | (refine wpList_storeK rfl _ _ rfl (W.heap.size + 1) rfl rfl HZ2.out HS.out.1 H1.out ?_))
  intro W2 hk2 hn2
  have HK := Hid.intro' (And.intro hk2 hn2)
  clear hk2 hn2 c0 f0
  go_wp2
  exact bodyPost_ret (retK Try.results95 rfl HK.out.2) rfl ⟨rfl, HK.out.1.below HB2.out HB2.out.size (fun i hi e => by omega)⟩
end Go.Proofs.Ytagmidolcdefiah

/- A check's tree: a node with one want more. -/
namespace Go.Proofs.Ytagmidolcdefiah
open Go.RowKit Go.Shelf
theorem nx_he {s : St} {a : RM.Sp} (ok : RM.Ok s a) (f : Int) : (RM.nx s a f).he = RM.ar s a f := by rw [RM.nx_eq ok]
/-- what holds while a node grows -/
structure Gz (W wr : World) (cs : List Value) : Prop where
  n1 : KN wr W.heap.size cs
  n2 : KN wr (W.heap.size + 1) zk
  bel : Below W.heap.size W wr
section
variable {W wr w' : World} {cs : List Value}
theorem Gz.next (h : Gz W wr cs) (hb : Below wr.heap.size wr w') : Gz W w' cs := ⟨h.n1.below' hb, h.n2.below' hb, below_class h.bel hb⟩
theorem Gz.kp {g : Nat} (h : Gz W wr cs) (k : Kp (fun i => i = g) wr w') (hg : W.heap.size + 2 ≤ g) : Gz W w' cs := ⟨h.n1.kp k (by omega), h.n2.kp k (by omega), k.below h.bel (by have := h.n1.lt; omega) (fun i hi e => by omega)⟩
theorem Gz.put (h : Gz W wr cs) (i : Nat) (v : Value) : Gz W (wr.setCell ⟨W.heap.size, i, none⟩ v) (cs.set i v) := by
  have k : Kp (fun i => i = W.heap.size) wr (wr.setCell ⟨W.heap.size, i, none⟩ v) := (Kp.refl _ _).set _ _ _ (fun _ => rfl)
  exact ⟨h.n1.put i v, h.n2.kp k (by simp), k.below h.bel (by have := h.n1.lt; omega) (fun i hi e => by omega)⟩
theorem Gz.lt (h : Gz W wr cs) : W.heap.size + 2 ≤ wr.heap.size := h.n2.lt
end
section
variable {D : Nat → Prop} {W : World} {tb : Nat} {s : Sn} {vc vw vt : Value}
set_option maxRecDepth 100000 in
set_option maxHeartbeats 4000000 in
theorem kgrown_any (ht : TC D W tb s vc vw vt) {A : List RM.Sp} {g k j : Nat} {co lf : Int} {st : List Bool} (hA : WR W g A) (hAl : A.length = s.cs.length) {a : RM.Sp} (ha : A[k]? = some a) (ok : RM.Ok s.st a) (hle : a.le ≤ 100000000) {y : Int × Int} (hy : s.ws[j]? = some y) (hst : st.length = 128)
    (c0 : 0 ≤ co) (c1 : co ≤ 900000000000) (l0 : 0 ≤ lf) (l1 : lf ≤ 1000) :
    Calls Try.prog 60 #[.pointer (some ⟨tb, 0, none⟩), .agg (knc (k : Int) g s.cs.length co lf st).toArray, .int .i64 (j : Int)] W fun r w' => ∃ g', r = .returned (.agg (knc (k : Int) g' s.cs.length (co + RM.ar s.st a y.1) (lf - 1) (st.set j true)).toArray) ∧ W.heap.size ≤ g' ∧ WR w' g' (A.set k (RM.nx s.st a y.1)) ∧ Below W.heap.size W w' := by
  have rz := rgt_rz ht.rg
  have hwr := rz.wr y (List.mem_of_getElem? hy)
  have hnn := RM.ar_nn rz.rt ok y.1
  have hll := RM.ar_le rz.rt ok y.1
  obtain ⟨n8, hrs⟩ := rgt_rs ht.rg
  have hN : s.cs.length ≤ 1000 := by have := hrs.cl; have := hrs.n8; omega
  have hkN : k < s.cs.length := by rw [← hAl]; exact (List.getElem?_eq_some_iff.1 ha).1
  have hj : j < s.ws.length := (List.getElem?_eq_some_iff.1 hy).1
  have hj8 : (j : Int) < 128 := by have := hrs.wl; omega
  have HJ8 : Hid (j < st.length) := by show _ < _; have := hrs.wl; omega
  have HNX : Hid (∀ w', Below W.heap.size W w' → Calls Try.prog 77 #[.pointer (some ⟨tb, 0, none⟩), .agg #[.int .i64 a.fl, .int .i64 a.he, .int .i64 a.le], .int .i64 y.1] w' fun e w'' => e = .returned (.agg #[.int .i64 (RM.nx s.st a y.1).fl, .int .i64 (RM.nx s.st a y.1).he, .int .i64 (RM.nx s.st a y.1).le]) ∧ Below w'.heap.size w' w'') := fun w' hw => knext_any (ht.below' hw) a ok hle y.1 hwr.1 hwr.2
  have hez := nx_he ok y.1
  generalize RM.nx s.st a y.1 = z at HNX hez ⊢
  rw [← hez] at hnn hll ⊢
  have hw1 : IntKind.i64.wrap (co + z.he) = co + z.he := IntWalk.i64_in _ (by omega)
  have hw2 : IntKind.i64.wrap (lf - 1) = lf - 1 := IntWalk.i64_in _ (by omega)
  obtain ⟨aw, kw, rfl, _, _⟩ := ht.ws.form
  obtain ⟨gw, ow, rfl, x0, x1⟩ := ht.ws.at hy
  have HT := Hid.intro' ht
  have HX0 := Hid.intro' x0
  have HA := Hid.intro' hA
  have HLK : Hid (A.length = s.cs.length ∧ A[k]? = some a) := ⟨hAl, ha⟩
  have HST := Hid.intro' hst
  obtain ⟨h1, h2, h3⟩ := kn_two W _ (knc_length hst (k : Int) g s.cs.length co lf)
  have HG0 : Hid (Gz W ((W.alloc (.cells (knc (k : Int) g s.cs.length co lf st).toArray 127)).alloc (.cells zk.toArray 127)) (knc (k : Int) g s.cs.length co lf st)) := ⟨h1, h2, h3⟩
  have d1 : ((W.alloc (.cells (knc (k : Int) g s.cs.length co lf st).toArray 127)).alloc (.cells zk.toArray 127)).cell? ⟨W.heap.size, 1, none⟩ = some (.slice (some ⟨g, 0, none⟩) s.cs.length s.cs.length) := h1.cell 1
  have hmk := mkV s.cs.length hN
  have HGM := Hid.intro' (HG0.out.next ((Below.refl _ _).alloc (Nat.le_refl _) (.cells (wcs (List.replicate s.cs.length w0)).toArray 156)))
  have hwn := WR.new ((W.alloc (.cells (knc (k : Int) g s.cs.length co lf st).toArray 127)).alloc (.cells zk.toArray 127)) (List.replicate s.cs.length w0)
  rw [World.size_alloc, World.size_alloc] at hwn
  have HWN := Hid.intro' hwn
  have HAM := Hid.intro' (hA.below' HGM.out.bel)
  have HRL : Hid ((List.replicate s.cs.length w0).length = s.cs.length) := by show _ = _; simp
  have d2 : ((((W.alloc (.cells (knc (k : Int) g s.cs.length co lf st).toArray 127)).alloc (.cells zk.toArray 127))).alloc (.cells (wcs (List.replicate s.cs.length w0)).toArray 156)).cell? ⟨W.heap.size, 1, none⟩ = some (.slice (some ⟨g, 0, none⟩) s.cs.length s.cs.length) := HGM.out.n1.cell 1
  clear hA hAl ha hst h1 h2 h3 x0 x1 ht hwr rz hrs hwn hez ok hle hnn hll c0 c1 l0 l1 hy HG0 hN
  go_enter Try.func60, Try.ntmps60
  go_wp2_with (first | (refine wpList_allocK rfl rfl ?_) | (refine wpList_copyV rfl _ _ rfl (W.heap.size + 1 + 1) g s.cs.length A _ HLK.out.1 HRL.out HWN.out HAM.out rfl rfl ?_))
  intro W3 hk3 hr3
  have HG3 := Hid.intro' (HGM.out.kp hk3 (by omega))
  have HR3 := Hid.intro' hr3
  clear hk3 hr3 HGM HWN HAM d1 d2 hmk HRL
  go_wp2_with fail
  have hcl : ∀ w', Below W3.drew.heap.size W3.drew w' → Below W3.heap.size W3 w' := fun w' hw => (Below.refl _ _).drew.trans hw
  have G0 : Hid (∀ w', Below W3.drew.heap.size W3.drew w' → w'.cell? ⟨W.heap.size, 0, none⟩ = some (.int .i64 (k : Int))) := fun w' hw => (HG3.out.next (hcl w' hw)).n1.cell 0
  have GA : Hid (∀ w', Below W3.drew.heap.size W3.drew w' → w'.rangeAt (W.heap.size + 1 + 1) (k * 3) [.int .i64 a.fl, .int .i64 a.he, .int .i64 a.le]) := fun w' hw => (HR3.out.below' (hcl w' hw)).range HLK.out.2
  have GW : Hid (∀ w', Below W3.drew.heap.size W3.drew w' → w'.cell? ⟨tb, 14, none⟩ = some (.slice (some ⟨gw, ow, none⟩) s.ws.length kw)) := fun w' hw => (HT.out.below' (HG3.out.next (hcl w' hw)).bel).c14
  have GX : Hid (∀ w', Below W3.drew.heap.size W3.drew w' → w'.cell? ⟨gw, ow + j * 2, none⟩ = some (.int .i64 y.1)) := fun w' hw => (Below.cell (HG3.out.next (hcl w' hw)).bel (World.block_lt_of_cell? W _ HX0.out)).trans HX0.out
  have GN : Hid (∀ w', Below W3.drew.heap.size W3.drew w' → Calls Try.prog 77 #[.pointer (some ⟨tb, 0, none⟩), .agg #[.int .i64 a.fl, .int .i64 a.he, .int .i64 a.le], .int .i64 y.1] w' fun e w'' => e = .returned (.agg #[.int .i64 z.fl, .int .i64 z.he, .int .i64 z.le]) ∧ Below w'.heap.size w' w'') := fun w' hw => HNX.out w' (HG3.out.next (hcl w' hw)).bel
  clear hcl
  refine wp_region_tail 20 (by kernel_rfl) (by kernel_rfl) ?_
  simp only [List.take_succ_cons, List.take_zero, List.drop_succ_cons, List.drop_zero]
  unfold wpCalm
  generalize hK : wpCalm Try.prog _ _ _ _ = K
  unfold Oper.calm
  go_simp
  refine ⟨_, fun _ _ => rfl, ?_⟩
  subst hK
  unfold wpCalm
  generalize hK : wpCalm Try.prog _ _ _ _ = K
  unfold Oper.calm
  go_simp
  refine ⟨_, fun _ _ => rfl, ?_⟩
  subst hK
  unfold wpCalm
  generalize hK : wpCalm Try.prog _ _ _ _ = K
  rw [if_pos (by go_simp)]
  refine calm_load3 _ _ _ rfl rfl G0.out ?_
  go_simp
  subst hK
  unfold wpCalm
  generalize hK : wpCalm Try.prog _ _ _ _ = K
  unfold Oper.calm
  go_simp
  refine ⟨_, fun _ _ => rfl, ?_⟩
  subst hK
  unfold wpCalm
  generalize hK : wpCalm Try.prog _ _ _ _ = K
  unfold Oper.calm
  go_simp
  refine ⟨_, fun _ _ => rfl, ?_⟩
  subst hK
  unfold wpCalm
  generalize hK : wpCalm Try.prog _ _ _ _ = K
  unfold Oper.calm
  go_simp
  refine ⟨_, fun _ _ => rfl, ?_⟩
  subst hK
  unfold wpCalm
  generalize hK : wpCalm Try.prog _ _ _ _ = K
  rw [if_pos (by go_simp)]
  refine calm_load3 _ _ _ rfl rfl G0.out ?_
  go_simp
  subst hK
  unfold wpCalm
  generalize hK : wpCalm Try.prog _ _ _ _ = K
  rw [if_pos (by go_simp)]
  refine calm_ixV _ _ rfl rfl rfl hkN ?_
  go_simp
  subst hK
  unfold wpCalm
  generalize hK : wpCalm Try.prog _ _ _ _ = K
  rw [if_pos (by go_simp)]
  refine calm_loadV _ _ _ a rfl rfl GA.out ?_
  go_simp
  subst hK
  unfold wpCalm
  generalize hK : wpCalm Try.prog _ _ _ _ = K
  unfold Oper.calm
  go_simp
  refine ⟨_, fun _ _ => rfl, ?_⟩
  subst hK
  unfold wpCalm
  generalize hK : wpCalm Try.prog _ _ _ _ = K
  unfold Oper.calm
  go_simp
  refine ⟨_, fun _ _ => rfl, ?_⟩
  subst hK
  unfold wpCalm
  generalize hK : wpCalm Try.prog _ _ _ _ = K
  unfold Oper.calm
  go_simp
  refine ⟨_, fun _ _ => rfl, ?_⟩
  subst hK
  unfold wpCalm
  generalize hK : wpCalm Try.prog _ _ _ _ = K
  unfold Oper.calm
  go_simp
  refine ⟨_, fun _ _ => rfl, ?_⟩
  subst hK
  unfold wpCalm
  generalize hK : wpCalm Try.prog _ _ _ _ = K
  rw [if_pos (by go_simp)]
  refine calm_loadWv _ _ _ rfl rfl GW.out ?_
  go_simp
  subst hK
  unfold wpCalm
  generalize hK : wpCalm Try.prog _ _ _ _ = K
  unfold Oper.calm
  go_simp
  refine ⟨_, fun _ _ => rfl, ?_⟩
  subst hK
  unfold wpCalm
  generalize hK : wpCalm Try.prog _ _ _ _ = K
  rw [if_pos (by go_simp)]
  refine calm_ixWv _ _ rfl rfl rfl hj ?_
  go_simp
  subst hK
  unfold wpCalm
  generalize hK : wpCalm Try.prog _ _ _ _ = K
  unfold Oper.calm
  go_simp
  refine ⟨_, fun _ _ => rfl, ?_⟩
  subst hK
  unfold wpCalm
  generalize hK : wpCalm Try.prog _ _ _ _ = K
  rw [if_pos (by go_simp)]
  refine calm_load3 _ _ _ rfl rfl GX.out ?_
  go_simp
  subst hK
  unfold wpCalm
  generalize hK : wpCalm Try.prog _ _ _ _ = K
  unfold Oper.calm
  go_simp
  refine ⟨_, fun w' hw => GN.out w' hw, ?_⟩
  subst hK
  unfold wpCalm
  generalize hK : wpCalm Try.prog _ _ _ _ = K
  rw [if_pos (by go_simp)]
  refine calm_ixV _ _ rfl rfl rfl hkN ?_
  go_simp
  subst hK
  refine wpCalm_nil ?_
  intro W4 hb4
  have hbd := (Below.refl W3.heap.size W3).drew.trans hb4
  have HG4 := Hid.intro' (HG3.out.next hbd)
  have HR4 := Hid.intro' (HR3.out.below' hbd)
  have HKA : Hid (k < A.length) := by show _ < _; rw [HLK.out.1]; exact hkN
  clear hbd hb4 G0 GA GW GX GN HG3 HR3
  go_wp2_with (refine wpList_storeV rfl _ _ rfl (W.heap.size + 1 + 1) k A HKA.out z HR4.out rfl rfl ?_)
  intro W5 hk5 hr5
  have HG5 := Hid.intro' (HG4.out.kp hk5 (by omega))
  have HR5 := Hid.intro' hr5
  clear hk5 hr5 HG4 HR4
  go_wp2_with fail
  have hcl : ∀ w', Below W5.drew.heap.size W5.drew w' → Below W5.heap.size W5 w' := fun w' hw => (Below.refl _ _).drew.trans hw
  have G0 : Hid (∀ w', Below W5.drew.heap.size W5.drew w' → w'.cell? ⟨W.heap.size, 0, none⟩ = some (.int .i64 (k : Int))) := fun w' hw => (HG5.out.next (hcl w' hw)).n1.cell 0
  have G2 : Hid (∀ w', Below W5.drew.heap.size W5.drew w' → w'.cell? ⟨W.heap.size, 2, none⟩ = some (.int .i64 co)) := fun w' hw => (HG5.out.next (hcl w' hw)).n1.cell 2
  have GH : Hid (∀ w', Below W5.drew.heap.size W5.drew w' → w'.cell? ⟨W.heap.size + 1 + 1, k * 3 + 1, none⟩ = some (.int .i64 z.he)) := fun w' hw => ((HR5.out.below' (hcl w' hw)).cells (List.getElem?_set_self HKA.out)).2.1
  clear hcl
  refine wp_region_tail 10 (by kernel_rfl) (by kernel_rfl) ?_
  simp only [List.take_succ_cons, List.take_zero, List.drop_succ_cons, List.drop_zero]
  unfold wpCalm
  generalize hK : wpCalm Try.prog _ _ _ _ = K
  unfold Oper.calm
  go_simp
  refine ⟨_, fun _ _ => rfl, ?_⟩
  subst hK
  unfold wpCalm
  generalize hK : wpCalm Try.prog _ _ _ _ = K
  rw [if_pos (by go_simp)]
  refine calm_load3 _ _ _ rfl rfl G2.out ?_
  go_simp
  subst hK
  unfold wpCalm
  generalize hK : wpCalm Try.prog _ _ _ _ = K
  unfold Oper.calm
  go_simp
  refine ⟨_, fun _ _ => rfl, ?_⟩
  subst hK
  unfold wpCalm
  generalize hK : wpCalm Try.prog _ _ _ _ = K
  unfold Oper.calm
  go_simp
  refine ⟨_, fun _ _ => rfl, ?_⟩
  subst hK
  unfold wpCalm
  generalize hK : wpCalm Try.prog _ _ _ _ = K
  rw [if_pos (by go_simp)]
  refine calm_load3 _ _ _ rfl rfl G0.out ?_
  go_simp
  subst hK
  unfold wpCalm
  generalize hK : wpCalm Try.prog _ _ _ _ = K
  rw [if_pos (by go_simp)]
  refine calm_ixV _ _ rfl rfl rfl hkN ?_
  go_simp
  subst hK
  unfold wpCalm
  generalize hK : wpCalm Try.prog _ _ _ _ = K
  unfold Oper.calm
  go_simp
  refine ⟨_, fun _ _ => rfl, ?_⟩
  subst hK
  unfold wpCalm
  generalize hK : wpCalm Try.prog _ _ _ _ = K
  rw [if_pos (by go_simp)]
  refine calm_load3 _ _ _ rfl rfl GH.out ?_
  go_simp
  subst hK
  unfold wpCalm
  generalize hK : wpCalm Try.prog _ _ _ _ = K
  unfold Oper.calm
  go_simp
  refine ⟨_, fun _ _ => rfl, ?_⟩
  subst hK
  unfold wpCalm
  generalize hK : wpCalm Try.prog _ _ _ _ = K
  unfold Oper.calm
  go_simp
  refine ⟨_, fun _ _ => rfl, ?_⟩
  subst hK
  refine wpCalm_nil ?_
  intro W6 hb6
  have hbd := (Below.refl W5.heap.size W5).drew.trans hb6
  have HG6 := Hid.intro' (HG5.out.next hbd)
  have HR6 := Hid.intro' (HR5.out.below' hbd)
  clear hbd hb6 G0 G2 GH HG5 HR5
  have e1 : W6.cell? ⟨W.heap.size, 1, none⟩ = some (.slice (some ⟨g, 0, none⟩) s.cs.length s.cs.length) := HG6.out.n1.cell 1
  have e2 : W6.cell? ⟨W.heap.size, 2, none⟩ = some (.int .i64 co) := HG6.out.n1.cell 2
  have e3 : W6.cell? ⟨W.heap.size, 3, none⟩ = some (.int .i64 lf) := HG6.out.n1.cell 3
  have f1 := HG6.out.n1.fr 1
  have f2 := HG6.out.n1.fr 2
  have f3 := HG6.out.n1.fr 3
  obtain ⟨q8, hq8⟩ : ∃ q8, st[j]? = some q8 := ⟨_, List.getElem?_eq_getElem HJ8.out⟩
  have e4 : W6.cell? ⟨W.heap.size, 4 + j, none⟩ = some (.bool q8) := (HG6.out.n1.cell (4 + j)).trans (knc_at hq8)
  have f4 := HG6.out.n1.fr (4 + j)
  have HG7 := Hid.intro' ((((HG6.out.put 2 (.int .i64 (co + z.he))).put 1 (.slice (some ⟨W.heap.size + 1 + 1, 0, none⟩) s.cs.length s.cs.length)).put 3 (.int .i64 (lf - 1))).put (4 + j) (.bool true))
  have hset : (((((knc (k : Int) g s.cs.length co lf st).set 2 (.int .i64 (co + z.he))).set 1 (.slice (some ⟨W.heap.size + 1 + 1, 0, none⟩) s.cs.length s.cs.length)).set 3 (.int .i64 (lf - 1))).set (4 + j) (.bool true)) = knc (k : Int) (W.heap.size + 1 + 1) s.cs.length (co + z.he) (lf - 1) (st.set j true) := by
    rw [← knc_set]; rfl
  rw [hset] at HG7
  have hkF : Kp (fun i => i = W.heap.size) W6 ((((W6.setCell ⟨W.heap.size, 2, none⟩ (.int .i64 (co + z.he))).setCell ⟨W.heap.size, 1, none⟩ (.slice (some ⟨W.heap.size + 1 + 1, 0, none⟩) s.cs.length s.cs.length)).setCell ⟨W.heap.size, 3, none⟩ (.int .i64 (lf - 1))).setCell ⟨W.heap.size, 4 + j, none⟩ (.bool true)) := ((((Kp.refl (fun i => i = W.heap.size) W6).set _ _ _ (fun _ => rfl)).set _ _ _ (fun _ => rfl)).set _ _ _ (fun _ => rfl)).set _ _ _ (fun _ => rfl)
  have HR7 := Hid.intro' (HR6.out.kp hkF (by omega))
  have HN7 := Hid.intro' HG7.out.n1
  have HZ7 := Hid.intro' HG7.out.n2
  have H1 := Hid.intro' (knc_one (k : Int) (W.heap.size + 1 + 1) s.cs.length (co + z.he) (lf - 1) (st.set j true))
  clear hset hkF HG6 HR6 hq8
  go_upto_region 8 with (fail)
  clear e1 e2 e3 e4 f1 f2 f3 f4
  generalize (((W6.setCell ⟨W.heap.size, 2, none⟩ (.int .i64 (co + z.he))).setCell ⟨W.heap.size, 1, none⟩ (.slice (some ⟨W.heap.size + 1 + 1, 0, none⟩) s.cs.length s.cs.length)).setCell ⟨W.heap.size, 3, none⟩ (.int .i64 (lf - 1))).setCell ⟨W.heap.size, 4 + j, none⟩ (.bool true) = W7 at HG7 HR7 HN7 HZ7 ⊢
  go_wp2_with (first | (refine wpList_loadK rfl _ rfl W.heap.size _ rfl HN7.out ?_) | (refine wpList_storeK rfl _ _ rfl (W.heap.size + 1) rfl rfl HZ7.out HN7.out.1 H1.out ?_))
  intro W8 hk8 hn8
  have HK := Hid.intro' (And.intro hk8 hn8)
  clear hk8 hn8
  go_wp2
  exact bodyPost_ret (retK Try.results60 rfl HK.out.2) rfl ⟨_, rfl, by omega, HR7.out.kp HK.out.1 (by omega), HK.out.1.below HG7.out.bel (by have := HG7.out.lt; omega) (fun i hi e => by omega)⟩
theorem kc_grw {n : Nn} (ok : n.ok s) {w : Nat} {y : Int × Int} (hy : s.ws[w]? = some y) (hs : n.st[w]? = some false) (g : Nat) : kc s (grw n w) g = knc (n.k : Int) g s.cs.length (RM.cst s.st s.ws s.cs n.b + RM.ar s.st (sat s n) y.1) (((PM.lf n.st : Nat) : Int) - 1) ((pad n.st).set w true) := by
  have hlf := PM.lf_set hs
  have hws : w < n.st.length := (List.getElem?_eq_some_iff.1 hs).1
  unfold kc
  rw [cst_grw ok, RM.wf_get hy, pad_set hws]
  show knc (n.k : Int) g s.cs.length _ ((PM.lf (n.st.set w true) : Nat) : Int) (pad (n.st.set w true)) = _
  congr 1
  omega
theorem kgrown_node (ht : TC D W tb s vc vw vt) {n : Nn} (ok : n.ok s) {g : Nat} (hA : WR W g (wys s n)) {w : Nat} (hw : w < s.ws.length) (hs : n.st[w]? = some false) :
    Calls Try.prog 60 #[.pointer (some ⟨tb, 0, none⟩), .agg (kc s n g).toArray, .int .i64 (w : Int)] W fun r w' => ∃ g', r = .returned (.agg (kc s (grw n w) g').toArray) ∧ W.heap.size ≤ g' ∧ WR w' g' (wys s (grw n w)) ∧ Below W.heap.size W w' := by
  obtain ⟨y, hy⟩ : ∃ y, s.ws[w]? = some y := ⟨_, List.getElem?_eq_getElem hw⟩
  have nb := ok.nb
  have hl : PM.lf n.st ≤ n.st.length := List.count_le_length
  have := ok.sl
  have := nb.bs.wl
  have c1 := nb.c1
  refine (kgrown_any ht hA (wys_length ok) (wys_k ok) nb.sk nb.sl hy (pad_length n.st) nb.c0 (by omega) (by omega) (by omega)).mono fun r w' h => ?_
  obtain ⟨g', e, h1, h2, h3⟩ := h
  refine ⟨g', by rw [kc_grw ok hy hs]; exact e, h1, ?_, h3⟩
  rw [wys_grw ok, RM.wf_get hy]
  exact h2
theorem knext_node {n : Nn} (ok : n.ok s) (g : Nat) (hk : n.k + 1 < n.b.length) (hN : s.cs.length ≤ 8) (W : World) :
    Calls Try.prog 95 #[.agg (kc s n g).toArray] W fun e w' => e = .returned (.agg (kc s (nxc n) g).toArray) ∧ Below W.heap.size W w' :=
  knextCar_any n.k g s.cs.length _ _ _ (pad_length n.st) (by have := ok.bl; omega) W
end
end Go.Proofs.Ytagmidolcdefiah

/- Steps of a region in every order. No program is named here. -/
namespace Go.Proofs.Ytagmidolcdefiah
open Go.RowKit
theorem wpOp_val {P : Program} {ops : Array Oper} {Q : Exit → Act → World → Prop} {i : Nat} {o : Oper} {K : Act → World → Prop} {a : Act} {w w' : World} {v : Value} (hi : ops[i]? = some o) (hw : Region.wanted o (yielded ops a.tmps) = true) (hrun : (execOp a.eval o).run P w = .ok (.value v) w') (h : K (a.put o.dst v) w') : wpOp P ops Q i K a w := by
  unfold wpOp
  rw [hi]
  simp only
  rw [if_pos hw]
  refine .inl ?_
  unfold Oper.wp
  rw [hrun]
  exact h
theorem wpOp_call {P : Program} {ops : Array Oper} {Q : Exit → Act → World → Prop} {i : Nat} {o : Oper} {K : Act → World → Prop} {a : Act} {w : World} {f : FuncId} {args : Array Value} {R : Ending → World → Prop} (hi : ops[i]? = some o) (hw : Region.wanted o (yielded ops a.tmps) = true) (hrun : (execOp a.eval o).run P w = .ok (.enter f args) w) (hc : Calls P f args w R) (hK : ∀ e w', R e w' → ∃ v, e = .returned v ∧ K (a.put o.dst v) w') : wpOp P ops Q i K a w := by
  unfold wpOp
  rw [hi]
  simp only
  rw [if_pos hw]
  refine .inl ?_
  unfold Oper.wp
  rw [hrun]
  refine hc.mono fun e w' h => ?_
  obtain ⟨v, rfl, hk⟩ := hK e w' h
  exact hk
theorem yields_val {P : Program} {ops : Array Oper} {o : Oper} {a : Act} {v : Value} (hw : Region.wanted o (yielded ops a.tmps) = true) (h : ∀ w, (execOp a.eval o).run P w = .ok (.value v) w) : Yields P ops o v a := .inl ⟨hw, h⟩
theorem yields_move {P : Program} {ops : Array Oper} {o : Oper} {a : Act} (x : Operand) (ho : o.op = .move x) (hw : Region.wanted o (yielded ops a.tmps) = true) : Yields P ops o (a.eval x) a :=
  .inl ⟨hw, fun w => by unfold execOp; simp [ho]⟩
theorem wpAny_seq {P : Program} {md : Region.Mode} {l : List Oper} {Q : Exit → Act → World → Prop} {fuel : Nat} {listed : Array Bool} {a : Act} {w : World} (k : Nat) (hk : (l.drop k).length = fuel) (hB : Region.seqB md l.toArray fuel k listed = true) (h : wpList P l.toArray Q (l.drop k) a w) : wpAny P md l.toArray Q fuel listed a w := by
  subst hk
  exact wpAny_of_seq (l.drop k) k listed a w (fun j => by simp [List.getElem?_drop]) hB h
end Go.Proofs.Ytagmidolcdefiah
