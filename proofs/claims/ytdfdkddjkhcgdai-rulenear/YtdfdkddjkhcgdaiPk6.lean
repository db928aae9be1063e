/- Several texts in one, each with its own head. -/
import Derived.Test.YtdfdkddjkhcgdaiPk5
import Derived.Deep.RegionLaw
/- A plan that is owned whole: its row, and each list in a block of its own. -/
namespace Go.Proofs.Ytdfdkddjkhcgdai
open Go.RowKit Go.Shelf

structure OW (W : World) (B g : Nat) (us : List Value) (p : List (List Int)) : Prop where
  hl : W.heap[g]? = some (.cells us.toArray 44 (0, 0))
  len : us.length = p.length
  li : ∀ (c : Nat) u l, us[c]? = some u → p[c]? = some l → OI W B u l
  bg : B ≤ g
  ne : ∀ (c : Nat) u, us[c]? = some u → u.ownBlock ≠ some g
  dj : ∀ (c d : Nat) u v k, us[c]? = some u → us[d]? = some v → u.ownBlock = some k → v.ownBlock = some k → c = d
section
variable {W W' : World} {B g : Nat} {us : List Value} {p : List (List Int)}
theorem OW.lt (h : OW W B g us p) : g < W.heap.size := (Array.getElem?_eq_some_iff.1 h.hl).1
theorem OW.next (h : OW W B g us p) (hb : Below W.heap.size W W') : OW W' B g us p :=
  ⟨(hb.block g h.lt).trans h.hl, h.len, fun c u l hu hl => (h.li c u l hu hl).below' hb, h.bg, h.ne, h.dj⟩
theorem OW.mono {B' : Nat} (h : OW W B g us p) (hB : B' ≤ B) : OW W B' g us p :=
  ⟨h.hl, h.len, fun c u l hu hl => (h.li c u l hu hl).mono hB, by have := h.bg; omega, h.ne, h.dj⟩
theorem OW.make (W : World) (n : Nat) (hB : B ≤ W.heap.size) : OW (W.alloc (.cells (List.replicate n (Value.slice none 0 0)).toArray 44)) B W.heap.size (List.replicate n (Value.slice none 0 0)) (List.replicate n []) := by
  have hn : ∀ (c : Nat) u, (List.replicate n (Value.slice none 0 0))[c]? = some u → u = Value.slice none 0 0 := fun c u hu => by
    rw [List.getElem?_replicate] at hu
    split at hu
    · cases hu; rfl
    · cases hu
  refine ⟨World.alloc_heap_new W _, by simp, fun c u l hu hl => ?_, hB, fun c u hu => ?_, fun c d u v k hu hv hk _ => ?_⟩
  · rw [hn c u hu]
    rw [List.getElem?_replicate] at hl
    split at hl
    · cases hl; exact OI.nil _ _
    · cases hl
  · rw [hn c u hu]; simp [Value.ownBlock]
  · rw [hn c u hu] at hk; simp [Value.ownBlock] at hk
/-- it is read as a plan -/
theorem OW.rl {D : Nat → Prop} (h : OW W B g us p) (hD : ∀ k, B ≤ k → D k) : RL D W (.slice (some ⟨g, 0, none⟩) p.length p.length) p := by
  refine ⟨_, _, rfl, Nat.le_refl _, (fun e => by cases e), .inr ⟨g, 0, rfl, hD g h.bg, h.lt, fun i l hl => ?_⟩⟩
  have hi : i < p.length := (List.getElem?_eq_some_iff.1 hl).1
  obtain ⟨u, hu⟩ : ∃ u, us[i]? = some u := ⟨_, List.getElem?_eq_getElem (by rw [h.len]; exact hi)⟩
  have ho := h.li i u l hu hl
  exact ⟨u, by rw [Nat.zero_add]; exact (blk_cell h.hl i).trans hu, ho.ri fun k hk => hD k (ho.lt k hk).1⟩
/-- a want is put behind a list -/
theorem OW.add (h : OW W B g us p) {c : Nat} {u u' : Value} {l : List Int} {x : Int} (hu : us[c]? = some u) (hl : p[c]? = some l) (hg : W.grownBy W' u.ownBlock) {q : Nat} (hq : u'.ownBlock = some q) (hor : u.ownBlock = some q ∨ q = W.heap.size) (ho : OI W' B u' (l ++ [x])) : OW (W'.setCell ⟨g, c, none⟩ u') B g (us.set c u') (PM.add p c x) := by
  have hlt := h.lt
  have hcl : c < us.length := (List.getElem?_eq_some_iff.1 hu).1
  have hcp : c < p.length := (List.getElem?_eq_some_iff.1 hl).1
  have hgb : W'.heap[g]? = W.heap[g]? := hg.block g hlt (fun e => h.ne c u hu e.symm)
  have keep : ∀ j, j ≠ g → (W'.setCell ⟨g, c, none⟩ u').heap[j]? = W'.heap[j]? := fun j hj => Below.heap_setCell W' ⟨g, c, none⟩ _ j hj
  have hqg : q ≠ g := fun e => by
    subst e
    rcases hor with e | e
    · exact h.ne c u hu e
    · omega
  have hold : ∀ (d : Nat) v l', d ≠ c → us[d]? = some v → p[d]? = some l' → OI (W'.setCell ⟨g, c, none⟩ u') B v l' := fun d v l' hdc hv hl' => by
    have ho' := h.li d v l' hv hl'
    refine ho'.keep fun k hk => ?_
    rw [keep k (fun e => by subst e; exact h.ne d v hv hk)]
    exact hg.block k (ho'.lt k hk).2 (fun e => hdc (h.dj d c v u k hv hu hk e.symm))
  have hdis : ∀ (d : Nat) v, d ≠ c → us[d]? = some v → v.ownBlock ≠ some q := fun d v hdc hv e => by
    rcases hor with e' | e'
    · exact hdc (h.dj d c v u q hv hu e e')
    · obtain ⟨l', hl'⟩ : ∃ l', p[d]? = some l' := ⟨_, List.getElem?_eq_getElem (by rw [← h.len]; exact (List.getElem?_eq_some_iff.1 hv).1)⟩
      have := ((h.li d v l' hv hl').lt q e).2
      omega
  have hpl : p[c]?.getD [] = l := by rw [hl]; rfl
  refine ⟨blk_set (hgb.trans h.hl) c u', by unfold PM.add; rw [List.length_set, List.length_set]; exact h.len, fun d v l' hv hl' => ?_, h.bg, fun d v hv => ?_, fun d e v v' k hv hv' hk hk' => ?_⟩
  · unfold PM.add at hl'
    by_cases e : c = d
    · subst e
      rw [List.getElem?_set_self hcl] at hv
      rw [List.getElem?_set_self hcp, hpl] at hl'
      cases hv
      cases hl'
      exact ho.keep fun k hk => keep k (fun e => by
        subst e
        rw [hq] at hk
        cases hk
        exact hqg rfl)
    · rw [List.getElem?_set_ne e] at hv hl'
      exact hold d v l' (fun h => e h.symm) hv hl'
  · by_cases e : c = d
    · subst e
      rw [List.getElem?_set_self hcl] at hv
      cases hv
      rw [hq]
      exact fun e => hqg (by cases e; rfl)
    · rw [List.getElem?_set_ne e] at hv
      exact h.ne d v hv
  · by_cases e1 : c = d
    · by_cases e2 : c = e
      · omega
      · subst e1
        rw [List.getElem?_set_self hcl] at hv
        rw [List.getElem?_set_ne e2] at hv'
        cases hv
        rw [hq] at hk
        cases hk
        exact absurd hk' (hdis e v' (fun h => e2 h.symm) hv')
    · by_cases e2 : c = e
      · subst e2
        rw [List.getElem?_set_self hcl] at hv'
        rw [List.getElem?_set_ne e1] at hv
        cases hv'
        rw [hq] at hk'
        cases hk'
        exact absurd hk (hdis d v (fun h => e1 h.symm) hv)
      · rw [List.getElem?_set_ne e1] at hv
        rw [List.getElem?_set_ne e2] at hv'
        exact h.dj d e v v' k hv hv' hk hk'
end

section
variable {s : Sn}
theorem add_max {p : List (List Int)} {c n : Nat} {x : Int} (h : ∀ l ∈ p, l.length ≤ n) : ∀ l ∈ PM.add p c x, l.length ≤ n + 1 := fun l hl => by
  unfold PM.add at hl
  rcases List.mem_or_eq_of_mem_set hl with hl | hl
  · exact Nat.le_succ_of_le (h l hl)
  · subst hl
    rw [List.length_append, List.length_singleton]
    cases hc : p[c]? with
    | none => simp
    | some m =>
      have := h m (List.mem_of_getElem? hc)
      simp only [Option.getD_some]
      omega
theorem ffp_max : ∀ (w : Nat), ∀ l ∈ ffp s w, l.length ≤ w
  | 0, l, hl => by
    have := List.eq_of_mem_replicate (show l ∈ List.replicate s.cs.length [] from hl)
    subst this
    exact Nat.le_refl _
  | w + 1, l, hl => add_max (ffp_max w) l hl
theorem tend_at {p : List (List Int)} {w : Int} {c : Nat} {r : Int × Int} {l : List Int} (hr : s.cs[c]? = some r) (hl : p[c]? = some l) : tend s p w c = RM.ar s.st (RM.go s.st (RM.bg r) (l.map (RM.wf s.ws))) (RM.wf s.ws w) := by
  unfold tend; rw [hr, hl]; rfl
theorem fcar_no {p : List (List Int)} {w : Int} {c : Nat} (h : mayk s c w = false) : fcar s p w (c + 1) = fcar s p w c := by
  show (if _ then _ else _) = _
  rw [if_neg (fun h' => by rw [h] at h'; cases h'.1)]
theorem fcar_yes {p : List (List Int)} {w : Int} {c : Nat} (h : mayk s c w = true) (h2 : (fcar s p w c).1 < 0 ∨ tend s p w c < (fcar s p w c).2) : fcar s p w (c + 1) = ((c : Int), tend s p w c) := by
  show (if _ then _ else _) = _
  rw [if_pos ⟨h, h2⟩]
theorem fcar_stay {p : List (List Int)} {w : Int} {c : Nat} (h2 : ¬ ((fcar s p w c).1 < 0 ∨ tend s p w c < (fcar s p w c).2)) : fcar s p w (c + 1) = fcar s p w c := by
  show (if _ then _ else _) = _
  rw [if_neg (fun h' => h2 h'.2)]
theorem Pw.fr {w : Nat} {p : List (List Int)} (h : Pw s w p) {c : Nat} {l : List Int} (hl : p[c]? = some l) : ∀ x ∈ l, 0 ≤ x ∧ x < s.ws.length := fun x hx => by
  have h1 := PM.okx_iff.1 (h.ok c l hl x hx)
  have h2 := msk_len s
  omega
end

end Go.Proofs.Ytdfdkddjkhcgdai

/- A search in memory: its block, its marks, the plans that it reads. -/
namespace Go.Proofs.Ytdfdkddjkhcgdai
open Go.RowKit Go.Shelf

/-- the cells of bytes; a row of bytes that is owned -/
def yc (l : List Nat) : List Value := l.map fun (n : Nat) => Value.int .u8 (n : Int)
theorem yc_length (l : List Nat) : (yc l).length = l.length := by unfold yc; rw [List.length_map]
theorem yc_append (l m : List Nat) : yc (l ++ m) = yc l ++ yc m := by unfold yc; rw [List.map_append]
theorem yc_some {l : List Nat} {i x : Nat} (h : l[i]? = some x) : (yc l)[i]? = some (.int .u8 (x : Int)) := by unfold yc; rw [List.getElem?_map, h]; rfl
theorem yc_get {l : List Nat} {i : Nat} {u : Value} (h : (yc l)[i]? = some u) : ∃ x, l[i]? = some x ∧ u = .int .u8 (x : Int) := by
  unfold yc at h
  rw [List.getElem?_map] at h
  cases e : l[i]? with
  | none => rw [e] at h; simp at h
  | some x => rw [e] at h; simp at h; exact ⟨x, rfl, h.symm⟩
theorem yc_one (l : List Nat) : ∀ u ∈ yc l, u.oneCell' = true := by
  intro u hu
  obtain ⟨n, _, rfl⟩ := List.mem_map.1 hu
  rfl
def OY (W : World) (B : Nat) (v : Value) (l : List Nat) : Prop := W.ownsRow B 5 1 v l.length (yc l)
section
variable {W W' : World} {B : Nat} {v : Value} {l : List Nat}
theorem OY.nil (W : World) (B : Nat) : OY W B (.slice none 0 0) [] := World.ownsRow_nil W B _ 1
theorem OY.form (h : OY W B v l) : (v = .slice none 0 0 ∧ l = []) ∨ ∃ g cap, v = .slice (some ⟨g, 0, none⟩) l.length cap ∧ B ≤ g ∧ g < W.heap.size ∧ l.length ≤ cap ∧ cap ≤ maxLen := by
  rcases h.2 with ⟨h1, h2⟩ | ⟨g, cap, cur, hv, hb, hg, hc, hm, _⟩
  · exact .inl ⟨h1, List.length_eq_zero_iff.1 h2⟩
  · exact .inr ⟨g, cap, hv, hb, (Array.getElem?_eq_some_iff.1 hg).1, hc, hm⟩
theorem OY.slice (h : OY W B v l) : ∃ a c, v = .slice a l.length c := by
  rcases h.form with ⟨rfl, rfl⟩ | ⟨g, cap, rfl, _⟩
  · exact ⟨none, 0, rfl⟩
  · exact ⟨_, cap, rfl⟩
theorem OY.lt (h : OY W B v l) : ∀ g, v.ownBlock = some g → B ≤ g ∧ g < W.heap.size := World.ownsRow.lt h
theorem OY.keep (h : OY W B v l) (hk : ∀ g, v.ownBlock = some g → W'.heap[g]? = W.heap[g]?) : OY W' B v l := by
  refine ⟨h.1, ?_⟩
  rcases h.2 with h2 | ⟨g, cap, cur, hv, hb, hg, r⟩
  · exact .inl h2
  · exact .inr ⟨g, cap, cur, hv, hb, (hk g (by rw [hv]; rfl)).trans hg, r⟩
theorem OY.below' (h : OY W B v l) (hb : Below W.heap.size W W') : OY W' B v l := h.keep fun g hg => hb.block g (h.lt g hg).2
theorem OY.alloc (h : OY W B v l) (o : Obj) : OY (W.alloc o) B v l := h.below' ((Below.refl _ _).alloc (Nat.le_refl _) o)
theorem OY.cell {g cap n : Nat} (h : OY W B (.slice (some ⟨g, 0, none⟩) n cap) l) {i x : Nat} (hi : l[i]? = some x) : W.cell? ⟨g, i, none⟩ = some (.int .u8 (x : Int)) := by
  have := World.ownsRow.cells h (g := g) rfl i _ (yc_some hi)
  rwa [Addr.add_mid, Nat.zero_add] at this
theorem OY.lit (W : World) (l : List Nat) (hB : B ≤ W.heap.size) (hm : l.length ≤ maxLen) : OY (W.alloc (.cells (yc l).toArray 5)) B (.slice (some ⟨W.heap.size, 0, none⟩) l.length l.length) l := by
  have := World.ownsRow_lit (e := 5) (size := 1) W (yc l).toArray l.length hB hm (by simp [yc_length])
  simpa [OY] using this
end
theorem infoY : (Try.prog.info? 5).map (fun i => (i.zero, i.size, i.bytes)) = some (some (.int .u8 0), 1, 1) := by kernel_rfl
/-- a number is put behind a row of numbers: a step of a region that draws -/
theorem step_appI {ops : Array Oper} {o : Oper} {a : Act} {W : World} {K : Act → World → Prop} {Q : Exit → Act → World → Prop} {E : Prop} (hgd : o.guard = none) (s x : Operand)
    (ho : o.op = .call { callee := .builtin .append, args := #[s, x], argTypes := #[44, 44] }) (B : Nat) {v : Value} {l : List Int} {y : Int} {b c : Nat} (hs : a.eval s = v) (hR : OI W B v l) (hM : l.length ≤ 1000)
    (hx : a.eval x = .slice (some ⟨b, 0, none⟩) 1 c) (hy : W.cell? ⟨b, 0, none⟩ = some (.int .i64 y)) (hB : B ≤ W.heap.size)
    (h : ∀ g cap W', OI W' B (.slice (some ⟨g, 0, none⟩) (l.length + 1) cap) (l ++ [y]) → W.grownBy W' v.ownBlock → (v.ownBlock = some g ∨ g = W.heap.size) → K (a.put o.dst (.slice (some ⟨g, 0, none⟩) (l.length + 1) cap)) W') :
    if Region.wanted o (yielded ops a.tmps) = true then Oper.wp Try.prog o a W K Q else E := by
  obtain ⟨i0, hi, hz0, hz1, hz2⟩ := info_parts infoI
  refine step_append_lies W hgd s x 44 ho B 3 i0 _ 1 8 Try.underlying44 hi hz0 hz1 hz2 rfl (by decide) v l.length (ic l) hs hR ⟨b, 0, none⟩ 1 c (ic [y]) hx rfl ?_ (ic_one [y]) (by omega) (by unfold maxLen; omega) (by omega) hB W.heap.size rfl ?_
  · intro j u hj
    cases j with
    | zero =>
      simp [ic] at hj
      subst hj
      rw [Addr.add_mid]; exact hy
    | succ j => simp [ic] at hj
  · intro g cap W' hown hg hat _
    refine h g cap W' ?_ hg hat
    unfold OI
    rw [List.length_append, ic_append]
    exact hown
/-- a whole snapshot is read out of a longer block -/
theorem wpList_load27r {ops : Array Oper} {rest : List Oper} {op : Oper} {a : Act} {w : World} {Q : Exit → Act → World → Prop} (hgd : Region.wanted op (yielded ops a.tmps) = true) (x : Operand) (ho : op.op = .load 36 x)
    (b : Nat) (s : St) (vc vw : Value) (hx : a.eval x = .pointer (some ⟨b, 0, none⟩)) (hr : w.rangeAt b 0 (nv s vc vw))
    (h : wpList Try.prog ops Q rest (a.put op.dst (.agg (nv s vc vw).toArray)) w) : wpList Try.prog ops Q (op :: rest) a w :=
  wpList_step fun _ hK => by
    rw [if_pos hgd]
    unfold Oper.wp execOp
    simp only [ho, Sem.run_bind, Sem.run_pure, Result.andThen_ok, hx, load27 w b s vc vw hr]
    exact hK _ _ h
theorem quiet_load27r {C : World → Prop} {K : Act → Prop} {o : Oper} {a : Act} (x : Operand) (b : Nat) (s : St) (vc vw : Value) (ho : o.op = .load 36 x) (hx : a.eval x = .pointer (some ⟨b, 0, none⟩)) (hr : ∀ w, C w → w.rangeAt b 0 (nv s vc vw))
    (h : K (a.put o.dst (.agg (nv s vc vw).toArray))) : o.quiet Try.prog a C K :=
  quiet_val _ (fun w hw => by unfold execOp; simp only [ho, hx, Sem.run_bind, Sem.run_pure, Result.andThen_ok, load27 w b s vc vw (hr w hw)]) h

/-- a search's cells -/
def xc (s : St) (vc vw : Value) (B : Nat) (vp : Value) (x : Sx) (vm : Value) : List Value := nv s vc vw ++ [.int .i64 (B : Int), vp, .int .i64 x.cost, .int .i64 (x.nodes : Int), .bool x.ended, vm]
theorem xc_length (s : St) (vc vw : Value) (B : Nat) (vp : Value) (x : Sx) (vm : Value) : (xc s vc vw B vp x vm).length = 21 := rfl
/-- what may be read beside it -/
def Dv (xb : Nat) (vm : Value) (g : Nat) : Prop := g ≠ xb ∧ vm.ownBlock ≠ some g
/-- what a visit writes -/
structure Mv (xb : Nat) (vm vm' : Value) (w w' : World) : Prop where
  kp : Kp (fun i => i = xb ∨ vm.ownBlock = some i) w w'
  own : vm'.ownBlock = vm.ownBlock ∨ ∀ g, vm'.ownBlock = some g → w.heap.size ≤ g
section
variable {xb : Nat} {vm vm' vm'' : Value} {w w' w'' : World}
theorem Mv.below (xb : Nat) (vm : Value) (h : Below w.heap.size w w') : Mv xb vm vm w w' := ⟨Kp.ofBelow _ h, .inl rfl⟩
theorem Mv.refl (xb : Nat) (vm : Value) (w : World) : Mv xb vm vm w w := Mv.below xb vm (Below.refl _ _)
theorem Mv.trans (h : Mv xb vm vm' w w') (k : Mv xb vm' vm'' w' w'') : Mv xb vm vm'' w w'' := by
  refine ⟨h.kp.trans k.kp (fun i hi e => ?_), ?_⟩
  · rcases e with e | e
    · exact .inl e
    · rcases h.own with o | o
      · exact .inr (o.symm.trans e)
      · have := o i e; omega
  · rcases k.own with o | o
    · rcases h.own with o' | o'
      · exact .inl (o.trans o')
      · exact .inr fun g hg => o' g (o.symm.trans hg)
    · exact .inr fun g hg => Nat.le_trans h.kp.size (o g hg)
theorem Mv.set {xb i : Nat} {vm : Value} {v : Value} (w : World) : Mv xb vm vm w (w.setCell ⟨xb, i, none⟩ v) := ⟨(Kp.refl _ w).set xb i v (fun _ => .inl rfl), .inl rfl⟩
theorem Mv.dv (h : Mv xb vm vm' w w') {g : Nat} (hg : Dv xb vm g) (hlt : g < w.heap.size) : Dv xb vm' g := ⟨hg.1, fun e => by
  rcases h.own with o | o
  · exact hg.2 (o.symm.trans e)
  · have := o g e; omega⟩
theorem Mv.block (h : Mv xb vm vm' w w') {g : Nat} (hg : Dv xb vm g) (hlt : g < w.heap.size) : w'.heap[g]? = w.heap[g]? := h.kp.block g hlt (fun e => e.elim hg.1 hg.2)
theorem Mv.rl (h : Mv xb vm vm' w w') {v : Value} {p : List (List Int)} (hp : RL (Dv xb vm) w v p) : RL (Dv xb vm') w' v p :=
  RL.keep (hp.mono (D' := fun g => Dv xb vm' g ∧ Dv xb vm g) (fun _ hg hlt _ => ⟨h.dv hg hlt, hg⟩)) h.kp.size (fun _ hg hlt => h.block hg.2 hlt) |>.mono fun _ hg _ _ => hg.1
theorem Mv.ri (h : Mv xb vm vm' w w') {v : Value} {p : List Int} (hp : RI (Dv xb vm) w v p) : RI (Dv xb vm') w' v p :=
  RI.keep (hp.mono (D' := fun g => Dv xb vm' g ∧ Dv xb vm g) (fun _ hg hlt _ => ⟨h.dv hg hlt, hg⟩)) h.kp.size (fun _ hg hlt => h.block hg.2 hlt) |>.mono fun _ hg _ _ => hg.1
theorem Mv.r2 (h : Mv xb vm vm' w w') {v : Value} {p : List (Int × Int)} (hp : R2 (Dv xb vm) w v p) : R2 (Dv xb vm') w' v p :=
  R2.keep (hp.mono (D' := fun g => Dv xb vm' g ∧ Dv xb vm g) (fun _ hg hlt _ => ⟨h.dv hg hlt, hg⟩)) h.kp.size (fun _ hg hlt => h.block hg.2 hlt) |>.mono fun _ hg _ _ => hg.1
end
section
variable {W W' : World} {xb : Nat} {s : Sn} {vc vw : Value} {B : Nat} {x : Sx} {vp vm : Value}
end

section
variable {W W' : World} {B g : Nat} {us : List Value} {p : List (List Int)}
/-- a list is laid in a block of its own -/
theorem OW.put (h : OW W B g us p) {c : Nat} {u' : Value} {l : List Int} (hcp : c < p.length) (hb : Below W.heap.size W W') (hf : ∀ q, u'.ownBlock = some q → W.heap.size ≤ q) (ho : OI W' B u' l) : OW (W'.setCell ⟨g, c, none⟩ u') B g (us.set c u') (p.set c l) := by
  have hlt := h.lt
  have hcl : c < us.length := by rw [h.len]; exact hcp
  have keep : ∀ j, j ≠ g → (W'.setCell ⟨g, c, none⟩ u').heap[j]? = W'.heap[j]? := fun j hj => Below.heap_setCell W' ⟨g, c, none⟩ _ j hj
  have hlts : ∀ (d : Nat) v k, us[d]? = some v → v.ownBlock = some k → k < W.heap.size := fun d v k hv hk => by
    obtain ⟨l', hl'⟩ : ∃ l', p[d]? = some l' := ⟨_, List.getElem?_eq_getElem (by rw [← h.len]; exact (List.getElem?_eq_some_iff.1 hv).1)⟩
    exact ((h.li d v l' hv hl').lt k hk).2
  refine ⟨blk_set ((hb.block g hlt).trans h.hl) c u', by rw [List.length_set, List.length_set]; exact h.len, fun d v l' hv hl' => ?_, h.bg, fun d v hv => ?_, fun d e v v' k hv hv' hk hk' => ?_⟩
  · by_cases e : c = d
    · subst e
      rw [List.getElem?_set_self hcl] at hv
      rw [List.getElem?_set_self hcp] at hl'
      cases hv
      cases hl'
      exact ho.keep fun k hk => keep k (by have := hf k hk; omega)
    · rw [List.getElem?_set_ne e] at hv hl'
      have ho' := (h.li d v l' hv hl').below' hb
      exact ho'.keep fun k hk => keep k (fun e' => by subst e'; exact h.ne d v hv hk)
  · by_cases e : c = d
    · subst e
      rw [List.getElem?_set_self hcl] at hv
      cases hv
      exact fun e => by have := hf g e; omega
    · rw [List.getElem?_set_ne e] at hv
      exact h.ne d v hv
  · by_cases e1 : c = d
    · by_cases e2 : c = e
      · omega
      · subst e1
        rw [List.getElem?_set_self hcl] at hv
        rw [List.getElem?_set_ne e2] at hv'
        cases hv
        have h1 := hf k hk
        have h2 := hlts e v' k hv' hk'
        omega
    · by_cases e2 : c = e
      · subst e2
        rw [List.getElem?_set_self hcl] at hv'
        rw [List.getElem?_set_ne e1] at hv
        cases hv'
        have h1 := hf k hk'
        have h2 := hlts d v k hv hk
        omega
      · rw [List.getElem?_set_ne e1] at hv
        rw [List.getElem?_set_ne e2] at hv'
        exact h.dj d e v v' k hv hv' hk hk'
/-- a copy, as far as its first lists are laid -/
def cpk (p : List (List Int)) (c : Nat) : List (List Int) := p.take c ++ List.replicate (p.length - c) []
theorem cpk_zero (p : List (List Int)) : cpk p 0 = List.replicate p.length [] := by unfold cpk; simp
theorem cpk_end (p : List (List Int)) : cpk p p.length = p := by unfold cpk; simp
theorem cpk_length {p : List (List Int)} {c : Nat} (h : c ≤ p.length) : (cpk p c).length = p.length := by unfold cpk; simp; omega
theorem cpk_succ {p : List (List Int)} {c : Nat} {l : List Int} (h : p[c]? = some l) : (cpk p c).set c l = cpk p (c + 1) := by
  have hc : c < p.length := (List.getElem?_eq_some_iff.1 h).1
  unfold cpk
  rw [List.set_append_right _ _ (by rw [List.length_take]; omega), List.length_take, show c - min c p.length = 0 by omega, show p.length - c = (p.length - (c + 1)) + 1 by omega, List.replicate_succ, List.set_cons_zero, take_snoc h, List.append_assoc]
  rfl
end

section
variable {s : Sn} {B : Nat}
/-- one mark for each node -/
theorem vis_ml : ∀ (f k : Nat) (b : List (List Int)) (st : List Bool) (x : Sx), x.marks.length = x.nodes → (vis s B f k b st x).marks.length = (vis s B f k b st x).nodes
  | 0, _, _, _, _, h => h
  | f + 1, k, b, st, x, h => by
    show (vst s B (vis s B f) k b st x).marks.length = (vst s B (vis s B f) k b st x).nodes
    have hs : ∀ (m : Nat), (x.marks ++ [m]).length = x.nodes + 1 := fun m => by rw [List.length_append, h]; rfl
    unfold vst
    by_cases h1 : x.ended = true
    · rw [if_pos h1]; exact h
    · rw [if_neg h1]
      by_cases h2 : x.nodes = B
      · rw [if_pos h2]; exact h
      · rw [if_neg h2]
        by_cases h3 : lfs s st = []
        · rw [if_pos h3]
          by_cases h4 : RM.cst s.st s.ws s.cs b < x.cost
          · rw [if_pos h4]; exact hs 2
          · rw [if_neg h4]; exact hs 2
        · rw [if_neg h3]
          by_cases h5 : x.cost ≤ lsv s k b st
          · rw [if_pos h5]; exact hs 0
          · rw [if_neg h5]
            have hk := kids_rel (s := s) (R := fun x y => x.marks.length = x.nodes → y.marks.length = y.nodes) (fun _ h => h) (fun _ _ _ h g e => g (h e)) (go := vis s B f) (k := k) (b := b) (st := st) (lfs s st) (fun w _ _ y => vis_ml f k _ _ y) ⟨x.nodes + 1, false, x.plan, x.cost, x.marks ++ [1]⟩ (hs 1)
            unfold nxt
            split
            · exact vis_ml f (k + 1) b st _ hk
            · exact hk
end

end Go.Proofs.Ytdfdkddjkhcgdai
