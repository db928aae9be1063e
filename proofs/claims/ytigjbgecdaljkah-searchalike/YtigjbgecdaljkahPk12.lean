/- Several texts in one, each with its own head. -/
import Derived.Test.YtigjbgecdaljkahPk9
import Derived.Test.YtigjbgecdaljkahPlR
import Derived.Test.YtigjbgecdaljkahPk4
import Derived.Test.YtigjbgecdaljkahPk1
import Derived.Test.YtigjbgecdaljkahPk10
/- Whether a plan may be, as the document tells it. -/
namespace Go.Proofs.Ytigjbgecdaljkah
open Go.RowKit

/-- the cells of counts -/
def nc (ct : List Nat) : List Value := ct.map fun (n : Nat) => Value.int .i64 (n : Int)
theorem nc_some {ct : List Nat} {i x : Nat} (h : ct[i]? = some x) : (nc ct)[i]? = some (.int .i64 (x : Int)) := by unfold nc; rw [List.getElem?_map, h]; rfl
theorem nc_set (ct : List Nat) (i x : Nat) : (nc ct).set i (.int .i64 (x : Int)) = nc (ct.set i x) := by unfold nc; rw [List.map_set]
theorem nc_rep (n : Nat) : nc (List.replicate n 0) = List.replicate n (Value.int .i64 0) := by unfold nc; rw [List.map_replicate]; rfl
/-- what holds while the document looks at a plan -/
structure Gq (w W : World) (cb : Nat) (s : Sn) (D : Nat → Prop) (vc vw vp : Value) (p : List (List Int)) (ct : List Nat) : Prop where
  nb : NB W w.heap.size s.st vc vw
  lo : w.heap.size < cb
  hc : W.heap[cb]? = some (.cells (nc ct).toArray 3 (0, 0))
  rp : RL D W vp p
  rw : R2 D W vw s.ws
  dl : ∀ g, D g → g < w.heap.size
  bel : Below w.heap.size w W
  cl : ct.length = s.ws.length
section
variable {w W W' : World} {cb : Nat} {s : Sn} {D : Nat → Prop} {vc vw vp : Value} {p : List (List Int)} {ct : List Nat}
theorem Gq.next (h : Gq w W cb s D vc vw vp p ct) (hb : Below W.heap.size W W') : Gq w W' cb s D vc vw vp p ct :=
  ⟨h.nb.below' hb, h.lo, (hb.block cb (Array.getElem?_eq_some_iff.1 h.hc).1).trans h.hc, h.rp.below' hb, h.rw.below' hb, h.dl, below_class h.bel hb, h.cl⟩
theorem Gq.put (h : Gq w W cb s D vc vw vp p ct) (i x : Nat) : Gq w (W.setCell ⟨cb, i, none⟩ (.int .i64 (x : Int))) cb s D vc vw vp p (ct.set i x) := by
  have keep : ∀ k, k ≠ cb → (W.setCell ⟨cb, i, none⟩ (.int .i64 (x : Int))).heap[k]? = W.heap[k]? := fun k hk => Below.heap_setCell W ⟨cb, i, none⟩ _ k hk
  have hl := h.lo
  refine ⟨(keep _ (by omega)).trans h.nb, h.lo, by rw [← nc_set]; exact blk_set h.hc i _, h.rp.keep (by simp [World.setCell]) fun g hg _ => keep g (by have := h.dl g hg; omega), h.rw.keep (by simp [World.setCell]) fun g hg _ => keep g (by have := h.dl g hg; omega), h.dl, h.bel.setCell (p := ⟨cb, i, none⟩) (Nat.le_of_lt h.lo) _, by rw [List.length_set]; exact h.cl⟩
end
/-- what is left of the look: R is the whole's outcome -/
def Cf (R : Option (List Nat)) (ms : List Nat) (k : Nat) (ct : List Nat) (l : List Int) (p : List (List Int)) : Prop := R = (PM.cnt1 ms k ct l).bind fun ct' => PM.cnts ms (k + 1) ct' p
theorem Cf.no {R : Option (List Nat)} {ms : List Nat} {k : Nat} {ct : List Nat} {x : Int} {l : List Int} {p : List (List Int)} (h : Cf R ms k ct (x :: l) p) (hx : PM.okx ms k x = false) : R = none := by
  unfold Cf at h
  rw [h, PM.cnt1, if_neg (by rw [hx]; simp)]; rfl
theorem Cf.yes {R : Option (List Nat)} {ms : List Nat} {k : Nat} {ct : List Nat} {x : Int} {l : List Int} {p : List (List Int)} (h : Cf R ms k ct (x :: l) p) (hx : PM.okx ms k x = true) : Cf R ms k (ct.set x.toNat (ct[x.toNat]?.getD 0 + 1)) l p := by
  unfold Cf at h ⊢
  rw [h, PM.cnt1, if_pos hx]
theorem rfeas_none {ms : List Nat} {p : List (List Int)} (h : PM.cnts ms 0 (List.replicate ms.length 0) p = none) : PM.feas ms p = false := by rw [PM.feas_rfeas]; unfold PM.rfeas; rw [h]; rfl
theorem rfeas_some {ms : List Nat} {p : List (List Int)} {ct : List Nat} (h : PM.cnts ms 0 (List.replicate ms.length 0) p = some ct) : PM.feas ms p = ct.all (· == 1) := by rw [PM.feas_rfeas]; unfold PM.rfeas; rw [h]; rfl

end Go.Proofs.Ytigjbgecdaljkah

/- A list is put behind a row of numbers. -/
namespace Go.Proofs.Ytigjbgecdaljkah
open Go.RowKit

/-- a list is put behind a row of numbers -/
theorem wpList_appendRI {ops : Array Oper} {rest : List Oper} {o : Oper} {a : Act} {w : World} {Q : Exit → Act → World → Prop} (hgd : o.guard = none) (s x : Operand)
    (ho : o.op = .call { callee := .builtin .append, args := #[s, x], argTypes := #[42, 42] })
    (B : Nat) (v u : Value) (l m : List Int) (D : Nat → Prop) (hs : a.eval s = v) (hown : OI w B v l) (hx : a.eval x = u) (hr : RI D w u m)
    (h63 : l.length + m.length ≤ 1000000) (hB : B ≤ w.heap.size)
    (h : ∀ v' w', OI w' B v' (l ++ m) → w.grownBy w' v.ownBlock → wpList Try.prog ops Q rest (a.put o.dst v') w') : wpList Try.prog ops Q (o :: rest) a w := by
  obtain ⟨ao, cap, rfl, hc, hn⟩ := hr.form
  obtain ⟨i0, hi, hz0, hz1, hz2⟩ := info_parts infoI
  cases ao with
  | none =>
    obtain rfl : cap = 0 := hn rfl
    obtain rfl : m = [] := List.length_eq_zero_iff.1 (by omega)
    refine wpList_append_own_none hgd s x 42 ho B 3 i0 1 Try.underlying42 hi v l.length (ic l) hs hown (by rw [hx]; rfl) ?_
    refine h v w ?_ (World.grownBy.refl w _)
    rw [List.append_nil]; exact hown
  | some ad =>
    refine wpList_append_own w hgd s x 42 ho B 3 i0 _ 1 8 Try.underlying42 hi hz0 hz1 hz2 rfl (by decide) v l.length (ic l) hs hown ad m.length cap (ic m) hx (by rw [ic_length, Nat.mul_one]) ?_ (ic_one m) (by unfold maxLen; omega) (by omega) hB ?_
    · intro j u hj
      obtain ⟨y, hy, rfl⟩ := ic_get hj
      obtain ⟨g, o', e, hc'⟩ := hr.at hy
      cases e
      rw [Addr.add_mid]; exact hc'
    · intro v' w' h1 h2 _
      refine h v' w' ?_ h2
      unfold OI
      rw [List.length_append, ic_append]
      exact h1
theorem grown_none {w w' : World} (h : w.grownBy w' none) : Below w.heap.size w w' := ⟨h.os, h.tape, h.output, h.size, fun k hk => h.block k hk (fun e => by cases e)⟩
theorem own_some {g n c q : Nat} (h : (Value.slice (some ⟨g, 0, none⟩) n c).ownBlock = some q) : g = q := by simpa [Value.ownBlock] using h

end Go.Proofs.Ytigjbgecdaljkah

/- A plan with a want taken out, put in twice, put elsewhere; with a list turned round. No program is named here. -/
namespace Go.Proofs.Ytigjbgecdaljkah.PM

/-- without w -/
def fw (w : Int) (l : List Int) : List Int := l.filter (fun x => decide (x ≠ w))
/-- w is put behind once for each time that it stands -/
def tw (w : Int) (l : List Int) : List Int := l ++ List.replicate (l.count w) w
theorem fw_snoc (w x : Int) (l : List Int) : fw w (l ++ [x]) = if x = w then fw w l else fw w l ++ [x] := by
  unfold fw
  rw [List.filter_append]
  by_cases h : x = w
  · simp [h]
  · simp [h]
theorem count_flat_set {x : Int} : ∀ {p : List (List Int)} {c : Nat} {l l' : List Int}, p[c]? = some l → (p.set c l').flatten.count x + l.count x = p.flatten.count x + l'.count x
  | [], _, _, _, h => by simp at h
  | a :: p, 0, l, l', h => by
    simp at h
    subst h
    simp only [List.set_cons_zero, List.flatten_cons, List.count_append]
    omega
  | a :: p, c + 1, l, l', h => by
    have := count_flat_set (x := x) (p := p) (c := c) (l := l) (l' := l') (by simpa using h)
    simp only [List.set_cons_succ, List.flatten_cons, List.count_append]
    omega
theorem count_fw (w x : Int) : ∀ (p : List (List Int)), (p.map (fw w)).flatten.count x = if x = w then 0 else p.flatten.count x
  | [] => by simp
  | l :: p => by
    rw [List.map_cons, List.flatten_cons, List.count_append, count_fw w x p, List.flatten_cons, List.count_append]
    have h : (fw w l).count x = if x = w then 0 else l.count x := by
      unfold fw
      by_cases e : x = w
      · subst e
        rw [if_pos rfl, List.count_eq_zero]
        intro hm
        simp at hm
      · rw [if_neg e, List.count_filter (by simp [e])]
    rw [h]
    split <;> omega
theorem count_tw (w : Int) : ∀ (p : List (List Int)), (p.map (tw w)).flatten.count w = 2 * p.flatten.count w
  | [] => by simp
  | l :: p => by
    rw [List.map_cons, List.flatten_cons, List.count_append, count_tw w p, List.flatten_cons, List.count_append]
    have h : (tw w l).count w = 2 * l.count w := by
      unfold tw
      rw [List.count_append, List.count_replicate_self]
      omega
    omega
theorem out_not {ms : List Nat} {p : List (List Int)} {w : Nat} (hw : w < ms.length) : ¬ Fz ms (p.map (fw (w : Int))) := fun h => by
  have := h.once w hw
  rw [count_fw, if_pos rfl] at this
  omega
theorem twice_not {ms : List Nat} {p : List (List Int)} {w : Nat} (hw : w < ms.length) (hp : Fz ms p) : ¬ Fz ms (p.map (tw (w : Int))) := fun h => by
  have := h.once w hw
  rw [count_tw, hp.once w hw] at this
  omega
theorem odd_iff {ms : List Nat} {p : List (List Int)} {w c : Nat} {l : List Int} (hw : w < ms.length) (hp : Fz ms p) (hc : p[c]? = some l) : Fz ms ((p.map (fw (w : Int))).set c (fw (w : Int) l ++ [(w : Int)])) ↔ bt (ms[w]?.getD 0) c = true := by
  have hcl := (List.getElem?_eq_some_iff.1 hc).1
  have hm : (p.map (fw (w : Int)))[c]? = some (fw (w : Int) l) := by rw [List.getElem?_map, hc]; rfl
  constructor
  · intro h
    have := h.ok c (fw (w : Int) l ++ [(w : Int)]) (by rw [List.getElem?_set_self (by simpa using hcl)]) (w : Int) (by simp)
    have h2 := (okx_iff.1 this).2.2
    rwa [Int.toNat_natCast] at h2
  · intro hb
    refine ⟨fun d k hd x hx => ?_, fun v hv => ?_⟩
    · by_cases e : c = d
      · subst e
        rw [List.getElem?_set_self (by simpa using hcl)] at hd
        cases hd
        rcases List.mem_append.1 hx with hx | hx
        · exact hp.ok c l hc x ((List.mem_filter.1 hx).1)
        · simp at hx
          subst hx
          exact okx_iff.2 ⟨by omega, by omega, by rw [Int.toNat_natCast]; exact hb⟩
      · rw [List.getElem?_set_ne e, List.getElem?_map] at hd
        cases hq : p[d]? with
        | none => rw [hq] at hd; simp at hd
        | some q =>
          rw [hq] at hd
          simp at hd
          subst hd
          exact hp.ok d q hq x ((List.mem_filter.1 hx).1)
    · have h1 := count_flat_set (x := (v : Int)) (l' := fw (w : Int) l ++ [(w : Int)]) hm
      rw [count_fw, List.count_append] at h1
      have h2 := hp.once v hv
      by_cases e : (v : Int) = (w : Int)
      · rw [if_pos e] at h1
        have h3 : [(w : Int)].count (v : Int) = 1 := by rw [e]; simp
        omega
      · rw [if_neg e] at h1
        have h3 : [(w : Int)].count (v : Int) = 0 := by rw [List.count_eq_zero]; simp; exact fun h => e (by omega)
        omega
theorem turned_fz {ms : List Nat} {p : List (List Int)} {c : Nat} {l l' : List Int} (hp : Fz ms p) (hc : p[c]? = some l) (hl : l'.Perm l) : Fz ms (p.set c l') := by
  have hcl := (List.getElem?_eq_some_iff.1 hc).1
  refine ⟨fun d k hd x hx => ?_, fun v hv => ?_⟩
  · by_cases e : c = d
    · subst e
      rw [List.getElem?_set_self hcl] at hd
      cases hd
      exact hp.ok c l hc x (hl.mem_iff.1 hx)
    · rw [List.getElem?_set_ne e] at hd
      exact hp.ok d k hd x hx
  · have h1 := count_flat_set (x := (v : Int)) (l' := l') hc
    have h2 := hp.once v hv
    rw [hl.count_eq] at h1
    omega
/-- who holds it -/
theorem home_lt {ms : List Nat} {p : List (List Int)} {w : Nat} (hw : w < ms.length) (hp : Fz ms p) : 0 < p.length := by
  cases p with
  | nil => have := hp.once w hw; simp at this
  | cons a p => simp

end Go.Proofs.Ytigjbgecdaljkah.PM

/- Rows that grow, in blocks of their own: numbers, and lists of numbers. -/
namespace Go.Proofs.Ytigjbgecdaljkah
open Go.RowKit Go.Shelf

/-- a row of slices that is owned -/
def OP (W : World) (B : Nat) (v : Value) (us : List Value) : Prop := W.ownsRow B 42 1 v us.length us
section
variable {W W' : World} {B : Nat} {v : Value} {us : List Value}
theorem OP.lt (h : OP W B v us) : ∀ g, v.ownBlock = some g → B ≤ g ∧ g < W.heap.size := World.ownsRow.lt h
theorem OP.keep (h : OP W B v us) (hk : ∀ g, v.ownBlock = some g → W'.heap[g]? = W.heap[g]?) : OP W' B v us := by
  refine ⟨h.1, ?_⟩
  rcases h.2 with h1 | ⟨g, cap, cur, hv, hb, hg, hc⟩
  · exact .inl h1
  · exact .inr ⟨g, cap, cur, hv, hb, (hk g (by rw [hv]; rfl)).trans hg, hc⟩
theorem OP.below' (h : OP W B v us) (hb : Below W.heap.size W W') : OP W' B v us := h.keep fun g hg => hb.block g (h.lt g hg).2
theorem OP.cell {g cap n : Nat} (h : OP W B (.slice (some ⟨g, 0, none⟩) n cap) us) {i : Nat} {u : Value} (hi : us[i]? = some u) : W.cell? ⟨g, i, none⟩ = some u := by
  have := World.ownsRow.cells h (g := g) rfl i u hi
  rwa [Addr.add_mid, Nat.zero_add] at this
/-- an owned row of lists that are read is a plan -/
theorem OP.rl {D : Nat → Prop} {g cap : Nat} {p : List (List Int)} (h : OP W B (.slice (some ⟨g, 0, none⟩) us.length cap) us) (hD : D g) (hlen : us.length = p.length) (hr : ∀ (i : Nat) u l, us[i]? = some u → p[i]? = some l → RI D W u l) : RL D W (.slice (some ⟨g, 0, none⟩) us.length cap) p := by
  have hlt := (h.lt g rfl).2
  have hcap : us.length ≤ cap := by
    rcases h.2 with ⟨h1, _⟩ | ⟨g', cap', cur, hv, _, _, hc, _⟩
    · cases h1
    · cases hv; exact hc
  refine ⟨_, cap, by rw [hlen], by omega, (fun e => by cases e), ?_⟩
  by_cases hp : p = []
  · exact .inl hp
  · refine .inr ⟨g, 0, rfl, hD, hlt, fun i l hl => ?_⟩
    have hi : i < us.length := by rw [hlen]; exact (List.getElem?_eq_some_iff.1 hl).1
    refine ⟨us[i], ?_, hr i _ l (List.getElem?_eq_getElem hi) hl⟩
    rw [Nat.zero_add]
    exact h.cell (List.getElem?_eq_getElem hi)
end
theorem infoP : (Try.prog.info? 42).map (fun i => (i.zero, i.size, i.bytes)) = some (some (.slice none 0 0), 1, 24) := by kernel_rfl
/-- a list is put behind a row of lists -/
theorem wpList_appP {ops : Array Oper} {rest : List Oper} {o : Oper} {a : Act} {w : World} {Q : Exit → Act → World → Prop} (hgd : o.guard = none) (s x : Operand)
    (ho : o.op = .call { callee := .builtin .append, args := #[s, x], argTypes := #[32, 32] })
    (B : Nat) (v : Value) (us : List Value) (hs : a.eval s = v) (hown : OP w B v us) (g c : Nat) (u : Value) (hx : a.eval x = .slice (some ⟨g, 0, none⟩) 1 c) (hc : w.cell? ⟨g, 0, none⟩ = some u) (hu : u.oneCell' = true)
    (h63 : us.length ≤ 1000000) (hB : B ≤ w.heap.size)
    (h : ∀ g' cap w', OP w' B (.slice (some ⟨g', 0, none⟩) (us.length + 1) cap) (us ++ [u]) → w.grownBy w' v.ownBlock → (v.ownBlock = some g' ∨ g' = w.heap.size) → g' < w'.heap.size → wpList Try.prog ops Q rest (a.put o.dst (.slice (some ⟨g', 0, none⟩) (us.length + 1) cap)) w') : wpList Try.prog ops Q (o :: rest) a w := by
  obtain ⟨i0, hi, hz0, hz1, hz2⟩ := info_parts infoP
  refine wpList_append_lies w hgd s x 32 ho B 42 i0 _ 1 24 Try.underlying32 hi hz0 hz1 hz2 rfl (by decide) v us.length us hs hown ⟨g, 0, none⟩ 1 c [u] hx rfl ?_ ?_ (by omega) (by unfold maxLen; omega) (by omega) hB w.heap.size rfl ?_
  · intro j y hj
    cases j with
    | zero => simp at hj; subst hj; rw [Addr.add_mid]; exact hc
    | succ j => simp at hj
  · intro y hy
    simp at hy
    subst hy
    exact hu
  · intro g' cap w' h1 h2 h3 h4
    refine h g' cap w' ?_ h2 h3 h4
    unfold OP
    rw [List.length_append]
    exact h1
/-- a number is put behind a row of numbers -/
theorem wpList_appI {ops : Array Oper} {rest : List Oper} {o : Oper} {a : Act} {w : World} {Q : Exit → Act → World → Prop} (hgd : o.guard = none) (s x : Operand)
    (ho : o.op = .call { callee := .builtin .append, args := #[s, x], argTypes := #[42, 42] })
    (B : Nat) (v : Value) (l : List Int) (hs : a.eval s = v) (hown : OI w B v l) (g c : Nat) (y : Int) (hx : a.eval x = .slice (some ⟨g, 0, none⟩) 1 c) (hc : w.cell? ⟨g, 0, none⟩ = some (.int .i64 y))
    (h63 : l.length ≤ 1000000) (hB : B ≤ w.heap.size)
    (h : ∀ g' cap w', OI w' B (.slice (some ⟨g', 0, none⟩) (l.length + 1) cap) (l ++ [y]) → w.grownBy w' v.ownBlock → (v.ownBlock = some g' ∨ g' = w.heap.size) → g' < w'.heap.size → wpList Try.prog ops Q rest (a.put o.dst (.slice (some ⟨g', 0, none⟩) (l.length + 1) cap)) w') : wpList Try.prog ops Q (o :: rest) a w := by
  obtain ⟨i0, hi, hz0, hz1, hz2⟩ := info_parts infoI
  refine wpList_append_lies w hgd s x 42 ho B 3 i0 _ 1 8 Try.underlying42 hi hz0 hz1 hz2 rfl (by decide) v l.length (ic l) hs hown ⟨g, 0, none⟩ 1 c (ic [y]) hx rfl ?_ (ic_one [y]) (by omega) (by unfold maxLen; omega) (by omega) hB w.heap.size rfl ?_
  · intro j u hj
    cases j with
    | zero =>
      simp [ic] at hj
      subst hj
      rw [Addr.add_mid]; exact hc
    | succ j => simp [ic] at hj
  · intro g' cap w' h1 h2 h3 h4
    refine h g' cap w' ?_ h2 h3 h4
    unfold OI
    rw [List.length_append, ic_append]
    exact h1

theorem list_of' {α : Type} {P : Nat → α → Prop} : ∀ (n : Nat), (∀ i, i < n → ∃ z, P i z) → ∃ l : List α, l.length = n ∧ ∀ (i : Nat) z, l[i]? = some z → P i z
  | 0, _ => ⟨[], rfl, by simp⟩
  | n + 1, h => by
    obtain ⟨l, h1, h2⟩ := list_of' n (fun i hi => h i (by omega))
    obtain ⟨z, hz⟩ := h n (by omega)
    refine ⟨l ++ [z], by simp [h1], fun i x hx => ?_⟩
    by_cases hi : i < l.length
    · rw [List.getElem?_append_left hi] at hx; exact h2 i x hx
    · rw [List.getElem?_append_right (by omega)] at hx
      have hi0 : i - l.length = 0 := by
        have := (List.getElem?_eq_some_iff.1 hx).1
        simp at this
        omega
      rw [hi0] at hx
      simp at hx
      subst hx
      have : i = n := by omega
      subst this
      exact hz
section
variable {W W' : World} {B : Nat} {v : Value} {us : List Value}
theorem OP.nil (W : World) (hB : B ≤ W.heap.size) : OP (W.alloc (.cells #[] 42)) B (.slice (some ⟨W.heap.size, 0, none⟩) 0 0) [] :=
  World.ownsRow_lit (e := 42) (size := 1) W #[] 0 hB (by unfold maxLen; omega) (by simp)
theorem OP.len {a : Option Addr} {n cap : Nat} (h : OP W B (.slice a n cap) us) : n = us.length := by
  rcases h.2 with ⟨h1, h2⟩ | ⟨g, c, cur, h1, _⟩
  · cases h1; omega
  · cases h1; rfl
theorem OP.fr {g cap n : Nat} (h : OP W B (.slice (some ⟨g, 0, none⟩) n cap) us) (j : Nat) : W.frozen? ⟨g, j, none⟩ = false := by
  have hn := h.len
  subst hn
  exact World.ownsRow.frozenAt h j
/-- a list is written -/
theorem OP.put {g cap n : Nat} (h : OP W B (.slice (some ⟨g, 0, none⟩) n cap) us) (i : Nat) (u : Value) : OP (W.setCell ⟨g, i, none⟩ u) B (.slice (some ⟨g, 0, none⟩) n cap) (us.set i u) := by
  have hn := h.len
  subst hn
  have := (World.ownsRow.stored h i u).1
  unfold OP
  rw [List.length_set]
  exact this
theorem OP.mono {B' : Nat} (h : OP W B v us) (hB : B' ≤ B) : OP W B' v us := by
  refine ⟨h.1, ?_⟩
  rcases h.2 with h1 | ⟨g, cap, cur, hv, hb, hg⟩
  · exact .inl h1
  · exact .inr ⟨g, cap, cur, hv, by omega, hg⟩
end
/-- the slices of a plan that is read -/
theorem RL.slices {D : Nat → Prop} {W : World} {a : Option Addr} {n cap : Nat} {p : List (List Int)} (h : RL D W (.slice a n cap) p) : ∃ us : List Value, us.length = p.length ∧ (∀ u ∈ us, u.oneCell' = true) ∧ (∀ (i : Nat) u l, us[i]? = some u → p[i]? = some l → RI D W u l) ∧ ∀ ad, a = some ad → ∀ (j : Nat) u, us[j]? = some u → W.cell? (ad.add j) = some u := by
  obtain ⟨us, h1, h2⟩ := list_of' (P := fun i u => ∀ l, p[i]? = some l → RI D W u l ∧ ∀ ad, a = some ad → W.cell? (ad.add i) = some u) p.length (fun i hi => by
    have hl : p[i]? = some p[i] := List.getElem?_eq_getElem hi
    obtain ⟨g, o, rfl, u, hu, hr⟩ := h.at hl
    refine ⟨u, fun l hl' => ?_⟩
    rw [hl] at hl'
    cases hl'
    exact ⟨hr, fun ad e => by cases e; rw [Addr.add_mid]; exact hu⟩)
  have key : ∀ (i : Nat) u, us[i]? = some u → ∃ l, p[i]? = some l ∧ RI D W u l ∧ ∀ ad, a = some ad → W.cell? (ad.add i) = some u := fun i u hu => by
    have hi : i < p.length := by rw [← h1]; exact (List.getElem?_eq_some_iff.1 hu).1
    exact ⟨p[i], List.getElem?_eq_getElem hi, h2 i u hu _ (List.getElem?_eq_getElem hi)⟩
  refine ⟨us, h1, fun u hu => ?_, fun i u l hu hl => (h2 i u hu l hl).1, fun ad e j u hu => ?_⟩
  · obtain ⟨i, hi⟩ := List.getElem?_of_mem hu
    obtain ⟨l, _, hr, _⟩ := key i u hi
    obtain ⟨a', c', rfl, _, _⟩ := hr.form
    rfl
  · obtain ⟨l, _, _, hc⟩ := key j u hu
    exact hc ad e
/-- a plan's lists are put behind an owned row of lists -/
theorem wpList_appPs {ops : Array Oper} {rest : List Oper} {o : Oper} {a : Act} {w : World} {Q : Exit → Act → World → Prop} (hgd : o.guard = none) (s x : Operand)
    (ho : o.op = .call { callee := .builtin .append, args := #[s, x], argTypes := #[32, 32] })
    (B : Nat) (v u : Value) (us : List Value) (p : List (List Int)) (D : Nat → Prop) (hs : a.eval s = v) (hown : OP w B v us) (hx : a.eval x = u) (hr : RL D w u p)
    (h63 : us.length + p.length ≤ 1000000) (hB : B ≤ w.heap.size)
    (h : ∀ v' w' us', us'.length = p.length → (∀ (i : Nat) u l, us'[i]? = some u → p[i]? = some l → RI D w u l) → OP w' B v' (us ++ us') → w.grownBy w' v.ownBlock → wpList Try.prog ops Q rest (a.put o.dst v') w') : wpList Try.prog ops Q (o :: rest) a w := by
  obtain ⟨ao, cap, rfl, hc, hn⟩ := hr.form
  obtain ⟨us', e1, e2, e3, e4⟩ := hr.slices
  obtain ⟨i0, hi, hz0, hz1, hz2⟩ := info_parts infoP
  cases ao with
  | none =>
    obtain rfl : cap = 0 := hn rfl
    have e0 : us' = [] := List.length_eq_zero_iff.1 (by omega)
    refine wpList_append_own_none hgd s x 32 ho B 42 i0 1 Try.underlying32 hi v us.length us hs hown (by rw [hx, show p.length = 0 by omega]) ?_
    refine h v w us' e1 e3 ?_ (World.grownBy.refl w _)
    rw [e0, List.append_nil]; exact hown
  | some ad =>
    refine wpList_append_own w hgd s x 32 ho B 42 i0 _ 1 24 Try.underlying32 hi hz0 hz1 hz2 rfl (by decide) v us.length us hs hown ad p.length cap us' hx (by rw [e1, Nat.mul_one]) (e4 ad rfl) e2 (by unfold maxLen; omega) (by omega) hB ?_
    intro v' w' h1 h2 _
    refine h v' w' us' e1 e3 ?_ h2
    unfold OP
    rw [List.length_append, e1]
    exact h1

end Go.Proofs.Ytigjbgecdaljkah

/- Which beginnings there are, and what is left of the wants, as the document tells it. -/
namespace Go.Proofs.Ytigjbgecdaljkah
open Go.RowKit

/-- which wants stand in a beginning; none: it is no beginning -/
def bgn (s : Sn) (car : Int) (p : List (List Int)) : Option (List Bool) :=
  if (rgt s && decide (p.length = s.cs.length) && decide (0 ≤ car) && decide (car < (p.length : Int)) && (p.drop (car.toNat + 1)).all List.isEmpty) = true then PM.runs (msk s) 0 (List.replicate (msk s).length false) p else none
theorem bgn_not {s : Sn} {car : Int} {p : List (List Int)} (h : ¬ (rgt s = true ∧ p.length = s.cs.length ∧ 0 ≤ car ∧ car < (p.length : Int))) : bgn s car p = none := by
  unfold bgn
  rw [if_neg]
  simp only [Bool.and_eq_true, decide_eq_true_eq]
  exact fun g => h ⟨g.1.1.1.1, g.1.1.1.2, g.1.1.2, g.1.2⟩
/-- a list behind the car that isn't empty -/
theorem bgn_behind {s : Sn} {k c : Nat} {p : List (List Int)} {l : List Int} (hl : p[c]? = some l) (hc : k < c) (hn : l ≠ []) : bgn s (k : Int) p = none := by
  unfold bgn
  rw [if_neg]
  simp only [Bool.and_eq_true, List.all_eq_true]
  intro g
  have := g.2 l (List.mem_of_getElem? (i := c - (k + 1)) (by rw [Int.toNat_natCast, List.getElem?_drop, show k + 1 + (c - (k + 1)) = c by omega]; exact hl))
  exact hn (by simpa using this)
theorem bgn_runs {s : Sn} {k : Nat} {p : List (List Int)} (h1 : rgt s = true) (h2 : p.length = s.cs.length) (h3 : k < p.length) (h4 : ∀ (c : Nat) l, p[c]? = some l → k < c → l = []) : bgn s (k : Int) p = PM.runs (msk s) 0 (List.replicate (msk s).length false) p := by
  unfold bgn
  rw [if_pos]
  simp only [Bool.and_eq_true, decide_eq_true_eq, List.all_eq_true]
  refine ⟨⟨⟨⟨h1, h2⟩, by omega⟩, by omega⟩, fun l hl => ?_⟩
  obtain ⟨i, hi⟩ := List.getElem?_of_mem hl
  rw [Int.toNat_natCast, List.getElem?_drop] at hi
  rw [h4 _ l hi (by omega)]; rfl
theorem bgn_none {s : Sn} {k : Nat} {p : List (List Int)} (h : PM.runs (msk s) 0 (List.replicate (msk s).length false) p = none) : bgn s (k : Int) p = none := by
  unfold bgn
  rw [h]
  split <;> rfl
/-- the wants that are left, of the first k -/
def lfk (st : List Bool) (k : Nat) : List Int := ((List.range k).filter fun w => st[w]? == some false).map fun (w : Nat) => (w : Int)
theorem lfk_succ (st : List Bool) (k : Nat) : lfk st (k + 1) = lfk st k ++ if st[k]? = some false then [(k : Int)] else [] := by
  unfold lfk
  rw [List.range_succ, List.filter_append, List.map_append]
  congr 1
  by_cases h : st[k]? = some false
  · simp [h]
  · simp [h]
theorem lfk_length (st : List Bool) : ∀ (k : Nat), (lfk st k).length ≤ k
  | 0 => Nat.le_refl _
  | k + 1 => by
    rw [lfk_succ, List.length_append]
    have := lfk_length st k
    split <;> simp <;> omega
/-- how often each stands -/
def ctb (st : List Bool) : List Nat := st.map fun b => if b then 1 else 0
theorem ctb_length (st : List Bool) : (ctb st).length = st.length := by unfold ctb; rw [List.length_map]
theorem ctb_get {st : List Bool} {i : Nat} {b : Bool} (h : st[i]? = some b) : (ctb st)[i]? = some (if b then 1 else 0) := by unfold ctb; rw [List.getElem?_map, h]; rfl
theorem ctb_set {st : List Bool} (i : Nat) : (ctb st).set i 1 = ctb (st.set i true) := by unfold ctb; rw [List.map_set]; rfl
theorem ctb_rep (n : Nat) : ctb (List.replicate n false) = List.replicate n 0 := by unfold ctb; rw [List.map_replicate]; rfl

/-- the document's answer -/
structure LP (s : Sn) (car : Int) (p : List (List Int)) (w : World) (e : Ending) (w' : World) : Prop where
  bel : Below w.heap.size w w'
  out : (∃ st v, bgn s car p = some st ∧ e = .returned (.tuple #[v, .bool true]) ∧ OI w' w.heap.size v (lfk st s.ws.length)) ∨ (bgn s car p = none ∧ e = .returned (.tuple #[.slice none 0 0, .bool false]))

end Go.Proofs.Ytigjbgecdaljkah

/- The least cost of a beginning, as the document reckons it: mathematics. -/
namespace Go.Proofs.Ytigjbgecdaljkah
open Go.RowKit

namespace RM
section
variable {s : St} {ws cs : List (Int × Int)} {b : List (List Int)} {f : Int} {m k : Nat}
/-- the times of the cars from k on, ahead of c -/
def opk (s : St) (ws cs : List (Int × Int)) (b : List (List Int)) (f : Int) (m k c : Nat) : List Int := ops s ws f m k ((cs.take c).drop k) ((b.take c).drop k)
theorem ops_append : ∀ {cs cs' : List (Int × Int)} {b b' : List (List Int)} {k : Nat}, cs.length = b.length → ops s ws f m k (cs ++ cs') (b ++ b') = ops s ws f m k cs b ++ ops s ws f m (k + cs.length) cs' b'
  | [], cs', [], b', k, _ => by simp [ops]
  | [], _, _ :: _, _, _, h => by simp at h
  | _ :: _, _, [], _, _, h => by simp at h
  | r :: cs, cs', l :: b, b', k, h => by
    have ih := ops_append (cs := cs) (cs' := cs') (b := b) (b' := b') (k := k + 1) (by simpa using h)
    rw [List.cons_append, List.cons_append, ops, ops, ih, List.length_cons, show k + 1 + cs.length = k + (cs.length + 1) by omega]
    split <;> simp
theorem opk_start : opk s ws cs b f m k k = [] := by
  unfold opk
  rw [List.drop_of_length_le (by simp; omega)]
  unfold ops
  rfl
theorem opk_succ {c : Nat} {r : Int × Int} {l : List Int} (hl : cs.length = b.length) (hk : k ≤ c) (hc : cs[c]? = some r) (hb : b[c]? = some l) : opk s ws cs b f m k (c + 1) = opk s ws cs b f m k c ++ if PM.bt m c = true then [ar s (go s (bg r) (l.map (wf ws))) f] else [] := by
  unfold opk
  have hcl := (List.getElem?_eq_some_iff.1 hc).1
  have e1 : (cs.take (c + 1)).drop k = (cs.take c).drop k ++ [r] := by rw [List.take_add_one, hc, Option.toList_some, List.drop_append_of_le_length (by rw [List.length_take]; omega)]
  have e2 : (b.take (c + 1)).drop k = (b.take c).drop k ++ [l] := by rw [List.take_add_one, hb, Option.toList_some, List.drop_append_of_le_length (by rw [List.length_take]; omega)]
  rw [e1, e2, ops_append (by rw [List.length_drop, List.length_drop, List.length_take, List.length_take, hl])]
  congr 1
  rw [List.length_drop, List.length_take, show k + (min c cs.length - k) = c by omega]
  unfold ops
  split <;> simp [ops]
theorem opk_end {c : Nat} (h1 : cs.length ≤ c) (h2 : b.length ≤ c) : opk s ws cs b f m k c = ops s ws f m k (cs.drop k) (b.drop k) := by
  unfold opk
  rw [List.take_of_length_le h1, List.take_of_length_le h2]
end
/-- the least one, or -1 -/
def lm (l : List Int) : Int := (lo l).getD (-1)
theorem lo_snoc (l : List Int) (t : Int) : lo (l ++ [t]) = some (match lo l with | none => t | some a => min a t) := by
  cases l with
  | nil => rfl
  | cons a l => simp [lo, List.foldl_append]
theorem lm_snoc {l : List Int} {t : Int} (h : ∀ x ∈ l, 0 ≤ x) : lm (l ++ [t]) = if lm l < 0 ∨ t < lm l then t else lm l := by
  unfold lm
  rw [lo_snoc]
  cases e : lo l with
  | none => rw [if_pos (.inl (by decide))]; rfl
  | some a =>
    have ha := h a (lo_some.1 e).1
    show min a t = if a < 0 ∨ t < a then t else a
    split <;> omega
theorem lm_neg {l : List Int} (h : ∀ x ∈ l, 0 ≤ x) : lm l < 0 ↔ l = [] := by
  unfold lm
  cases e : lo l with
  | none => rw [lo_none] at e; simp [e]
  | some a =>
    have ha := h a (lo_some.1 e).1
    constructor
    · intro hh
      have : a < 0 := hh
      omega
    · intro hh
      rw [hh] at e
      cases e
theorem lm_low {l : List Int} (h : l ≠ []) : lm l = low l := by
  unfold lm low
  cases e : lo l with
  | none => exact absurd (lo_none.1 e) h
  | some a => rfl
theorem ops_bd {s : St} {ws cs : List (Int × Int)} {b : List (List Int)} {f : Int} {m k : Nat} (z : Rz s ws cs) (hb : ∀ x ∈ b.flatten, 0 ≤ x ∧ x < ws.length) (hc : ∀ r ∈ cs, r.2 ≤ 1000000) (hl : ∀ l ∈ b, l.length ≤ 1000) {c : Nat} : ∀ t ∈ opk s ws cs b f m k c, 0 ≤ t ∧ t ≤ 80000000 := fun t ht => by
  unfold opk at ht
  obtain ⟨i, r, l, h1, h2, _, rfl⟩ := ops_mem.1 ht
  have hr : r ∈ cs := List.mem_of_mem_take (List.mem_of_mem_drop (List.mem_of_getElem? h1))
  have hlb : l ∈ b := List.mem_of_mem_take (List.mem_of_mem_drop (List.mem_of_getElem? h2))
  have hin := z.inn (l := l) fun x hx => hb x (List.mem_flatten.2 ⟨l, hlb, hx⟩)
  have ok0 := z.cr r hr
  have ok := go_ok z.rt ok0 hin
  have g1 := ar_nn z.rt ok f
  have g2 := ar_le z.rt ok f
  have g3 := go_le z.rt ok0 hin
  have g4 := hc r hr
  have g5 := hl l hlb
  rw [List.length_map] at g3
  have g7 : (bg r).le = r.2 := rfl
  omega
/-- lists that are empty cost nothing -/
theorem cst_take {s : St} {ws : List (Int × Int)} : ∀ {cs : List (Int × Int)} {p : List (List Int)} {k : Nat}, (∀ (c : Nat) l, p[c]? = some l → k ≤ c → l = []) → prs s ws cs p = prs s ws (cs.take k) (p.take k)
  | [], _, _, _ => by simp [prs]
  | _ :: _, [], _, _ => by simp [prs]
  | r :: cs, l :: p, 0, h => by
    have h0 : l = [] := h 0 l rfl (Nat.zero_le _)
    have ih := cst_take (s := s) (ws := ws) (cs := cs) (p := p) (k := 0) fun c m hm _ => h (c + 1) m (by simpa using hm) (Nat.zero_le _)
    rw [List.take_zero, List.take_zero] at ih ⊢
    show pr1 s ws r l ++ prs s ws cs p = _
    rw [ih, h0]; rfl
  | r :: cs, l :: p, k + 1, h => by
    have ih := cst_take (s := s) (ws := ws) (cs := cs) (p := p) (k := k) fun c m hm hc => h (c + 1) m (by simpa using hm) (by omega)
    rw [List.take_succ_cons, List.take_succ_cons]
    show pr1 s ws r l ++ prs s ws cs p = pr1 s ws r l ++ prs s ws (cs.take k) (p.take k)
    rw [ih]
end RM

/-- the times that a want may have, of a beginning -/
def optw (s : Sn) (k : Nat) (p : List (List Int)) (w : Nat) : List Int := RM.opt s.st s.ws s.cs (msk s) k p w
/-- the least cost of a beginning -/
def lsv (s : Sn) (k : Nat) (p : List (List Int)) (st : List Bool) : Int :=
  if ((lfk st s.ws.length).all fun x => !(optw s k p x.toNat).isEmpty) = true then RM.cst s.st s.ws s.cs p + ((lfk st s.ws.length).map fun x => RM.low (optw s k p x.toNat)).sum else 1099511627776
theorem lfk_mem {st : List Bool} {k : Nat} {x : Int} : x ∈ lfk st k ↔ ∃ w : Nat, x = (w : Int) ∧ w < k ∧ st[w]? = some false := by
  unfold lfk
  rw [List.mem_map]
  constructor
  · rintro ⟨w, hw, rfl⟩
    rw [List.mem_filter, List.mem_range] at hw
    exact ⟨w, rfl, hw.1, by simpa using hw.2⟩
  · rintro ⟨w, rfl, h1, h2⟩
    exact ⟨w, List.mem_filter.2 ⟨List.mem_range.2 h1, by simp [h2]⟩, rfl⟩
theorem lfk_sum {st : List Bool} {f : Nat → Int} : ∀ (k : Nat), ((lfk st k).map fun x => f x.toNat).sum = RM.sr k fun w => if st[w]? = some false then f w else 0
  | 0 => rfl
  | k + 1 => by
    rw [lfk_succ, List.map_append, List.sum_append, lfk_sum k, RM.sr]
    congr 1
    split
    · simp
    · simp

end Go.Proofs.Ytigjbgecdaljkah
