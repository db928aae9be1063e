/- Several texts in one, each with its own head. -/
import Derived.Test.YtdfdkddjkhcgdaiPk3
import Derived.Test.YtdfdkddjkhcgdaiPlR
import Derived.Test.YtdfdkddjkhcgdaiPk2
import Derived.Test.YtdfdkddjkhcgdaiPk1
/- Whether a plan may be, as the document tells it. -/
namespace Go.Proofs.Ytdfdkddjkhcgdai
open Go.RowKit

/-- the cells of counts -/
def nc (ct : List Nat) : List Value := ct.map fun (n : Nat) => Value.int .i64 (n : Int)
theorem nc_some {ct : List Nat} {i x : Nat} (h : ct[i]? = some x) : (nc ct)[i]? = some (.int .i64 (x : Int)) := by unfold nc; rw [List.getElem?_map, h]; rfl
theorem nc_set (ct : List Nat) (i x : Nat) : (nc ct).set i (.int .i64 (x : Int)) = nc (ct.set i x) := by unfold nc; rw [List.map_set]
theorem nc_rep (n : Nat) : nc (List.replicate n 0) = List.replicate n (Value.int .i64 0) := by unfold nc; rw [List.map_replicate]; rfl
/-- what holds while the document looks at a plan -/
structure Gq (w W : World) (cb : Nat) (s : Sn) (D : Nat → Prop) (vc vw vp : Value) (p : List (List Int)) (ct : List Nat) : Prop where
  nb : NB W w.heap.size s.st vc vw
  lo : w.heap.size < cb
  hc : W.heap[cb]? = some (.cells (nc ct).toArray 3 (0, 0))
  rp : RL D W vp p
  rw : R2 D W vw s.ws
  dl : ∀ g, D g → g < w.heap.size
  bel : Below w.heap.size w W
  cl : ct.length = s.ws.length
section
variable {w W W' : World} {cb : Nat} {s : Sn} {D : Nat → Prop} {vc vw vp : Value} {p : List (List Int)} {ct : List Nat}
theorem Gq.next (h : Gq w W cb s D vc vw vp p ct) (hb : Below W.heap.size W W') : Gq w W' cb s D vc vw vp p ct :=
  ⟨h.nb.below' hb, h.lo, (hb.block cb (Array.getElem?_eq_some_iff.1 h.hc).1).trans h.hc, h.rp.below' hb, h.rw.below' hb, h.dl, below_class h.bel hb, h.cl⟩
theorem Gq.put (h : Gq w W cb s D vc vw vp p ct) (i x : Nat) : Gq w (W.setCell ⟨cb, i, none⟩ (.int .i64 (x : Int))) cb s D vc vw vp p (ct.set i x) := by
  have keep : ∀ k, k ≠ cb → (W.setCell ⟨cb, i, none⟩ (.int .i64 (x : Int))).heap[k]? = W.heap[k]? := fun k hk => Below.heap_setCell W ⟨cb, i, none⟩ _ k hk
  have hl := h.lo
  refine ⟨(keep _ (by omega)).trans h.nb, h.lo, by rw [← nc_set]; exact blk_set h.hc i _, h.rp.keep (by simp [World.setCell]) fun g hg _ => keep g (by have := h.dl g hg; omega), h.rw.keep (by simp [World.setCell]) fun g hg _ => keep g (by have := h.dl g hg; omega), h.dl, h.bel.setCell (p := ⟨cb, i, none⟩) (Nat.le_of_lt h.lo) _, by rw [List.length_set]; exact h.cl⟩
end
/-- what is left of the look: R is the whole's outcome -/
def Cf (R : Option (List Nat)) (ms : List Nat) (k : Nat) (ct : List Nat) (l : List Int) (p : List (List Int)) : Prop := R = (PM.cnt1 ms k ct l).bind fun ct' => PM.cnts ms (k + 1) ct' p
theorem Cf.no {R : Option (List Nat)} {ms : List Nat} {k : Nat} {ct : List Nat} {x : Int} {l : List Int} {p : List (List Int)} (h : Cf R ms k ct (x :: l) p) (hx : PM.okx ms k x = false) : R = none := by
  unfold Cf at h
  rw [h, PM.cnt1, if_neg (by rw [hx]; simp)]; rfl
theorem Cf.yes {R : Option (List Nat)} {ms : List Nat} {k : Nat} {ct : List Nat} {x : Int} {l : List Int} {p : List (List Int)} (h : Cf R ms k ct (x :: l) p) (hx : PM.okx ms k x = true) : Cf R ms k (ct.set x.toNat (ct[x.toNat]?.getD 0 + 1)) l p := by
  unfold Cf at h ⊢
  rw [h, PM.cnt1, if_pos hx]
theorem rfeas_none {ms : List Nat} {p : List (List Int)} (h : PM.cnts ms 0 (List.replicate ms.length 0) p = none) : PM.feas ms p = false := by rw [PM.feas_rfeas]; unfold PM.rfeas; rw [h]; rfl
theorem rfeas_some {ms : List Nat} {p : List (List Int)} {ct : List Nat} (h : PM.cnts ms 0 (List.replicate ms.length 0) p = some ct) : PM.feas ms p = ct.all (· == 1) := by rw [PM.feas_rfeas]; unfold PM.rfeas; rw [h]; rfl

end Go.Proofs.Ytdfdkddjkhcgdai

/- A list is put behind a row of numbers. -/
namespace Go.Proofs.Ytdfdkddjkhcgdai
open Go.RowKit

/-- a list is put behind a row of numbers -/
theorem wpList_appendRI {ops : Array Oper} {rest : List Oper} {o : Oper} {a : Act} {w : World} {Q : Exit → Act → World → Prop} (hgd : o.guard = none) (s x : Operand)
    (ho : o.op = .call { callee := .builtin .append, args := #[s, x], argTypes := #[44, 44] })
    (B : Nat) (v u : Value) (l m : List Int) (D : Nat → Prop) (hs : a.eval s = v) (hown : OI w B v l) (hx : a.eval x = u) (hr : RI D w u m)
    (h63 : l.length + m.length ≤ 1000000) (hB : B ≤ w.heap.size)
    (h : ∀ v' w', OI w' B v' (l ++ m) → w.grownBy w' v.ownBlock → wpList Try.prog ops Q rest (a.put o.dst v') w') : wpList Try.prog ops Q (o :: rest) a w := by
  obtain ⟨ao, cap, rfl, hc, hn⟩ := hr.form
  obtain ⟨i0, hi, hz0, hz1, hz2⟩ := info_parts infoI
  cases ao with
  | none =>
    obtain rfl : cap = 0 := hn rfl
    obtain rfl : m = [] := List.length_eq_zero_iff.1 (by omega)
    refine wpList_append_own_none hgd s x 44 ho B 3 i0 1 Try.underlying44 hi v l.length (ic l) hs hown (by rw [hx]; rfl) ?_
    refine h v w ?_ (World.grownBy.refl w _)
    rw [List.append_nil]; exact hown
  | some ad =>
    refine wpList_append_own w hgd s x 44 ho B 3 i0 _ 1 8 Try.underlying44 hi hz0 hz1 hz2 rfl (by decide) v l.length (ic l) hs hown ad m.length cap (ic m) hx (by rw [ic_length, Nat.mul_one]) ?_ (ic_one m) (by unfold maxLen; omega) (by omega) hB ?_
    · intro j u hj
      obtain ⟨y, hy, rfl⟩ := ic_get hj
      obtain ⟨g, o', e, hc'⟩ := hr.at hy
      cases e
      rw [Addr.add_mid]; exact hc'
    · intro v' w' h1 h2 _
      refine h v' w' ?_ h2
      unfold OI
      rw [List.length_append, ic_append]
      exact h1
theorem grown_none {w w' : World} (h : w.grownBy w' none) : Below w.heap.size w w' := ⟨h.os, h.tape, h.output, h.size, fun k hk => h.block k hk (fun e => by cases e)⟩
theorem own_some {g n c q : Nat} (h : (Value.slice (some ⟨g, 0, none⟩) n c).ownBlock = some q) : g = q := by simpa [Value.ownBlock] using h

end Go.Proofs.Ytdfdkddjkhcgdai

/- A plan with a want taken out, put in twice, put elsewhere; with a list turned round. No program is named here. -/
namespace Go.Proofs.Ytdfdkddjkhcgdai.PM

/-- without w -/
def fw (w : Int) (l : List Int) : List Int := l.filter (fun x => decide (x ≠ w))
/-- w is put behind once for each time that it stands -/
def tw (w : Int) (l : List Int) : List Int := l ++ List.replicate (l.count w) w
theorem fw_snoc (w x : Int) (l : List Int) : fw w (l ++ [x]) = if x = w then fw w l else fw w l ++ [x] := by
  unfold fw
  rw [List.filter_append]
  by_cases h : x = w
  · simp [h]
  · simp [h]
theorem count_flat_set {x : Int} : ∀ {p : List (List Int)} {c : Nat} {l l' : List Int}, p[c]? = some l → (p.set c l').flatten.count x + l.count x = p.flatten.count x + l'.count x
  | [], _, _, _, h => by simp at h
  | a :: p, 0, l, l', h => by
    simp at h
    subst h
    simp only [List.set_cons_zero, List.flatten_cons, List.count_append]
    omega
  | a :: p, c + 1, l, l', h => by
    have := count_flat_set (x := x) (p := p) (c := c) (l := l) (l' := l') (by simpa using h)
    simp only [List.set_cons_succ, List.flatten_cons, List.count_append]
    omega
theorem count_fw (w x : Int) : ∀ (p : List (List Int)), (p.map (fw w)).flatten.count x = if x = w then 0 else p.flatten.count x
  | [] => by simp
  | l :: p => by
    rw [List.map_cons, List.flatten_cons, List.count_append, count_fw w x p, List.flatten_cons, List.count_append]
    have h : (fw w l).count x = if x = w then 0 else l.count x := by
      unfold fw
      by_cases e : x = w
      · subst e
        rw [if_pos rfl, List.count_eq_zero]
        intro hm
        simp at hm
      · rw [if_neg e, List.count_filter (by simp [e])]
    rw [h]
    split <;> omega
theorem count_tw (w : Int) : ∀ (p : List (List Int)), (p.map (tw w)).flatten.count w = 2 * p.flatten.count w
  | [] => by simp
  | l :: p => by
    rw [List.map_cons, List.flatten_cons, List.count_append, count_tw w p, List.flatten_cons, List.count_append]
    have h : (tw w l).count w = 2 * l.count w := by
      unfold tw
      rw [List.count_append, List.count_replicate_self]
      omega
    omega
theorem out_not {ms : List Nat} {p : List (List Int)} {w : Nat} (hw : w < ms.length) : ¬ Fz ms (p.map (fw (w : Int))) := fun h => by
  have := h.once w hw
  rw [count_fw, if_pos rfl] at this
  omega
theorem twice_not {ms : List Nat} {p : List (List Int)} {w : Nat} (hw : w < ms.length) (hp : Fz ms p) : ¬ Fz ms (p.map (tw (w : Int))) := fun h => by
  have := h.once w hw
  rw [count_tw, hp.once w hw] at this
  omega
theorem odd_iff {ms : List Nat} {p : List (List Int)} {w c : Nat} {l : List Int} (hw : w < ms.length) (hp : Fz ms p) (hc : p[c]? = some l) : Fz ms ((p.map (fw (w : Int))).set c (fw (w : Int) l ++ [(w : Int)])) ↔ bt (ms[w]?.getD 0) c = true := by
  have hcl := (List.getElem?_eq_some_iff.1 hc).1
  have hm : (p.map (fw (w : Int)))[c]? = some (fw (w : Int) l) := by rw [List.getElem?_map, hc]; rfl
  constructor
  · intro h
    have := h.ok c (fw (w : Int) l ++ [(w : Int)]) (by rw [List.getElem?_set_self (by simpa using hcl)]) (w : Int) (by simp)
    have h2 := (okx_iff.1 this).2.2
    rwa [Int.toNat_natCast] at h2
  · intro hb
    refine ⟨fun d k hd x hx => ?_, fun v hv => ?_⟩
    · by_cases e : c = d
      · subst e
        rw [List.getElem?_set_self (by simpa using hcl)] at hd
        cases hd
        rcases List.mem_append.1 hx with hx | hx
        · exact hp.ok c l hc x ((List.mem_filter.1 hx).1)
        · simp at hx
          subst hx
          exact okx_iff.2 ⟨by omega, by omega, by rw [Int.toNat_natCast]; exact hb⟩
      · rw [List.getElem?_set_ne e, List.getElem?_map] at hd
        cases hq : p[d]? with
        | none => rw [hq] at hd; simp at hd
        | some q =>
          rw [hq] at hd
          simp at hd
          subst hd
          exact hp.ok d q hq x ((List.mem_filter.1 hx).1)
    · have h1 := count_flat_set (x := (v : Int)) (l' := fw (w : Int) l ++ [(w : Int)]) hm
      rw [count_fw, List.count_append] at h1
      have h2 := hp.once v hv
      by_cases e : (v : Int) = (w : Int)
      · rw [if_pos e] at h1
        have h3 : [(w : Int)].count (v : Int) = 1 := by rw [e]; simp
        omega
      · rw [if_neg e] at h1
        have h3 : [(w : Int)].count (v : Int) = 0 := by rw [List.count_eq_zero]; simp; exact fun h => e (by omega)
        omega
theorem turned_fz {ms : List Nat} {p : List (List Int)} {c : Nat} {l l' : List Int} (hp : Fz ms p) (hc : p[c]? = some l) (hl : l'.Perm l) : Fz ms (p.set c l') := by
  have hcl := (List.getElem?_eq_some_iff.1 hc).1
  refine ⟨fun d k hd x hx => ?_, fun v hv => ?_⟩
  · by_cases e : c = d
    · subst e
      rw [List.getElem?_set_self hcl] at hd
      cases hd
      exact hp.ok c l hc x (hl.mem_iff.1 hx)
    · rw [List.getElem?_set_ne e] at hd
      exact hp.ok d k hd x hx
  · have h1 := count_flat_set (x := (v : Int)) (l' := l') hc
    have h2 := hp.once v hv
    rw [hl.count_eq] at h1
    omega
/-- who holds it -/
theorem home_lt {ms : List Nat} {p : List (List Int)} {w : Nat} (hw : w < ms.length) (hp : Fz ms p) : 0 < p.length := by
  cases p with
  | nil => have := hp.once w hw; simp at this
  | cons a p => simp

end Go.Proofs.Ytdfdkddjkhcgdai.PM

/- Rows that grow, in blocks of their own: numbers, and lists of numbers. -/
namespace Go.Proofs.Ytdfdkddjkhcgdai
open Go.RowKit Go.Shelf

/-- a row of slices that is owned -/
def OP (W : World) (B : Nat) (v : Value) (us : List Value) : Prop := W.ownsRow B 44 1 v us.length us
section
variable {W W' : World} {B : Nat} {v : Value} {us : List Value}
theorem OP.lt (h : OP W B v us) : ∀ g, v.ownBlock = some g → B ≤ g ∧ g < W.heap.size := World.ownsRow.lt h
theorem OP.keep (h : OP W B v us) (hk : ∀ g, v.ownBlock = some g → W'.heap[g]? = W.heap[g]?) : OP W' B v us := by
  refine ⟨h.1, ?_⟩
  rcases h.2 with h1 | ⟨g, cap, cur, hv, hb, hg, hc⟩
  · exact .inl h1
  · exact .inr ⟨g, cap, cur, hv, hb, (hk g (by rw [hv]; rfl)).trans hg, hc⟩
theorem OP.below' (h : OP W B v us) (hb : Below W.heap.size W W') : OP W' B v us := h.keep fun g hg => hb.block g (h.lt g hg).2
theorem OP.cell {g cap n : Nat} (h : OP W B (.slice (some ⟨g, 0, none⟩) n cap) us) {i : Nat} {u : Value} (hi : us[i]? = some u) : W.cell? ⟨g, i, none⟩ = some u := by
  have := World.ownsRow.cells h (g := g) rfl i u hi
  rwa [Addr.add_mid, Nat.zero_add] at this
/-- an owned row of lists that are read is a plan -/
theorem OP.rl {D : Nat → Prop} {g cap : Nat} {p : List (List Int)} (h : OP W B (.slice (some ⟨g, 0, none⟩) us.length cap) us) (hD : D g) (hlen : us.length = p.length) (hr : ∀ (i : Nat) u l, us[i]? = some u → p[i]? = some l → RI D W u l) : RL D W (.slice (some ⟨g, 0, none⟩) us.length cap) p := by
  have hlt := (h.lt g rfl).2
  have hcap : us.length ≤ cap := by
    rcases h.2 with ⟨h1, _⟩ | ⟨g', cap', cur, hv, _, _, hc, _⟩
    · cases h1
    · cases hv; exact hc
  refine ⟨_, cap, by rw [hlen], by omega, (fun e => by cases e), ?_⟩
  by_cases hp : p = []
  · exact .inl hp
  · refine .inr ⟨g, 0, rfl, hD, hlt, fun i l hl => ?_⟩
    have hi : i < us.length := by rw [hlen]; exact (List.getElem?_eq_some_iff.1 hl).1
    refine ⟨us[i], ?_, hr i _ l (List.getElem?_eq_getElem hi) hl⟩
    rw [Nat.zero_add]
    exact h.cell (List.getElem?_eq_getElem hi)
end
theorem infoP : (Try.prog.info? 44).map (fun i => (i.zero, i.size, i.bytes)) = some (some (.slice none 0 0), 1, 24) := by kernel_rfl
/-- a list is put behind a row of lists -/
theorem wpList_appP {ops : Array Oper} {rest : List Oper} {o : Oper} {a : Act} {w : World} {Q : Exit → Act → World → Prop} (hgd : o.guard = none) (s x : Operand)
    (ho : o.op = .call { callee := .builtin .append, args := #[s, x], argTypes := #[40, 40] })
    (B : Nat) (v : Value) (us : List Value) (hs : a.eval s = v) (hown : OP w B v us) (g c : Nat) (u : Value) (hx : a.eval x = .slice (some ⟨g, 0, none⟩) 1 c) (hc : w.cell? ⟨g, 0, none⟩ = some u) (hu : u.oneCell' = true)
    (h63 : us.length ≤ 1000000) (hB : B ≤ w.heap.size)
    (h : ∀ g' cap w', OP w' B (.slice (some ⟨g', 0, none⟩) (us.length + 1) cap) (us ++ [u]) → w.grownBy w' v.ownBlock → (v.ownBlock = some g' ∨ g' = w.heap.size) → g' < w'.heap.size → wpList Try.prog ops Q rest (a.put o.dst (.slice (some ⟨g', 0, none⟩) (us.length + 1) cap)) w') : wpList Try.prog ops Q (o :: rest) a w := by
  obtain ⟨i0, hi, hz0, hz1, hz2⟩ := info_parts infoP
  refine wpList_append_lies w hgd s x 40 ho B 44 i0 _ 1 24 Try.underlying40 hi hz0 hz1 hz2 rfl (by decide) v us.length us hs hown ⟨g, 0, none⟩ 1 c [u] hx rfl ?_ ?_ (by omega) (by unfold maxLen; omega) (by omega) hB w.heap.size rfl ?_
  · intro j y hj
    cases j with
    | zero => simp at hj; subst hj; rw [Addr.add_mid]; exact hc
    | succ j => simp at hj
  · intro y hy
    simp at hy
    subst hy
    exact hu
  · intro g' cap w' h1 h2 h3 h4
    refine h g' cap w' ?_ h2 h3 h4
    unfold OP
    rw [List.length_append]
    exact h1
/-- a number is put behind a row of numbers -/
theorem wpList_appI {ops : Array Oper} {rest : List Oper} {o : Oper} {a : Act} {w : World} {Q : Exit → Act → World → Prop} (hgd : o.guard = none) (s x : Operand)
    (ho : o.op = .call { callee := .builtin .append, args := #[s, x], argTypes := #[44, 44] })
    (B : Nat) (v : Value) (l : List Int) (hs : a.eval s = v) (hown : OI w B v l) (g c : Nat) (y : Int) (hx : a.eval x = .slice (some ⟨g, 0, none⟩) 1 c) (hc : w.cell? ⟨g, 0, none⟩ = some (.int .i64 y))
    (h63 : l.length ≤ 1000000) (hB : B ≤ w.heap.size)
    (h : ∀ g' cap w', OI w' B (.slice (some ⟨g', 0, none⟩) (l.length + 1) cap) (l ++ [y]) → w.grownBy w' v.ownBlock → (v.ownBlock = some g' ∨ g' = w.heap.size) → g' < w'.heap.size → wpList Try.prog ops Q rest (a.put o.dst (.slice (some ⟨g', 0, none⟩) (l.length + 1) cap)) w') : wpList Try.prog ops Q (o :: rest) a w := by
  obtain ⟨i0, hi, hz0, hz1, hz2⟩ := info_parts infoI
  refine wpList_append_lies w hgd s x 44 ho B 3 i0 _ 1 8 Try.underlying44 hi hz0 hz1 hz2 rfl (by decide) v l.length (ic l) hs hown ⟨g, 0, none⟩ 1 c (ic [y]) hx rfl ?_ (ic_one [y]) (by omega) (by unfold maxLen; omega) (by omega) hB w.heap.size rfl ?_
  · intro j u hj
    cases j with
    | zero =>
      simp [ic] at hj
      subst hj
      rw [Addr.add_mid]; exact hc
    | succ j => simp [ic] at hj
  · intro g' cap w' h1 h2 h3 h4
    refine h g' cap w' ?_ h2 h3 h4
    unfold OI
    rw [List.length_append, ic_append]
    exact h1

theorem list_of' {α : Type} {P : Nat → α → Prop} : ∀ (n : Nat), (∀ i, i < n → ∃ z, P i z) → ∃ l : List α, l.length = n ∧ ∀ (i : Nat) z, l[i]? = some z → P i z
  | 0, _ => ⟨[], rfl, by simp⟩
  | n + 1, h => by
    obtain ⟨l, h1, h2⟩ := list_of' n (fun i hi => h i (by omega))
    obtain ⟨z, hz⟩ := h n (by omega)
    refine ⟨l ++ [z], by simp [h1], fun i x hx => ?_⟩
    by_cases hi : i < l.length
    · rw [List.getElem?_append_left hi] at hx; exact h2 i x hx
    · rw [List.getElem?_append_right (by omega)] at hx
      have hi0 : i - l.length = 0 := by
        have := (List.getElem?_eq_some_iff.1 hx).1
        simp at this
        omega
      rw [hi0] at hx
      simp at hx
      subst hx
      have : i = n := by omega
      subst this
      exact hz
section
variable {W W' : World} {B : Nat} {v : Value} {us : List Value}
theorem OP.nil (W : World) (hB : B ≤ W.heap.size) : OP (W.alloc (.cells #[] 44)) B (.slice (some ⟨W.heap.size, 0, none⟩) 0 0) [] :=
  World.ownsRow_lit (e := 44) (size := 1) W #[] 0 hB (by unfold maxLen; omega) (by simp)
theorem OP.len {a : Option Addr} {n cap : Nat} (h : OP W B (.slice a n cap) us) : n = us.length := by
  rcases h.2 with ⟨h1, h2⟩ | ⟨g, c, cur, h1, _⟩
  · cases h1; omega
  · cases h1; rfl
theorem OP.fr {g cap n : Nat} (h : OP W B (.slice (some ⟨g, 0, none⟩) n cap) us) (j : Nat) : W.frozen? ⟨g, j, none⟩ = false := by
  have hn := h.len
  subst hn
  exact World.ownsRow.frozenAt h j
/-- a list is written -/
theorem OP.put {g cap n : Nat} (h : OP W B (.slice (some ⟨g, 0, none⟩) n cap) us) (i : Nat) (u : Value) : OP (W.setCell ⟨g, i, none⟩ u) B (.slice (some ⟨g, 0, none⟩) n cap) (us.set i u) := by
  have hn := h.len
  subst hn
  have := (World.ownsRow.stored h i u).1
  unfold OP
  rw [List.length_set]
  exact this
theorem OP.mono {B' : Nat} (h : OP W B v us) (hB : B' ≤ B) : OP W B' v us := by
  refine ⟨h.1, ?_⟩
  rcases h.2 with h1 | ⟨g, cap, cur, hv, hb, hg⟩
  · exact .inl h1
  · exact .inr ⟨g, cap, cur, hv, by omega, hg⟩
end
/-- the slices of a plan that is read -/
theorem RL.slices {D : Nat → Prop} {W : World} {a : Option Addr} {n cap : Nat} {p : List (List Int)} (h : RL D W (.slice a n cap) p) : ∃ us : List Value, us.length = p.length ∧ (∀ u ∈ us, u.oneCell' = true) ∧ (∀ (i : Nat) u l, us[i]? = some u → p[i]? = some l → RI D W u l) ∧ ∀ ad, a = some ad → ∀ (j : Nat) u, us[j]? = some u → W.cell? (ad.add j) = some u := by
  obtain ⟨us, h1, h2⟩ := list_of' (P := fun i u => ∀ l, p[i]? = some l → RI D W u l ∧ ∀ ad, a = some ad → W.cell? (ad.add i) = some u) p.length (fun i hi => by
    have hl : p[i]? = some p[i] := List.getElem?_eq_getElem hi
    obtain ⟨g, o, rfl, u, hu, hr⟩ := h.at hl
    refine ⟨u, fun l hl' => ?_⟩
    rw [hl] at hl'
    cases hl'
    exact ⟨hr, fun ad e => by cases e; rw [Addr.add_mid]; exact hu⟩)
  have key : ∀ (i : Nat) u, us[i]? = some u → ∃ l, p[i]? = some l ∧ RI D W u l ∧ ∀ ad, a = some ad → W.cell? (ad.add i) = some u := fun i u hu => by
    have hi : i < p.length := by rw [← h1]; exact (List.getElem?_eq_some_iff.1 hu).1
    exact ⟨p[i], List.getElem?_eq_getElem hi, h2 i u hu _ (List.getElem?_eq_getElem hi)⟩
  refine ⟨us, h1, fun u hu => ?_, fun i u l hu hl => (h2 i u hu l hl).1, fun ad e j u hu => ?_⟩
  · obtain ⟨i, hi⟩ := List.getElem?_of_mem hu
    obtain ⟨l, _, hr, _⟩ := key i u hi
    obtain ⟨a', c', rfl, _, _⟩ := hr.form
    rfl
  · obtain ⟨l, _, _, hc⟩ := key j u hu
    exact hc ad e
/-- a plan's lists are put behind an owned row of lists -/
theorem wpList_appPs {ops : Array Oper} {rest : List Oper} {o : Oper} {a : Act} {w : World} {Q : Exit → Act → World → Prop} (hgd : o.guard = none) (s x : Operand)
    (ho : o.op = .call { callee := .builtin .append, args := #[s, x], argTypes := #[40, 40] })
    (B : Nat) (v u : Value) (us : List Value) (p : List (List Int)) (D : Nat → Prop) (hs : a.eval s = v) (hown : OP w B v us) (hx : a.eval x = u) (hr : RL D w u p)
    (h63 : us.length + p.length ≤ 1000000) (hB : B ≤ w.heap.size)
    (h : ∀ v' w' us', us'.length = p.length → (∀ (i : Nat) u l, us'[i]? = some u → p[i]? = some l → RI D w u l) → OP w' B v' (us ++ us') → w.grownBy w' v.ownBlock → wpList Try.prog ops Q rest (a.put o.dst v') w') : wpList Try.prog ops Q (o :: rest) a w := by
  obtain ⟨ao, cap, rfl, hc, hn⟩ := hr.form
  obtain ⟨us', e1, e2, e3, e4⟩ := hr.slices
  obtain ⟨i0, hi, hz0, hz1, hz2⟩ := info_parts infoP
  cases ao with
  | none =>
    obtain rfl : cap = 0 := hn rfl
    have e0 : us' = [] := List.length_eq_zero_iff.1 (by omega)
    refine wpList_append_own_none hgd s x 40 ho B 44 i0 1 Try.underlying40 hi v us.length us hs hown (by rw [hx, show p.length = 0 by omega]) ?_
    refine h v w us' e1 e3 ?_ (World.grownBy.refl w _)
    rw [e0, List.append_nil]; exact hown
  | some ad =>
    refine wpList_append_own w hgd s x 40 ho B 44 i0 _ 1 24 Try.underlying40 hi hz0 hz1 hz2 rfl (by decide) v us.length us hs hown ad p.length cap us' hx (by rw [e1, Nat.mul_one]) (e4 ad rfl) e2 (by unfold maxLen; omega) (by omega) hB ?_
    intro v' w' h1 h2 _
    refine h v' w' us' e1 e3 ?_ h2
    unfold OP
    rw [List.length_append, e1]
    exact h1

end Go.Proofs.Ytdfdkddjkhcgdai

/- Which beginnings there are, and what is left of the wants, as the document tells it. -/
namespace Go.Proofs.Ytdfdkddjkhcgdai
open Go.RowKit

/-- which wants stand in a beginning; none: it is no beginning -/
def bgn (s : Sn) (car : Int) (p : List (List Int)) : Option (List Bool) :=
  if (rgt s && decide (p.length = s.cs.length) && decide (0 ≤ car) && decide (car < (p.length : Int)) && (p.drop (car.toNat + 1)).all List.isEmpty) = true then PM.runs (msk s) 0 (List.replicate (msk s).length false) p else none
theorem bgn_not {s : Sn} {car : Int} {p : List (List Int)} (h : ¬ (rgt s = true ∧ p.length = s.cs.length ∧ 0 ≤ car ∧ car < (p.length : Int))) : bgn s car p = none := by
  unfold bgn
  rw [if_neg]
  simp only [Bool.and_eq_true, decide_eq_true_eq]
  exact fun g => h ⟨g.1.1.1.1, g.1.1.1.2, g.1.1.2, g.1.2⟩
/-- a list behind the car that isn't empty -/
theorem bgn_behind {s : Sn} {k c : Nat} {p : List (List Int)} {l : List Int} (hl : p[c]? = some l) (hc : k < c) (hn : l ≠ []) : bgn s (k : Int) p = none := by
  unfold bgn
  rw [if_neg]
  simp only [Bool.and_eq_true, List.all_eq_true]
  intro g
  have := g.2 l (List.mem_of_getElem? (i := c - (k + 1)) (by rw [Int.toNat_natCast, List.getElem?_drop, show k + 1 + (c - (k + 1)) = c by omega]; exact hl))
  exact hn (by simpa using this)
theorem bgn_runs {s : Sn} {k : Nat} {p : List (List Int)} (h1 : rgt s = true) (h2 : p.length = s.cs.length) (h3 : k < p.length) (h4 : ∀ (c : Nat) l, p[c]? = some l → k < c → l = []) : bgn s (k : Int) p = PM.runs (msk s) 0 (List.replicate (msk s).length false) p := by
  unfold bgn
  rw [if_pos]
  simp only [Bool.and_eq_true, decide_eq_true_eq, List.all_eq_true]
  refine ⟨⟨⟨⟨h1, h2⟩, by omega⟩, by omega⟩, fun l hl => ?_⟩
  obtain ⟨i, hi⟩ := List.getElem?_of_mem hl
  rw [Int.toNat_natCast, List.getElem?_drop] at hi
  rw [h4 _ l hi (by omega)]; rfl
theorem bgn_none {s : Sn} {k : Nat} {p : List (List Int)} (h : PM.runs (msk s) 0 (List.replicate (msk s).length false) p = none) : bgn s (k : Int) p = none := by
  unfold bgn
  rw [h]
  split <;> rfl
/-- the wants that are left, of the first k -/
def lfk (st : List Bool) (k : Nat) : List Int := ((List.range k).filter fun w => st[w]? == some false).map fun (w : Nat) => (w : Int)
theorem lfk_succ (st : List Bool) (k : Nat) : lfk st (k + 1) = lfk st k ++ if st[k]? = some false then [(k : Int)] else [] := by
  unfold lfk
  rw [List.range_succ, List.filter_append, List.map_append]
  congr 1
  by_cases h : st[k]? = some false
  · simp [h]
  · simp [h]
theorem lfk_length (st : List Bool) : ∀ (k : Nat), (lfk st k).length ≤ k
  | 0 => Nat.le_refl _
  | k + 1 => by
    rw [lfk_succ, List.length_append]
    have := lfk_length st k
    split <;> simp <;> omega
/-- how often each stands -/
def ctb (st : List Bool) : List Nat := st.map fun b => if b then 1 else 0
theorem ctb_length (st : List Bool) : (ctb st).length = st.length := by unfold ctb; rw [List.length_map]
theorem ctb_get {st : List Bool} {i : Nat} {b : Bool} (h : st[i]? = some b) : (ctb st)[i]? = some (if b then 1 else 0) := by unfold ctb; rw [List.getElem?_map, h]; rfl
theorem ctb_set {st : List Bool} (i : Nat) : (ctb st).set i 1 = ctb (st.set i true) := by unfold ctb; rw [List.map_set]; rfl
theorem ctb_rep (n : Nat) : ctb (List.replicate n false) = List.replicate n 0 := by unfold ctb; rw [List.map_replicate]; rfl

/-- the document's answer -/
structure LP (s : Sn) (car : Int) (p : List (List Int)) (w : World) (e : Ending) (w' : World) : Prop where
  bel : Below w.heap.size w w'
  out : (∃ st v, bgn s car p = some st ∧ e = .returned (.tuple #[v, .bool true]) ∧ OI w' w.heap.size v (lfk st s.ws.length)) ∨ (bgn s car p = none ∧ e = .returned (.tuple #[.slice none 0 0, .bool false]))

end Go.Proofs.Ytdfdkddjkhcgdai

/- The least cost of a beginning, as the document reckons it: mathematics. -/
namespace Go.Proofs.Ytdfdkddjkhcgdai
open Go.RowKit

namespace RM
section
variable {s : St} {ws cs : List (Int × Int)} {b : List (List Int)} {f : Int} {m k : Nat}
/-- the times of the cars from k on, ahead of c -/
def opk (s : St) (ws cs : List (Int × Int)) (b : List (List Int)) (f : Int) (m k c : Nat) : List Int := ops s ws f m k ((cs.take c).drop k) ((b.take c).drop k)
theorem ops_append : ∀ {cs cs' : List (Int × Int)} {b b' : List (List Int)} {k : Nat}, cs.length = b.length → ops s ws f m k (cs ++ cs') (b ++ b') = ops s ws f m k cs b ++ ops s ws f m (k + cs.length) cs' b'
  | [], cs', [], b', k, _ => by simp [ops]
  | [], _, _ :: _, _, _, h => by simp at h
  | _ :: _, _, [], _, _, h => by simp at h
  | r :: cs, cs', l :: b, b', k, h => by
    have ih := ops_append (cs := cs) (cs' := cs') (b := b) (b' := b') (k := k + 1) (by simpa using h)
    rw [List.cons_append, List.cons_append, ops, ops, ih, List.length_cons, show k + 1 + cs.length = k + (cs.length + 1) by omega]
    split <;> simp
theorem opk_start : opk s ws cs b f m k k = [] := by
  unfold opk
  rw [List.drop_of_length_le (by simp; omega)]
  unfold ops
  rfl
theorem opk_succ {c : Nat} {r : Int × Int} {l : List Int} (hl : cs.length = b.length) (hk : k ≤ c) (hc : cs[c]? = some r) (hb : b[c]? = some l) : opk s ws cs b f m k (c + 1) = opk s ws cs b f m k c ++ if PM.bt m c = true then [ar s (go s (bg r) (l.map (wf ws))) f] else [] := by
  unfold opk
  have hcl := (List.getElem?_eq_some_iff.1 hc).1
  have e1 : (cs.take (c + 1)).drop k = (cs.take c).drop k ++ [r] := by rw [List.take_add_one, hc, Option.toList_some, List.drop_append_of_le_length (by rw [List.length_take]; omega)]
  have e2 : (b.take (c + 1)).drop k = (b.take c).drop k ++ [l] := by rw [List.take_add_one, hb, Option.toList_some, List.drop_append_of_le_length (by rw [List.length_take]; omega)]
  rw [e1, e2, ops_append (by rw [List.length_drop, List.length_drop, List.length_take, List.length_take, hl])]
  congr 1
  rw [List.length_drop, List.length_take, show k + (min c cs.length - k) = c by omega]
  unfold ops
  split <;> simp [ops]
theorem opk_end {c : Nat} (h1 : cs.length ≤ c) (h2 : b.length ≤ c) : opk s ws cs b f m k c = ops s ws f m k (cs.drop k) (b.drop k) := by
  unfold opk
  rw [List.take_of_length_le h1, List.take_of_length_le h2]
end
/-- the least one, or -1 -/
def lm (l : List Int) : Int := (lo l).getD (-1)
theorem lo_snoc (l : List Int) (t : Int) : lo (l ++ [t]) = some (match lo l with | none => t | some a => min a t) := by
  cases l with
  | nil => rfl
  | cons a l => simp [lo, List.foldl_append]
theorem lm_snoc {l : List Int} {t : Int} (h : ∀ x ∈ l, 0 ≤ x) : lm (l ++ [t]) = if lm l < 0 ∨ t < lm l then t else lm l := by
  unfold lm
  rw [lo_snoc]
  cases e : lo l with
  | none => rw [if_pos (.inl (by decide))]; rfl
  | some a =>
    have ha := h a (lo_some.1 e).1
    show min a t = if a < 0 ∨ t < a then t else a
    split <;> omega
theorem lm_neg {l : List Int} (h : ∀ x ∈ l, 0 ≤ x) : lm l < 0 ↔ l = [] := by
  unfold lm
  cases e : lo l with
  | none => rw [lo_none] at e; simp [e]
  | some a =>
    have ha := h a (lo_some.1 e).1
    constructor
    · intro hh
      have : a < 0 := hh
      omega
    · intro hh
      rw [hh] at e
      cases e
theorem lm_low {l : List Int} (h : l ≠ []) : lm l = low l := by
  unfold lm low
  cases e : lo l with
  | none => exact absurd (lo_none.1 e) h
  | some a => rfl
theorem ops_bd {s : St} {ws cs : List (Int × Int)} {b : List (List Int)} {f : Int} {m k : Nat} (z : Rz s ws cs) (hb : ∀ x ∈ b.flatten, 0 ≤ x ∧ x < ws.length) (hc : ∀ r ∈ cs, r.2 ≤ 1000000) (hl : ∀ l ∈ b, l.length ≤ 1000) {c : Nat} : ∀ t ∈ opk s ws cs b f m k c, 0 ≤ t ∧ t ≤ 80000000 := fun t ht => by
  unfold opk at ht
  obtain ⟨i, r, l, h1, h2, _, rfl⟩ := ops_mem.1 ht
  have hr : r ∈ cs := List.mem_of_mem_take (List.mem_of_mem_drop (List.mem_of_getElem? h1))
  have hlb : l ∈ b := List.mem_of_mem_take (List.mem_of_mem_drop (List.mem_of_getElem? h2))
  have hin := z.inn (l := l) fun x hx => hb x (List.mem_flatten.2 ⟨l, hlb, hx⟩)
  have ok0 := z.cr r hr
  have ok := go_ok z.rt ok0 hin
  have g1 := ar_nn z.rt ok f
  have g2 := ar_le z.rt ok f
  have g3 := go_le z.rt ok0 hin
  have g4 := hc r hr
  have g5 := hl l hlb
  rw [List.length_map] at g3
  have g7 : (bg r).le = r.2 := rfl
  omega
/-- lists that are empty cost nothing -/
theorem cst_take {s : St} {ws : List (Int × Int)} : ∀ {cs : List (Int × Int)} {p : List (List Int)} {k : Nat}, (∀ (c : Nat) l, p[c]? = some l → k ≤ c → l = []) → prs s ws cs p = prs s ws (cs.take k) (p.take k)
  | [], _, _, _ => by simp [prs]
  | _ :: _, [], _, _ => by simp [prs]
  | r :: cs, l :: p, 0, h => by
    have h0 : l = [] := h 0 l rfl (Nat.zero_le _)
    have ih := cst_take (s := s) (ws := ws) (cs := cs) (p := p) (k := 0) fun c m hm _ => h (c + 1) m (by simpa using hm) (Nat.zero_le _)
    rw [List.take_zero, List.take_zero] at ih ⊢
    show pr1 s ws r l ++ prs s ws cs p = _
    rw [ih, h0]; rfl
  | r :: cs, l :: p, k + 1, h => by
    have ih := cst_take (s := s) (ws := ws) (cs := cs) (p := p) (k := k) fun c m hm hc => h (c + 1) m (by simpa using hm) (by omega)
    rw [List.take_succ_cons, List.take_succ_cons]
    show pr1 s ws r l ++ prs s ws cs p = pr1 s ws r l ++ prs s ws (cs.take k) (p.take k)
    rw [ih]
end RM

/-- the times that a want may have, of a beginning -/
def optw (s : Sn) (k : Nat) (p : List (List Int)) (w : Nat) : List Int := RM.opt s.st s.ws s.cs (msk s) k p w
/-- the least cost of a beginning -/
def lsv (s : Sn) (k : Nat) (p : List (List Int)) (st : List Bool) : Int :=
  if ((lfk st s.ws.length).all fun x => !(optw s k p x.toNat).isEmpty) = true then RM.cst s.st s.ws s.cs p + ((lfk st s.ws.length).map fun x => RM.low (optw s k p x.toNat)).sum else 1099511627776
theorem lfk_mem {st : List Bool} {k : Nat} {x : Int} : x ∈ lfk st k ↔ ∃ w : Nat, x = (w : Int) ∧ w < k ∧ st[w]? = some false := by
  unfold lfk
  rw [List.mem_map]
  constructor
  · rintro ⟨w, hw, rfl⟩
    rw [List.mem_filter, List.mem_range] at hw
    exact ⟨w, rfl, hw.1, by simpa using hw.2⟩
  · rintro ⟨w, rfl, h1, h2⟩
    exact ⟨w, List.mem_filter.2 ⟨List.mem_range.2 h1, by simp [h2]⟩, rfl⟩
theorem lfk_sum {st : List Bool} {f : Nat → Int} : ∀ (k : Nat), ((lfk st k).map fun x => f x.toNat).sum = RM.sr k fun w => if st[w]? = some false then f w else 0
  | 0 => rfl
  | k + 1 => by
    rw [lfk_succ, List.map_append, List.sum_append, lfk_sum k, RM.sr]
    congr 1
    split
    · simp
    · simp

end Go.Proofs.Ytdfdkddjkhcgdai

/-
  A REGION THAT DRAWS ITS ORDER AND MAKES ROWS ('append(append([]T{}, x...), y)'): some operations read and call (calm ones: each leaves one value, whatever the order), others make rows, or take one over and put more behind it: where a row lies hangs on the order, what it holds does not.
  ONE walk of the calm ones, in lexical order, and one sentence for each row, serve all orders.
  No program is named here.
-/
namespace Go.Proofs.Ytdfdkddjkhcgdai
open Go.RowKit

section
variable {P : Program} {ops : Array Oper} {md : Region.Mode} {W0 : World}

/-! ### values that are there, over a frame -/
def pv (ops : Array Oper) (a : Act) (f : Nat → Option Value) : Nat → Act
  | 0 => a
  | m + 1 => match f m with
    | none => pv ops a f m
    | some v => (pv ops a f m).put (dstOf ops m) v
def upd (f : Nat → Option Value) (i : Nat) (v : Value) : Nat → Option Value := fun j => if j = i then some v else f j
theorem upd_self (f : Nat → Option Value) (i : Nat) (v : Value) : upd f i v i = some v := if_pos rfl
theorem upd_ne (f : Nat → Option Value) {i j : Nat} (v : Value) (h : j ≠ i) : upd f i v j = f j := if_neg h
theorem pv_congr {a : Act} {f g : Nat → Option Value} : ∀ {m : Nat}, (∀ i, i < m → f i = g i) → pv ops a f m = pv ops a g m
  | 0, _ => rfl
  | m + 1, h => by
    unfold pv
    rw [h m (by omega), pv_congr fun i hi => h i (by omega)]
/-- each operation has a place of its own -/
def Dist (ops : Array Oper) (m : Nat) : Prop := ∀ i j, i < m → j < m → i ≠ j → ∀ d, dstOf ops i = some d → dstOf ops j ≠ some d
theorem pv_put {a : Act} {f : Nat → Option Value} {i : Nat} {v : Value} : ∀ {m : Nat}, Dist ops m → i < m → f i = none → pv ops a (upd f i v) m = (pv ops a f m).put (dstOf ops i) v
  | 0, _, hi, _ => by omega
  | m + 1, hd, hi, hf => by
    by_cases e : i = m
    · subst e
      unfold pv
      rw [upd_self, hf]
      simp only
      rw [pv_congr (g := f) fun j hj => upd_ne f v (by omega)]
    · have ih := pv_put (a := a) (v := v) (m := m) (fun i j hi hj => hd i j (by omega) (by omega)) (by omega) hf
      unfold pv
      rw [upd_ne f v (Ne.symm e)]
      cases f m with
      | none => exact ih
      | some u =>
        simp only
        rw [ih, Act.put_comm _ _ _ (hd i m (by omega) (by omega) e)]
theorem put_size (a : Act) (d : Option Tmp) (v : Value) : (a.put d v).tmps.size = a.tmps.size := by cases d <;> simp [Act.put]
theorem pv_size {a : Act} {f : Nat → Option Value} : ∀ {m : Nat}, (pv ops a f m).tmps.size = a.tmps.size
  | 0 => rfl
  | m + 1 => by
    unfold pv
    cases f m with
    | none => exact pv_size
    | some u => simp only; rw [put_size]; exact pv_size
theorem put_get_ne {a : Act} {d : Option Tmp} {v : Value} {t : Nat} (h : d ≠ some t) : (a.put d v).tmps[t]? = a.tmps[t]? := by
  cases d with
  | none => rfl
  | some e =>
    have hne : e ≠ t := fun x => h (by rw [x])
    simp [Act.put, Array.getElem?_setIfInBounds_ne hne]
theorem pv_get {a : Act} {f g : Nat → Option Value} {t : Nat} : ∀ {m : Nat}, (∀ i, i < m → dstOf ops i = some t → f i = g i) → (pv ops a f m).tmps[t]? = (pv ops a g m).tmps[t]?
  | 0, _ => rfl
  | m + 1, h => by
    have ih := pv_get (a := a) (m := m) fun i hi => h i (by omega)
    unfold pv
    by_cases e : dstOf ops m = some t
    · rw [← h m (by omega) e]
      cases f m with
      | none => exact ih
      | some u =>
        simp only
        rw [e]
        simp [Act.put, Array.getElem?_setIfInBounds, pv_size]
    · cases f m with
      | none =>
        cases g m with
        | none => exact ih
        | some u => simp only; rw [put_get_ne e]; exact ih
      | some v =>
        cases g m with
        | none => simp only; rw [put_get_ne e]; exact ih
        | some u => simp only; rw [put_get_ne e, put_get_ne e]; exact ih
theorem pv_same {a : Act} {f g : Nat → Option Value} {m : Nat} {o : Oper} (hs : ∀ cs b, o.op ≠ .select cs b) (h : ∀ i, i < m → ∀ d, dstOf ops i = some d → d ∈ o.looksAt ops → f i = g i) :
    execOp (pv ops a f m).eval o = execOp (pv ops a g m).eval o ∧ Region.wanted o (yielded ops (pv ops a f m).tmps) = Region.wanted o (yielded ops (pv ops a g m).tmps) := by
  constructor
  · refine execOp_congr o hs fun x hx => ?_
    cases x with
    | tmp t =>
      have ht : t ∈ o.looksAt ops := List.mem_append_left _ (List.mem_filterMap.2 ⟨.tmp t, by simpa using hx, rfl⟩)
      have := pv_get (a := a) (m := m) fun i hi hd => h i hi t hd ht
      simp only [Act.eval, Array.getD_eq_getD_getElem?, this]
    | _ => rfl
  · unfold Region.wanted
    cases hg : o.guard with
    | none => rfl
    | some gw =>
      obtain ⟨k, want⟩ := gw
      have hy : yielded ops (pv ops a f m).tmps k = yielded ops (pv ops a g m).tmps k := by
        unfold yielded
        cases ht : (ops[k]?).bind (·.dst) with
        | none => rfl
        | some t =>
          have := pv_get (a := a) (m := m) fun i hi hd => h i hi t hd (by simp [Oper.looksAt, hg, ht])
          simp only [Option.bind_some, this]
      simp only [hy]

/-! ### what is asked of the region's text -/
/-- what an operation looks at it waits for; each has its own place; the lexical order is one of the orders -/
def depB (md : Region.Mode) (ops : Array Oper) (m : Nat) : Bool :=
  (List.range m).all fun i => match ops[i]? with
    | none => false
    | some oi => (oi.after.all fun e => !Region.binds md e || decide (e.on < i)) && (List.range m).all fun k => match ops[k]? with
      | none => false
      | some ok => match ok.dst with
        | none => true
        | some d => (Region.waitsFor md ops i k || !(oi.looksAt ops).contains d) && (decide (k = i) || oi.dst != some d)
section
variable {m : Nat}
theorem depB_some (h : depB md ops m = true) {i : Nat} (hi : i < m) : ∃ o, ops[i]? = some o := by
  have h1 := List.all_eq_true.1 h i (List.mem_range.2 hi)
  cases ho : ops[i]? with
  | none => simp [ho] at h1
  | some o => exact ⟨o, rfl⟩
theorem depB_on (h : depB md ops m = true) {i : Nat} {oi : Oper} (hi : i < m) (ho : ops[i]? = some oi) : ∀ e ∈ oi.after, Region.binds md e = true → e.on < i := fun e he hb => by
  have h1 := List.all_eq_true.1 h i (List.mem_range.2 hi)
  simp only [ho, Bool.and_eq_true] at h1
  have h2 := Array.all_eq_true_iff_forall_mem.1 h1.1 e he
  simpa [hb] using h2
theorem depB_pair (h : depB md ops m = true) {i k : Nat} {oi : Oper} {d : Tmp} (hi : i < m) (ho : ops[i]? = some oi) (hk : k < m) (hd : dstOf ops k = some d) : (Region.waitsFor md ops i k = true ∨ d ∉ oi.looksAt ops) ∧ (k = i ∨ oi.dst ≠ some d) := by
  have h1 := List.all_eq_true.1 h i (List.mem_range.2 hi)
  simp only [ho, Bool.and_eq_true] at h1
  have h2 := List.all_eq_true.1 h1.2 k (List.mem_range.2 hk)
  obtain ⟨ok, hok⟩ := depB_some h hk
  have e : ok.dst = some d := by unfold dstOf at hd; rwa [hok] at hd
  simp only [hok, e, Bool.and_eq_true, Bool.or_eq_true, decide_eq_true_eq, Bool.not_eq_true'] at h2
  refine ⟨?_, ?_⟩
  · rcases h2.1 with h3 | h3
    · exact .inl h3
    · exact .inr (by simpa using h3)
  · rcases h2.2 with h3 | h3
    · exact .inl h3
    · exact .inr (by simpa using h3)
theorem depB_dist (h : depB md ops m = true) : Dist ops m := fun i j hi hj hij d hd hd' => by
  obtain ⟨oj, hoj⟩ := depB_some h hj
  have := (depB_pair h hj hoj hi hd).2
  rcases this with e | e
  · exact hij e
  · exact e (by unfold dstOf at hd'; rwa [hoj] at hd')
end
theorem waits_listed {i k : Nat} {oi : Oper} {ls : Array Bool} (hw : Region.waitsFor md ops i k = true) (ho : ops[i]? = some oi) (hall : ∀ e ∈ oi.after, Region.binds md e = true → ls.getD e.on false = true) : ls.getD k false = true := by
  obtain ⟨o', ho', e, he, hb, hon⟩ := Region.waitsFor_spec hw
  obtain rfl : o' = oi := Option.some.inj (ho'.symm.trans ho)
  rw [← hon]; exact hall e he hb

/-! ### the run -/
/-- all values: rows by ρ, the others by vl -/
def ful (js : List Nat) (vl ρ : Nat → Value) : Nat → Option Value := fun i => some (if js.contains i then ρ i else vl i)
def prt (ls : Array Bool) (js : List Nat) (vl ρ : Nat → Value) : Nat → Option Value := fun i => if ls.getD i false = true then ful js vl ρ i else none
/-- what a row's operation does -/
structure RowDo (P : Program) (ops : Array Oper) (o : Oper) (a : Act) (w : World) (R : Value → World → Prop) (own : Option Nat) : Prop where
  want : Region.wanted o (yielded ops a.tmps) = true
  does : ∃ v w', (execOp a.eval o).run P w = .ok (.value v) w' ∧ R v w' ∧ w.grownBy w' own ∧ ∀ g, v.ownBlock = some g → own = some g ∨ w.heap.size ≤ g
/-- rows hang on their own blocks alone -/
structure RowsOk (W0 : World) (R : Nat → Value → World → Prop) : Prop where
  keep : ∀ j v w w', R j v w → w.heap.size ≤ w'.heap.size → (∀ g, v.ownBlock = some g → w'.heap[g]? = w.heap[g]?) → R j v w'
  lt : ∀ j v w, R j v w → ∀ g, v.ownBlock = some g → W0.heap.size ≤ g ∧ g < w.heap.size
/-- the state that is kept -/
structure Rok (ops : Array Oper) (W0 : World) (m : Nat) (js : List Nat) (ka : Nat → Option Nat) (R : Nat → Value → World → Prop) (ls : Array Bool) (ρ : Nat → Value) (w : World) : Prop where
  bel : Below W0.heap.size W0 w
  row : ∀ k, k < m → k ∈ js → ls.getD k false = true → (∀ j, j < m → ka j = some k → ls.getD j false = false) → R k (ρ k) w
  two : ∀ k l, k < m → l < m → k ∈ js → l ∈ js → k ≠ l → ls.getD k false = true → ls.getD l false = true → (∀ j, j < m → ka j = some k → ls.getD j false = false) → (∀ j, j < m → ka j = some l → ls.getD j false = false) → ∀ g, (ρ k).ownBlock = some g → (ρ l).ownBlock ≠ some g

theorem any_rows {Q' : Exit → Act → World → Prop} {m g : Nat} {js : List Nat} {ka : Nat → Option Nat} {R : Nat → Value → World → Prop} (vl : Nat → Value) (a0 : Act) (hsel : Region.noSelect ops = true) (hD : depB md ops m = true) (hmo : m < ops.size)
    (hsink : Region.sinkB md ops m = true) (hchain : Region.chainB md ops m = true)
    (hka : ∀ i k, i < m → ka i = some k → i ∈ js ∧ k ∈ js ∧ k < m ∧ Region.waitsFor md ops i k = true ∧ ∀ j, j < m → Region.waitsFor md ops j k = true → j = i) (hR : RowsOk W0 R)
    (hcalm : ∀ i o, i < m → i ∉ js → ops[i]? = some o → ∀ ρ, Calm P ops W0 o (vl i) (pv ops a0 (ful js vl ρ) m))
    (hrow : ∀ i o, i < m → i ∈ js → ops[i]? = some o → ∀ ρ w, Below W0.heap.size W0 w → (∀ k, k < m → k ∈ js → Region.waitsFor md ops i k = true → R k (ρ k) w) →
      (∀ k l, k < m → l < m → k ∈ js → l ∈ js → k ≠ l → Region.waitsFor md ops i k = true → Region.waitsFor md ops i l = true → ∀ g, (ρ k).ownBlock = some g → (ρ l).ownBlock ≠ some g) →
      RowDo P ops o (pv ops a0 (ful js vl ρ) m) w (R i) ((ka i).bind fun k => (ρ k).ownBlock))
    (hend : ∀ ρ w, Below W0.heap.size W0 w → (∀ k, k < m → k ∈ js → (∀ j, j < m → ka j ≠ some k) → R k (ρ k) w) → wpAny P md ops Q' g (upto ops m) (pv ops a0 (ful js vl ρ) m) w) :
    ∀ (c : Nat) (ls : Array Bool) (ρ : Nat → Value) (w : World), left ls m = c → ls.size = ops.size → (∀ t, m ≤ t → ls.getD t false = false) → HeadInv md ops m ls → Rok ops W0 m js ka R ls ρ w → wpAny P md ops Q' (c + g) ls (pv ops a0 (prt ls js vl ρ) m) w := by
  intro c
  induction c with
  | zero =>
    intro ls ρ w hc hsz htl _ hs
    have hall := left_none hc
    obtain rfl := upto_of hsz hall htl
    rw [Nat.zero_add, pv_congr (g := ful js vl ρ) fun i hi => by unfold prt; rw [if_pos (hall i hi)]]
    exact hend ρ w hs.bel fun k hk hkj hne => hs.row k hk hkj (hall k hk) fun j hj e => absurd e (hne j hj)
  | succ c ih =>
    intro ls ρ w hc hsz htl inv hs
    have notail : ∀ i ∈ Region.ready md ops ls, i < m := fun i hi => by
      obtain ⟨i0, hi0, hu0⟩ := left_some (ls := ls) (m := m) (by omega)
      rcases Nat.lt_or_ge i m with h | h
      · exact h
      · exact absurd hi (tail_waits hsink hchain hmo inv _ i0 rfl hi0 (getD_in (by omega) hu0) i h)
    have hex : ∃ i, i < m ∧ ls.getD i false = false ∧ ∀ k, k < i → ls.getD k false = true := by
      obtain ⟨i0, hi0, hu0⟩ := left_some (ls := ls) (m := m) (by omega)
      clear ih
      induction i0 using Nat.strongRecOn with
      | _ i0 ih2 =>
        by_cases hk : ∀ k, k < i0 → ls.getD k false = true
        · exact ⟨i0, hi0, hu0, hk⟩
        · obtain ⟨k, hk⟩ := Classical.not_forall.1 hk
          obtain ⟨hk1, hk2⟩ := Classical.not_imp.1 hk
          exact ih2 k hk1 (by omega) (by simpa using hk2)
    rw [show c + 1 + g = (c + g) + 1 by omega]
    refine ⟨fun hnil => ?_, fun i hi => ?_⟩
    · exfalso
      obtain ⟨i, hi, hu, hlo⟩ := hex
      obtain ⟨o, ho⟩ := depB_some hD hi
      have : i ∈ Region.ready md ops ls := mem_ready.2 ⟨getD_in (by omega) hu, o, ho, fun e he hb => hlo _ (depB_on hD hi ho e he hb)⟩
      rw [hnil] at this
      cases this
    · have him := notail i hi
      obtain ⟨hun, o, ho, hall⟩ := mem_ready.1 hi
      have hu := getD_both hun
      have hszi : i < ls.size := by omega
      have hc' : left (ls.setIfInBounds i true) m = c := by have := left_set hszi hu him; omega
      have hself : (ls.setIfInBounds i true).getD i false = true := getD_set_self hszi false
      have hother : ∀ k, k ≠ i → (ls.setIfInBounds i true).getD k false = ls.getD k false := fun k hk => getD_set_ne false (Ne.symm hk)
      have hdi : dstOf ops i = o.dst := by unfold dstOf; rw [ho]; rfl
      have hpn : prt ls js vl ρ i = none := by unfold prt; rw [if_neg (by rw [hu]; simp)]
      have same := pv_same (a := a0) (f := prt ls js vl ρ) (g := ful js vl ρ) (m := m) (Region.noSelect_spec hsel i o · · ho) (fun k hk d hd hl => by
        rcases (depB_pair hD him ho hk hd).1 with h | h
        · unfold prt; rw [if_pos (waits_listed h ho hall)]
        · exact absurd hl h)
      have step : ∀ ρ' u, (∀ k, k ≠ i → ρ' k = ρ k) → (if js.contains i then ρ' i else vl i) = u → (pv ops a0 (prt ls js vl ρ) m).put o.dst u = pv ops a0 (prt (ls.setIfInBounds i true) js vl ρ') m := fun ρ' u hk hu' => by
        rw [← hdi, ← pv_put (depB_dist hD) him hpn]
        refine pv_congr fun k _ => ?_
        by_cases e : k = i
        · subst e
          rw [upd_self]; unfold prt ful; rw [if_pos hself, hu']
        · rw [upd_ne _ _ e]; unfold prt ful; rw [hother k e, hk k e]
      unfold wpOp
      rw [ho]
      simp only [same.2]
      by_cases hij : i ∈ js
      · -- a row
        have free : ∀ k, k < m → k ∈ js → Region.waitsFor md ops i k = true → ∀ j, j < m → ka j = some k → ls.getD j false = false := fun k _ _ hw j hj e => by
          have := (hka j k hj e).2.2.2.2 i him hw
          subst this; exact hu
        obtain ⟨hw, v, w', hrun, hRv, hg, hfr⟩ := hrow i o him hij ho ρ w hs.bel (fun k hk hkj hwk => hs.row k hk hkj (waits_listed hwk ho hall) (free k hk hkj hwk))
          (fun k l hk hl hkj hlj hkl hwk hwl => hs.two k l hk hl hkj hlj hkl (waits_listed hwk ho hall) (waits_listed hwl ho hall) (free k hk hkj hwk) (free l hl hlj hwl))
        rw [if_pos hw]
        refine .inl ?_
        unfold Oper.wp
        rw [same.1, hrun]
        simp only [Oper.upon]
        have hst := step (fun k => if k = i then v else ρ k) v (fun k hk => if_neg hk) (by rw [if_pos (by simpa using hij), if_pos rfl])
        rw [hst]
        -- which block is taken over
        have hown : ∀ k, k < m → k ∈ js → k ≠ i → ls.getD k false = true → (∀ j, j < m → ka j = some k → (ls.setIfInBounds i true).getD j false = false) → ∀ q, (ρ k).ownBlock = some q → ((ka i).bind fun k => (ρ k).ownBlock) ≠ some q := fun k hk hkj hki hlk hfk q hq e => by
          cases hkai : ka i with
          | none => rw [hkai] at e; cases e
          | some k0 =>
            rw [hkai] at e
            have hk0 := hka i k0 him hkai
            have hne : k ≠ k0 := fun x => by
              subst x
              have := hfk i him hkai
              rw [hself] at this; cases this
            refine hs.two k k0 hk hk0.2.2.1 hkj hk0.2.1 hne hlk (waits_listed hk0.2.2.2.1 ho hall) (fun j hj ej => ?_) (free k0 hk0.2.2.1 hk0.2.1 hk0.2.2.2.1) q hq e
            by_cases x : j = i
            · subst x; exact hu
            · have := hfk j hj ej; rwa [hother j x] at this
        have old : ∀ k, k < m → k ∈ js → k ≠ i → (ls.setIfInBounds i true).getD k false = true → (∀ j, j < m → ka j = some k → (ls.setIfInBounds i true).getD j false = false) → R k (ρ k) w := fun k hk hkj hki hlk hfk => by
          rw [hother k hki] at hlk
          refine hs.row k hk hkj hlk fun j hj ej => ?_
          by_cases x : j = i
          · subst x; exact hu
          · have := hfk j hj ej; rwa [hother j x] at this
        refine ih _ _ w' hc' (by simp [hsz]) (fun t ht => by rw [hother t (by omega)]; exact htl t ht) (inv.set hi him) ⟨?_, fun k hk hkj hlk hfk => ?_, fun k l hk hl hkj hlj hkl hlk hll hfk hfl q hq => ?_⟩
        · refine hs.bel.grown hg hs.bel.size fun q hq => ?_
          cases hkai : ka i with
          | none => rw [hkai] at hq; cases hq
          | some k0 =>
            rw [hkai] at hq
            have hk0 := hka i k0 him hkai
            exact (hR.lt k0 (ρ k0) w (hs.row k0 hk0.2.2.1 hk0.2.1 (waits_listed hk0.2.2.2.1 ho hall) (free k0 hk0.2.2.1 hk0.2.1 hk0.2.2.2.1)) q hq).1
        · by_cases e : k = i
          · subst e; rw [if_pos rfl]; exact hRv
          · rw [if_neg e]
            have hRk := old k hk hkj e hlk hfk
            refine hR.keep k _ w w' hRk hg.size fun q hq => hg.block q (hR.lt k _ w hRk q hq).2 fun x => ?_
            rw [hother k e] at hlk
            exact hown k hk hkj e hlk hfk q hq x.symm
        · have key : ∀ k, k < m → k ∈ js → k ≠ i → (ls.setIfInBounds i true).getD k false = true → (∀ j, j < m → ka j = some k → (ls.setIfInBounds i true).getD j false = false) → ∀ q, (ρ k).ownBlock = some q → v.ownBlock ≠ some q := fun k hk hkj hki hlk hfk q hq hv => by
            rcases hfr q hv with x | x
            · rw [hother k hki] at hlk
              exact hown k hk hkj hki hlk hfk q hq x
            · have := (hR.lt k _ w (old k hk hkj hki hlk hfk) q hq).2
              omega
          by_cases e1 : k = i
          · have e2 : l ≠ i := fun x => hkl (e1.trans x.symm)
            rw [if_pos e1] at hq
            rw [if_neg e2]
            exact fun x => key l hl hlj e2 hll hfl q x hq
          · rw [if_neg e1] at hq
            by_cases e2 : l = i
            · rw [if_pos e2]; exact key k hk hkj e1 hlk hfk q hq
            · rw [if_neg e2]
              have f : ∀ k, (∀ j, j < m → ka j = some k → (ls.setIfInBounds i true).getD j false = false) → ∀ j, j < m → ka j = some k → ls.getD j false = false := fun k hfk j hj ej => by
                by_cases x : j = i
                · subst x; exact hu
                · have := hfk j hj ej; rwa [hother j x] at this
              rw [hother k e1] at hlk
              rw [hother l e2] at hll
              exact hs.two k l hk hl hkj hlj hkl hlk hll (f k hfk) (f l hfl) q hq
      · -- a calm one
        have hst := step ρ (vl i) (fun _ _ => rfl) (by rw [if_neg (by simpa using hij)])
        have hka' : ∀ k, ka i = some k → False := fun k e => hij (hka i k him e).1
        have f : ∀ k, (∀ j, j < m → ka j = some k → (ls.setIfInBounds i true).getD j false = false) → ∀ j, j < m → ka j = some k → ls.getD j false = false := fun k hfk j hj ej => by
          by_cases x : j = i
          · subst x; exact hu
          · have := hfk j hj ej; rwa [hother j x] at this
        have go : ∀ w2, Below w.heap.size w w2 → wpAny P md ops Q' (c + g) (ls.setIfInBounds i true) ((pv ops a0 (prt ls js vl ρ) m).put o.dst (vl i)) w2 := fun w2 hb => by
          rw [hst]
          refine ih _ ρ w2 hc' (by simp [hsz]) (fun t ht => by rw [hother t (by omega)]; exact htl t ht) (inv.set hi him) ⟨below_class hs.bel hb, fun k hk hkj hlk hfk => ?_, fun k l hk hl hkj hlj hkl hlk hll hfk hfl q hq => ?_⟩
          · have e : k ≠ i := fun x => hij (x ▸ hkj)
            rw [hother k e] at hlk
            have hRk := hs.row k hk hkj hlk (f k hfk)
            exact hR.keep k _ w w2 hRk hb.size fun q hq => hb.block q (hR.lt k _ w hRk q hq).2
          · have e1 : k ≠ i := fun x => hij (x ▸ hkj)
            have e2 : l ≠ i := fun x => hij (x ▸ hlj)
            rw [hother k e1] at hlk
            rw [hother l e2] at hll
            exact hs.two k l hk hl hkj hlj hkl hlk hll (f k hfk) (f l hfl) q hq
        rcases hcalm i o him hij ho ρ with ⟨hw, hq⟩ | ⟨hw, hv⟩
        · rw [if_pos hw]
          refine .inl (wp_of_calm (v := vl i) ?_ go)
          have := hq w hs.bel
          unfold Oper.quietAt at *
          rwa [same.1]
        · rw [if_neg (by rw [hw]; simp), ← hv]
          exact go w (Below.refl _ _)
end

/-! ### the law -/
section
variable {P : Program} {ops : Array Oper} {W0 : World}
/-- values that are put one behind the other -/
def pl (ops : Array Oper) (vl : Nat → Value) (a : Act) (hs : List Nat) : Act := hs.foldl (fun a i => a.put (dstOf ops i) (vl i)) a
theorem pl_congr {vl vl' : Nat → Value} : ∀ {hs : List Nat} {a : Act}, (∀ i ∈ hs, vl i = vl' i) → pl ops vl a hs = pl ops vl' a hs
  | [], _, _ => rfl
  | i :: hs, a, h => by
    show pl ops vl (a.put (dstOf ops i) (vl i)) hs = pl ops vl' (a.put (dstOf ops i) (vl' i)) hs
    rw [h i (by simp), pl_congr fun k hk => h k (by simp [hk])]
theorem pl_pv {vl : Nat → Value} {a : Act} {m : Nat} (hd : Dist ops m) : ∀ {hs : List Nat} {f : Nat → Option Value}, hs.Nodup → (∀ i ∈ hs, i < m ∧ f i = none) → pl ops vl (pv ops a f m) hs = pv ops a (fun i => if hs.contains i then some (vl i) else f i) m
  | [], f, _, _ => pv_congr fun i _ => by simp
  | i :: hs, f, hn, h => by
    obtain ⟨h1, h2⟩ := List.nodup_cons.1 hn
    show pl ops vl ((pv ops a f m).put (dstOf ops i) (vl i)) hs = _
    have hne : ∀ k, k ∈ hs → k ≠ i := fun k hk e => by subst e; exact h1 hk
    rw [← pv_put hd (h i (by simp)).1 (h i (by simp)).2, pl_pv hd h2 fun k hk => ⟨(h k (by simp [hk])).1, by rw [upd_ne _ _ (hne k hk)]; exact (h k (by simp [hk])).2⟩]
    refine pv_congr fun k _ => ?_
    by_cases e : k = i
    · subst e
      rw [if_neg (by simpa using h1), upd_self, if_pos (by simp)]
    · rw [upd_ne _ _ e]
      by_cases hk : k ∈ hs
      · rw [if_pos (by simpa using hk), if_pos (by simp [hk])]
      · rw [if_neg (by simpa using hk), if_neg (by simp [hk, e])]
theorem calm_vals {Q : Act → Prop} : ∀ (hs : List Nat) (a : Act), hs.Nodup → (∀ i ∈ hs, ∃ o, ops[i]? = some o) → wpCalm P ops W0 Q (hs.filterMap fun i => ops[i]?) a →
    ∃ vl : Nat → Value, Q (pl ops vl a hs) ∧ ∀ pre i post o, hs = pre ++ i :: post → ops[i]? = some o → Calm P ops W0 o (vl i) (pl ops vl a pre)
  | [], a, _, _, h => ⟨fun _ => undef, h, fun pre i post o e => by simp at e⟩
  | i :: hs, a, hn, hex, h => by
    obtain ⟨h1, h2⟩ := List.nodup_cons.1 hn
    obtain ⟨o, ho⟩ := hex i (by simp)
    rw [List.filterMap_cons, ho] at h
    obtain ⟨v, hy, hK⟩ := wpCalm_cons h
    have hdi : dstOf ops i = o.dst := by unfold dstOf; rw [ho]; rfl
    obtain ⟨vl, hQ, hc⟩ := calm_vals hs (a.put o.dst v) h2 (fun k hk => hex k (by simp [hk])) hK
    have hne : ∀ k, k ∈ hs → k ≠ i := fun k hk e => by subst e; exact h1 hk
    have heq : ∀ k ∈ hs, (fun k => if k = i then v else vl k) k = vl k := fun k hk => if_neg (hne k hk)
    refine ⟨fun k => if k = i then v else vl k, ?_, fun pre j post oj e hoj => ?_⟩
    · show Q (pl ops _ (a.put (dstOf ops i) (if i = i then v else vl i)) hs)
      rw [if_pos rfl, hdi, pl_congr heq]; exact hQ
    · cases pre with
      | nil =>
        simp only [List.nil_append, List.cons.injEq] at e
        obtain ⟨rfl, _⟩ := e
        obtain rfl : o = oj := Option.some.inj (ho.symm.trans hoj)
        show Calm P ops W0 o (if i = i then v else vl i) a
        rw [if_pos rfl]; exact hy
      | cons x pre =>
        simp only [List.cons_append, List.cons.injEq] at e
        obtain ⟨rfl, e⟩ := e
        have hj : j ∈ hs := by rw [e]; simp
        have := hc pre j post oj e hoj
        show Calm P ops W0 oj (if j = i then v else vl j) (pl ops _ (a.put (dstOf ops i) (if i = i then v else vl i)) pre)
        rw [if_pos rfl, hdi, if_neg (hne j hj), pl_congr fun k hk => heq k (by rw [e]; simp [hk])]
        exact this
/-- the calm operations of the first n -/
def calmL (js : List Nat) : Nat → Nat → List Oper → List Oper
  | _, 0, _ => []
  | _, _, [] => []
  | i, n + 1, o :: l => if js.contains i then calmL js (i + 1) n l else o :: calmL js (i + 1) n l
theorem calmL_eq (js : List Nat) : ∀ (l : List Oper) (pre : List Oper) (n : Nat), n ≤ l.length → calmL js pre.length n l = (((List.range' pre.length n).filter fun i => !js.contains i).filterMap fun i => (pre ++ l)[i]?)
  | _, pre, 0, _ => by simp [calmL]
  | [], pre, n + 1, h => by simp at h
  | o :: l, pre, n + 1, h => by
    have ih := calmL_eq js l (pre ++ [o]) n (by simpa using h)
    rw [List.length_append, List.length_singleton, List.append_assoc, List.singleton_append] at ih
    rw [calmL, List.range'_succ, List.filter_cons]
    by_cases hj : js.contains pre.length = true
    · rw [if_pos hj, if_neg (by rw [hj]; simp)]; exact ih
    · rw [if_neg hj, if_pos (by simpa using hj), List.filterMap_cons]
      have e : (pre ++ o :: l)[pre.length]? = some o := by simp
      rw [e, ih]
/-- who takes which row over -/
def kaOf (kl : List (Nat × Nat)) (i : Nat) : Option Nat := (kl.find? fun p => p.1 == i).map (·.2)
/-- what is asked of the region's text -/
def rowsB (md : Region.Mode) (ops : Array Oper) (m : Nat) (js : List Nat) (kl : List (Nat × Nat)) : Bool :=
  Region.noSelect ops && depB md ops m && decide (m < ops.size) && Region.sinkB md ops m && Region.chainB md ops m && Region.seqB md ops (ops.size - m) m (upto ops m) && decide js.Nodup && js.all (fun j => decide (j < m)) &&
  kl.all (fun p => js.contains p.1 && js.contains p.2 && Region.waitsFor md ops p.1 p.2 && (List.range m).all fun i => decide (i = p.1) || !Region.waitsFor md ops i p.2) &&
  (List.range m).all fun i => js.contains i || js.all fun j => !Region.waitsFor md ops i j
end
/-- the rows' values are put in -/
def rwv (l : List Oper) (js : List Nat) (ρ : Nat → Value) (a : Act) : Act := pl l.toArray ρ a js

theorem wpAny_rows {P : Program} {Q : Exit → Act → World → Prop} {a : Act} {w : World} {l : List Oper} (m : Nat) (js : List Nat) (kl : List (Nat × Nat)) (R : Nat → Value → World → Prop) (hB : rowsB .any l.toArray m js kl = true) (hR : RowsOk w.drew R)
    (h : wpCalm P l.toArray w.drew (fun a' =>
      (∀ i o, i ∈ js → l[i]? = some o → ∀ ρ w', Below w.drew.heap.size w.drew w' → (∀ k, k ∈ js → Region.waitsFor .any l.toArray i k = true → R k (ρ k) w') →
        (∀ k k', k ∈ js → k' ∈ js → k ≠ k' → Region.waitsFor .any l.toArray i k = true → Region.waitsFor .any l.toArray i k' = true → ∀ g, (ρ k).ownBlock = some g → (ρ k').ownBlock ≠ some g) →
        RowDo P l.toArray o (rwv l js ρ a') w' (R i) ((kaOf kl i).bind fun k => (ρ k).ownBlock)) ∧
      ∀ ρ w', Below w.drew.heap.size w.drew w' → (∀ k, k ∈ js → (kl.all fun p => p.2 != k) = true → R k (ρ k) w') → wpList P l.toArray Q (l.drop m) (rwv l js ρ a') w') (calmL js 0 m l) a) :
    wpAny P .any l.toArray Q l.toArray.size (Array.replicate l.toArray.size false) a w.drew := by
  simp only [rowsB, Bool.and_eq_true, decide_eq_true_eq] at hB
  obtain ⟨⟨⟨⟨⟨⟨⟨⟨⟨hsel, hD⟩, hmo⟩, hsink⟩, hchain⟩, hseq⟩, hnd⟩, hjm⟩, hkl⟩, hcj⟩ := hB
  have hmo' : m < l.length := by simpa using hmo
  have hdl : (l.drop m).length = l.toArray.size - m := by simp
  have hjm' : ∀ j ∈ js, j < m := fun j hj => by simpa using List.all_eq_true.1 hjm j hj
  have hdist := depB_dist hD
  have e0 := calmL_eq js l [] m (by omega)
  simp only [List.length_nil, List.nil_append] at e0
  rw [e0] at h
  have hget : ∀ i : Nat, l[i]? = l.toArray[i]? := fun i => by simp
  have hfm : (((List.range' 0 m).filter fun i => !js.contains i).filterMap fun i => l[i]?) = (((List.range' 0 m).filter fun i => !js.contains i).filterMap fun i => l.toArray[i]?) := by
    congr 1
    funext i
    exact hget i
  rw [hfm] at h
  have hsn : ((List.range' 0 m).filter fun i => !js.contains i).Nodup := (List.nodup_range' ..).filter _
  have hslt : ((List.range' 0 m).filter fun i => !js.contains i).Pairwise (· < ·) := (List.pairwise_lt_range' ..).filter _
  have hsm : ∀ i, i ∈ ((List.range' 0 m).filter fun i => !js.contains i) ↔ i < m ∧ i ∉ js := fun i => by
    rw [List.mem_filter, List.mem_range'_1]
    simp
  obtain ⟨vl, hQ, hc⟩ := calm_vals _ a hsn (fun i hi => depB_some hD ((hsm i).1 hi).1) h
  have hka : ∀ i k, i < m → kaOf kl i = some k → i ∈ js ∧ k ∈ js ∧ k < m ∧ Region.waitsFor .any l.toArray i k = true ∧ ∀ j, j < m → Region.waitsFor .any l.toArray j k = true → j = i := fun i k _ e => by
    unfold kaOf at e
    obtain ⟨p, hp, rfl⟩ := Option.map_eq_some_iff.1 e
    have hpm := List.mem_of_find?_eq_some hp
    have hpi : p.1 = i := by simpa using List.find?_some hp
    have := List.all_eq_true.1 hkl p hpm
    simp only [Bool.and_eq_true, List.all_eq_true, List.mem_range, Bool.or_eq_true, decide_eq_true_eq, Bool.not_eq_true'] at this
    obtain ⟨⟨⟨a1, a2⟩, a3⟩, a4⟩ := this
    rw [hpi] at a1 a3 a4
    have a2' : p.2 ∈ js := by simpa using a2
    refine ⟨by simpa using a1, a2', hjm' _ a2', a3, fun j hj hw => ?_⟩
    rcases a4 j hj with x | x
    · exact x
    · rw [hw] at x; cases x
  -- the frames
  have hpl : ∀ pre, (∀ i ∈ pre, i < m) → pre.Nodup → pl l.toArray vl a pre = pv l.toArray a (fun i => if pre.contains i then some (vl i) else none) m := fun pre h1 h2 => by
    have := pl_pv (vl := vl) (a := a) hdist (f := fun _ => none) h2 fun i hi => ⟨h1 i hi, rfl⟩
    rwa [show pv l.toArray a (fun _ => none) m = a from by
      have : ∀ k, pv l.toArray a (fun _ => none) k = a := fun k => by
        induction k with
        | zero => rfl
        | succ k ih => unfold pv; exact ih
      exact this m] at this
  have hful : ∀ ρ, rwv l js ρ (pl l.toArray vl a ((List.range' 0 m).filter fun i => !js.contains i)) = pv l.toArray a (ful js vl ρ) m := fun ρ => by
    unfold rwv
    rw [hpl _ (fun i hi => ((hsm i).1 hi).1) hsn, pl_pv hdist hnd fun i hi => ⟨hjm' i hi, if_neg (by intro hh; exact ((hsm i).1 (by simpa using hh)).2 hi)⟩]
    refine pv_congr fun i hi => ?_
    unfold ful
    by_cases hj : i ∈ js
    · rw [if_pos (List.contains_iff_mem.2 hj), if_pos (List.contains_iff_mem.2 hj)]
    · rw [if_neg (fun x => hj (List.contains_iff_mem.1 x)), if_neg (fun x => hj (List.contains_iff_mem.1 x)), if_pos (List.contains_iff_mem.2 ((hsm i).2 ⟨hi, hj⟩))]
  have inv0 : HeadInv .any l.toArray m (Array.replicate l.toArray.size false) :=
    ⟨by simp, fun j oj _ hl => (by rw [getD_replicate_false] at hl; cases hl), fun t _ ht => getD_in (by simpa using ht) (getD_replicate_false _ _)⟩
  have hl0 : left (Array.replicate l.toArray.size false) m = m := by
    have : ∀ k, left (Array.replicate l.toArray.size false) k = k := fun k => by
      induction k with
      | zero => rfl
      | succ k ih => unfold left; rw [ih, getD_replicate_false]; simp
    exact this m
  have := any_rows (md := .any) (P := P) (W0 := w.drew) (Q' := Q) (g := l.toArray.size - m) (js := js) (ka := kaOf kl) (R := R) vl a hsel hD hmo hsink hchain hka hR
    (fun i o hi hij ho ρ => by
      have him : i ∈ ((List.range' 0 m).filter fun i => !js.contains i) := (hsm i).2 ⟨hi, hij⟩
      obtain ⟨pre, post, e⟩ := List.append_of_mem him
      have hC := hc pre i post o e ho
      have hpn : pre.Nodup := by rw [e] at hsn; exact (List.nodup_append.1 hsn).1
      have hpm : ∀ k ∈ pre, k < m := fun k hk => ((hsm k).1 (by rw [e]; simp [hk])).1
      rw [hpl pre hpm hpn] at hC
      have sm := pv_same (a := a) (f := ful js vl ρ) (g := fun i => if pre.contains i then some (vl i) else none) (m := m) (Region.noSelect_spec hsel i o · · ho) (fun k hk d hd hl => by
        rcases (depB_pair hD hi ho hk hd).1 with hw | hw
        · obtain ⟨o', ho', ee, he, hb, hon⟩ := Region.waitsFor_spec hw
          obtain rfl : o' = o := Option.some.inj (ho'.symm.trans ho)
          have hki : k < i := by rw [← hon]; exact depB_on hD hi ho ee he hb
          have hkj : k ∉ js := fun hkj => by
            have := List.all_eq_true.1 hcj i (List.mem_range.2 hi)
            simp only [Bool.or_eq_true] at this
            rcases this with x | x
            · exact hij (by simpa using x)
            · have := List.all_eq_true.1 x k hkj
              rw [hw] at this; cases this
          have hkh : k ∈ ((List.range' 0 m).filter fun i => !js.contains i) := (hsm k).2 ⟨hk, hkj⟩
          rw [e] at hkh hslt
          have hkp : k ∈ pre := by
            rcases List.mem_append.1 hkh with x | x
            · exact x
            · rcases List.mem_cons.1 x with x | x
              · omega
              · have := (List.pairwise_cons.1 (List.pairwise_append.1 hslt).2.1).1 k x
                omega
          unfold ful
          rw [if_neg (by simpa using hkj), if_pos (by simpa using hkp)]
        · exact absurd hl hw)
      exact hC.same sm.1 sm.2)
    (fun i o hi hij ho ρ w' hb h1 h2 => by
      rw [← hful ρ]
      exact hQ.1 i o hij (by rw [hget]; exact ho) ρ w' hb (fun k hk hw => h1 k (hjm' k hk) hk hw) (fun k k' hk hk' hne hw hw' => h2 k k' (hjm' k hk) (hjm' k' hk') hk hk' hne hw hw'))
    (fun ρ w' hb h1 => by
      have := wpAny_of_seq (md := .any) (Q' := Q) (l.drop m) m (upto l.toArray m) (rwv l js ρ (pl l.toArray vl a ((List.range' 0 m).filter fun i => !js.contains i))) w' (fun j => by simp [List.getElem?_drop]) (by rw [hdl]; exact hseq) (hQ.2 ρ w' hb fun k hk hu => h1 k (hjm' k hk) hk fun j hj e => by
        unfold kaOf at e
        obtain ⟨p, hp, e2⟩ := Option.map_eq_some_iff.1 e
        have := List.all_eq_true.1 hu p (List.mem_of_find?_eq_some hp)
        simp [e2] at this)
      rw [hdl, hful ρ] at this
      exact this)
    m (Array.replicate l.toArray.size false) (fun _ => undef) w.drew hl0 (by simp) (fun t _ => getD_replicate_false _ _) inv0
    ⟨Below.refl _ _, fun k _ _ hk => (by rw [getD_replicate_false] at hk; cases hk), fun k _ _ _ _ _ _ hk => (by rw [getD_replicate_false] at hk; cases hk)⟩
  rw [show m + (l.toArray.size - m) = l.toArray.size by omega, show pv l.toArray a (prt (Array.replicate l.toArray.size false) js vl fun _ => undef) m = a from by
    have : ∀ k, pv l.toArray a (prt (Array.replicate l.toArray.size false) js vl fun _ => undef) k = a := fun k => by
      induction k with
      | zero => rfl
      | succ k ih =>
        unfold pv
        rw [show prt (Array.replicate l.toArray.size false) js vl (fun _ => undef) k = none from by unfold prt; rw [if_neg (by rw [getD_replicate_false]; simp)]]
        exact ih
    exact this m] at this
  exact this

theorem wp_region_rows {P : Program} {id : Nat} {Q : Exit → Act → World → Prop} {a : Act} {w : World} {l : List Oper} (m : Nat) (js : List Nat) (kl : List (Nat × Nat)) (R : Nat → Value → World → Prop) (hm : P.follows .mixedOrders = true) (hB : rowsB .any l.toArray m js kl = true) (hR : RowsOk w.drew R)
    (h : wpCalm P l.toArray w.drew (fun a' =>
      (∀ i o, i ∈ js → l[i]? = some o → ∀ ρ w', Below w.drew.heap.size w.drew w' → (∀ k, k ∈ js → Region.waitsFor .any l.toArray i k = true → R k (ρ k) w') →
        (∀ k k', k ∈ js → k' ∈ js → k ≠ k' → Region.waitsFor .any l.toArray i k = true → Region.waitsFor .any l.toArray i k' = true → ∀ g, (ρ k).ownBlock = some g → (ρ k').ownBlock ≠ some g) →
        RowDo P l.toArray o (rwv l js ρ a') w' (R i) ((kaOf kl i).bind fun k => (ρ k).ownBlock)) ∧
      ∀ ρ w', Below w.drew.heap.size w.drew w' → (∀ k, k ∈ js → (kl.all fun p => p.2 != k) = true → R k (ρ k) w') → wpList P l.toArray Q (l.drop m) (rwv l js ρ a') w') (calmL js 0 m l) a) :
    (Code.region id l.toArray true).wp P Q a w :=
  wp_region_any hm (wpAny_rows m js kl R hB hR h)

end Go.Proofs.Ytdfdkddjkhcgdai

/- Rows of pairs that are owned: cars, wants. -/
namespace Go.Proofs.Ytdfdkddjkhcgdai
open Go.RowKit

/-- the cells of pairs -/
def pc (l : List (Int × Int)) : List Value := l.flatMap fun y => [.int .i64 y.1, .int .i64 y.2]
theorem pc_nil : pc [] = [] := rfl
theorem pc_cons (y : Int × Int) (l : List (Int × Int)) : pc (y :: l) = .int .i64 y.1 :: .int .i64 y.2 :: pc l := rfl
theorem pc_length : ∀ (l : List (Int × Int)), (pc l).length = l.length * 2
  | [] => rfl
  | y :: l => by rw [pc_cons, List.length_cons, List.length_cons, pc_length l, List.length_cons]; omega
theorem pc_append (l m : List (Int × Int)) : pc (l ++ m) = pc l ++ pc m := by unfold pc; rw [List.flatMap_append]
theorem pc_one (l : List (Int × Int)) : ∀ u ∈ pc l, u.oneCell' = true := fun u hu => by
  obtain ⟨y, _, h⟩ := List.mem_flatMap.1 hu
  simp at h
  rcases h with rfl | rfl <;> rfl
theorem pc_get0 {y : Int × Int} : ∀ {l : List (Int × Int)} {i : Nat}, l[i]? = some y → (pc l)[i * 2]? = some (.int .i64 y.1)
  | [], _, h => by simp at h
  | z :: l, 0, h => by simp at h; subst h; rfl
  | z :: l, i + 1, h => by
    rw [pc_cons, show (i + 1) * 2 = i * 2 + 1 + 1 by omega, List.getElem?_cons_succ, List.getElem?_cons_succ]
    exact pc_get0 (by simpa using h)
theorem pc_get1 {y : Int × Int} : ∀ {l : List (Int × Int)} {i : Nat}, l[i]? = some y → (pc l)[i * 2 + 1]? = some (.int .i64 y.2)
  | [], _, h => by simp at h
  | z :: l, 0, h => by simp at h; subst h; rfl
  | z :: l, i + 1, h => by
    rw [pc_cons, show (i + 1) * 2 + 1 = (i * 2 + 1) + 1 + 1 by omega, List.getElem?_cons_succ, List.getElem?_cons_succ]
    exact pc_get1 (by simpa using h)
theorem pc_set1 {y : Int × Int} {x : Int} : ∀ {l : List (Int × Int)} {i : Nat}, l[i]? = some y → (pc l).set (i * 2 + 1) (.int .i64 x) = pc (l.set i (y.1, x))
  | [], _, h => by simp at h
  | z :: l, 0, h => by simp at h; subst h; rfl
  | z :: l, i + 1, h => by
    rw [pc_cons, show (i + 1) * 2 + 1 = (i * 2 + 1) + 1 + 1 by omega, List.set_cons_succ, List.set_cons_succ, pc_set1 (by simpa using h), List.set_cons_succ, pc_cons]
/-- a slice of pairs that reads as l at each of its cells -/
theorem R2.cells {D : Nat → Prop} {W : World} {ad : Addr} {n cap : Nat} {l : List (Int × Int)} (h : R2 D W (.slice (some ad) n cap) l) : ∀ (j : Nat) u, (pc l)[j]? = some u → W.cell? (ad.add j) = some u := fun j u hu => by
  have hj : j < l.length * 2 := by have := (List.getElem?_eq_some_iff.1 hu).1; rwa [pc_length] at this
  obtain ⟨y, hy⟩ : ∃ y, l[j / 2]? = some y := ⟨_, List.getElem?_eq_getElem (by omega)⟩
  obtain ⟨g, o, e, h1, h2⟩ := h.at hy
  cases e
  rw [Addr.add_mid]
  by_cases hm : j % 2 = 0
  · have e1 : j / 2 * 2 = j := by omega
    have := pc_get0 hy
    rw [e1, hu] at this
    cases this
    rw [e1] at h1; exact h1
  · have e1 : j / 2 * 2 + 1 = j := by omega
    have := pc_get1 hy
    rw [e1, hu] at this
    cases this
    rw [Nat.add_assoc, e1] at h2; exact h2
/-- a row of pairs that is owned -/
def O2 (t : TypeId) (W : World) (B : Nat) (v : Value) (l : List (Int × Int)) : Prop := W.ownsRow B t 2 v l.length (pc l)
section
variable {t : TypeId} {W W' : World} {B : Nat} {v : Value} {l : List (Int × Int)}
theorem O2.lt (h : O2 t W B v l) : ∀ g, v.ownBlock = some g → B ≤ g ∧ g < W.heap.size := World.ownsRow.lt h
theorem O2.keep (h : O2 t W B v l) (hk : ∀ g, v.ownBlock = some g → W'.heap[g]? = W.heap[g]?) : O2 t W' B v l := by
  refine ⟨h.1, ?_⟩
  rcases h.2 with h1 | ⟨g, cap, cur, hv, hb, hg, hc⟩
  · exact .inl h1
  · exact .inr ⟨g, cap, cur, hv, hb, (hk g (by rw [hv]; rfl)).trans hg, hc⟩
theorem O2.below' (h : O2 t W B v l) (hb : Below W.heap.size W W') : O2 t W' B v l := h.keep fun g hg => hb.block g (h.lt g hg).2
theorem O2.form (h : O2 t W B v l) : (v = .slice none 0 0 ∧ l = []) ∨ ∃ g cap, v = .slice (some ⟨g, 0, none⟩) l.length cap ∧ B ≤ g ∧ g < W.heap.size ∧ l.length ≤ cap := by
  rcases h.2 with ⟨h1, h2⟩ | ⟨g, cap, cur, hv, hb, hg, hc, _⟩
  · exact .inl ⟨h1, List.length_eq_zero_iff.1 h2⟩
  · exact .inr ⟨g, cap, hv, hb, (Array.getElem?_eq_some_iff.1 hg).1, hc⟩
theorem O2.cell0 {g cap n i : Nat} {y : Int × Int} (h : O2 t W B (.slice (some ⟨g, 0, none⟩) n cap) l) (hi : l[i]? = some y) : W.cell? ⟨g, i * 2, none⟩ = some (.int .i64 y.1) := by
  have := World.ownsRow.cells h (g := g) rfl _ _ (pc_get0 hi)
  rwa [Addr.add_mid, Nat.zero_add] at this
theorem O2.cell1 {g cap n i : Nat} {y : Int × Int} (h : O2 t W B (.slice (some ⟨g, 0, none⟩) n cap) l) (hi : l[i]? = some y) : W.cell? ⟨g, i * 2 + 1, none⟩ = some (.int .i64 y.2) := by
  have := World.ownsRow.cells h (g := g) rfl _ _ (pc_get1 hi)
  rwa [Addr.add_mid, Nat.zero_add] at this
theorem O2.r2 {D : Nat → Prop} (h : O2 t W B v l) (hD : ∀ g, v.ownBlock = some g → D g) : R2 D W v l := by
  rcases h.form with ⟨rfl, rfl⟩ | ⟨g, cap, rfl, hB, hlt, hc⟩
  · exact ⟨none, 0, rfl, Nat.le_refl _, fun _ => rfl, .inl rfl⟩
  · exact ⟨_, cap, rfl, hc, (fun e => by cases e), .inr ⟨g, 0, rfl, hD g rfl, hlt, fun i y hy => ⟨by rw [Nat.zero_add]; exact h.cell0 hy, by rw [Nat.zero_add]; exact h.cell1 hy⟩⟩⟩
theorem O2.len {a : Option Addr} {n cap : Nat} (h : O2 t W B (.slice a n cap) l) : n = l.length := by
  rcases h.form with ⟨h1, h2⟩ | ⟨g, c, h1, _⟩
  · cases h1; rw [h2]; rfl
  · cases h1; rfl
theorem O2.fr {g cap n : Nat} (h : O2 t W B (.slice (some ⟨g, 0, none⟩) n cap) l) (j : Nat) : W.frozen? ⟨g, j, none⟩ = false := by
  have hn := h.len
  subst hn
  exact World.ownsRow.frozenAt h j
/-- a second number is written -/
theorem O2.put1 {g cap n i : Nat} {y : Int × Int} (h : O2 t W B (.slice (some ⟨g, 0, none⟩) n cap) l) (hi : l[i]? = some y) (x : Int) : O2 t (W.setCell ⟨g, i * 2 + 1, none⟩ (.int .i64 x)) B (.slice (some ⟨g, 0, none⟩) n cap) (l.set i (y.1, x)) := by
  have hn := h.len
  subst hn
  have := (World.ownsRow.stored h (i * 2 + 1) (.int .i64 x)).1
  rw [pc_set1 hi] at this
  unfold O2
  rw [List.length_set]
  exact this
theorem O2.nil (W : World) (hB : B ≤ W.heap.size) : O2 t (W.alloc (.cells #[] t)) B (.slice (some ⟨W.heap.size, 0, none⟩) 0 0) [] :=
  World.ownsRow_lit (e := t) (size := 2) W #[] 0 hB (by unfold maxLen; omega) (by simp)
theorem O2.some (h : O2 t W B v l) (hn : 0 < l.length) : ∃ g cap, v = .slice (some ⟨g, 0, none⟩) l.length cap ∧ B ≤ g := by
  rcases h.form with ⟨_, e⟩ | ⟨g, cap, hv, hB, _⟩
  · rw [e] at hn; simp at hn
  · exact ⟨g, cap, hv, hB⟩
end
/-- pairs are put behind a row of pairs -/
theorem wpList_append2 {ops : Array Oper} {rest : List Oper} {o : Oper} {a : Act} {w : World} {Q : Exit → Act → World → Prop} (e t : TypeId) (ht : Try.prog.underlying t = some (.slice e))
    (hinfo : (Try.prog.info? e).map (fun i => (i.zero, i.size, i.bytes)) = some (some (.agg #[.int .i64 0, .int .i64 0]), 2, 16)) (hgd : o.guard = none) (s x : Operand)
    (ho : o.op = .call { callee := .builtin .append, args := #[s, x], argTypes := #[t, t] })
    (B : Nat) (v u : Value) (l m : List (Int × Int)) (D : Nat → Prop) (hs : a.eval s = v) (hown : O2 e w B v l) (hx : a.eval x = u) (hr : R2 D w u m)
    (h63 : l.length + m.length ≤ 1000000) (hB : B ≤ w.heap.size)
    (h : ∀ v' w', O2 e w' B v' (l ++ m) → w.grownBy w' v.ownBlock → wpList Try.prog ops Q rest (a.put o.dst v') w') : wpList Try.prog ops Q (o :: rest) a w := by
  obtain ⟨ao, cap, rfl, hc, hn⟩ := hr.form
  obtain ⟨i0, hi, hz⟩ := Option.map_eq_some_iff.1 hinfo
  simp only [Prod.mk.injEq] at hz
  obtain ⟨hz0, hz1, hz2⟩ := hz
  cases ao with
  | none =>
    obtain rfl : cap = 0 := hn rfl
    obtain rfl : m = [] := List.length_eq_zero_iff.1 (by omega)
    refine wpList_append_own_none hgd s x t ho B e i0 2 ht hi v l.length (pc l) hs hown (by rw [hx]; rfl) ?_
    refine h v w ?_ (World.grownBy.refl w _)
    rw [List.append_nil]; exact hown
  | some ad =>
    refine wpList_append_own w hgd s x t ho B e i0 _ 2 16 ht hi hz0 hz1 hz2 rfl (by decide) v l.length (pc l) hs hown ad m.length cap (pc m) hx (pc_length m) hr.cells (pc_one m) (by unfold maxLen; omega) (by omega) hB ?_
    intro v' w' h1 h2 _
    refine h v' w' ?_ h2
    unfold O2
    rw [List.length_append, pc_append]
    exact h1

end Go.Proofs.Ytdfdkddjkhcgdai

/- Rows of numbers, and of pairs, in a region that draws its order. -/
namespace Go.Proofs.Ytdfdkddjkhcgdai
open Go.RowKit

section
variable {ops : Array Oper} {o : Oper} {a : Act} {w : World}
theorem want_none (h : o.guard = none) (tmps : Array Value) : Region.wanted o (yielded ops tmps) = true := by unfold Region.wanted; rw [h]
/-- a row that is typed -/
theorem RowDo.lit {R : Value → World → Prop} (hg : o.guard = none) (n : Nat) (ob : Obj) (hrun : (execOp a.eval o).run Try.prog w = .ok (.value (.slice (some ⟨w.heap.size, 0, none⟩) n n)) (w.alloc ob)) (hR : R (.slice (some ⟨w.heap.size, 0, none⟩) n n) (w.alloc ob)) : RowDo Try.prog ops o a w R none := by
  refine ⟨want_none hg _, _, _, hrun, hR, ?_, fun g e => .inr ?_⟩
  · exact ⟨rfl, rfl, rfl, by simp, fun k hk _ => Below.heap_alloc w ob k hk⟩
  · have : w.heap.size = g := by simpa [Value.ownBlock] using e
    omega
/-- numbers are put behind a row of numbers -/
theorem RowDo.appI (hg : o.guard = none) (s x : Operand) (ho : o.op = .call { callee := .builtin .append, args := #[s, x], argTypes := #[44, 44] }) (B : Nat) (v u : Value) (l m : List Int) (D : Nat → Prop) (hs : a.eval s = v) (hown : OI w B v l) (hx : a.eval x = u) (hr : RI D w u m)
    (h63 : l.length + m.length ≤ 1000000) (hB : B ≤ w.heap.size) : RowDo Try.prog ops o a w (fun v' w' => OI w' B v' (l ++ m)) v.ownBlock := by
  obtain ⟨ao, cap, rfl, hc, hn⟩ := hr.form
  obtain ⟨i0, hi, hz0, hz1, hz2⟩ := info_parts infoI
  refine ⟨want_none hg _, ?_⟩
  cases ao with
  | none =>
    obtain rfl : cap = 0 := hn rfl
    obtain rfl : m = [] := List.length_eq_zero_iff.1 (by omega)
    have hrun := run_append_owned_none (P := Try.prog) (w := w) B 44 o.type 3 i0 1 Try.underlying44 hi v l.length (ic l) hown
    refine ⟨v, w, ?_, by rw [List.append_nil]; exact hown, World.grownBy.refl w _, fun g e => .inl e⟩
    simp [execOp, ho, resolve, invoke, builtin, hs, hx, hrun, Result.andThen]
  | some ad =>
    obtain ⟨v', w', hrun, h2, h3, _, h5⟩ := run_append_own_at (P := Try.prog) w B 44 o.type 3 i0 _ 1 8 Try.underlying44 hi hz0 hz1 hz2 rfl (by decide) v l.length (ic l) hown ad m.length cap (ic m) (by rw [ic_length, Nat.mul_one]) (fun j u hj => by
      obtain ⟨y, hy, rfl⟩ := ic_get hj
      obtain ⟨g, o', e, hc'⟩ := hr.at hy
      cases e
      rw [Addr.add_mid]; exact hc') (ic_one m) (by unfold maxLen; omega) (by omega) hB
    refine ⟨v', w', ?_, ?_, h3, fun g e => ?_⟩
    · simp only [execOp, ho, resolve, invoke, builtin, Sem.run_bind, Sem.run_pure, Result.andThen_ok, List.map_toArray, List.map_cons, List.map_nil, hs, hx, hrun]
    · unfold OI
      rw [List.length_append, ic_append]
      exact h2
    · rcases h5 with h5 | h5
      · exact .inl (by rw [← h5]; exact e)
      · have : some g = some w.heap.size := by rw [← h5, ← e]
        right; cases this; exact Nat.le_refl _
/-- pairs are put behind a row of pairs -/
theorem RowDo.app2 (e t : TypeId) (ht : Try.prog.underlying t = some (.slice e))
    (hinfo : (Try.prog.info? e).map (fun i => (i.zero, i.size, i.bytes)) = some (some (.agg #[.int .i64 0, .int .i64 0]), 2, 16)) (hg : o.guard = none) (s x : Operand) (ho : o.op = .call { callee := .builtin .append, args := #[s, x], argTypes := #[t, t] }) (B : Nat) (v u : Value) (l m : List (Int × Int)) (D : Nat → Prop) (hs : a.eval s = v) (hown : O2 e w B v l) (hx : a.eval x = u) (hr : R2 D w u m)
    (h63 : l.length + m.length ≤ 1000000) (hB : B ≤ w.heap.size) : RowDo Try.prog ops o a w (fun v' w' => O2 e w' B v' (l ++ m)) v.ownBlock := by
  obtain ⟨ao, cap, rfl, hc, hn⟩ := hr.form
  obtain ⟨i0, hi, hz⟩ := Option.map_eq_some_iff.1 hinfo
  simp only [Prod.mk.injEq] at hz
  obtain ⟨hz0, hz1, hz2⟩ := hz
  refine ⟨want_none hg _, ?_⟩
  cases ao with
  | none =>
    obtain rfl : cap = 0 := hn rfl
    obtain rfl : m = [] := List.length_eq_zero_iff.1 (by omega)
    have hrun := run_append_owned_none (P := Try.prog) (w := w) B t o.type e i0 2 ht hi v l.length (pc l) hown
    refine ⟨v, w, ?_, by rw [List.append_nil]; exact hown, World.grownBy.refl w _, fun g e => .inl e⟩
    simp [execOp, ho, resolve, invoke, builtin, hs, hx, hrun, Result.andThen]
  | some ad =>
    obtain ⟨v', w', hrun, h2, h3, _, h5⟩ := run_append_own_at (P := Try.prog) w B t o.type e i0 _ 2 16 ht hi hz0 hz1 hz2 rfl (by decide) v l.length (pc l) hown ad m.length cap (pc m) (pc_length m) hr.cells (pc_one m) (by unfold maxLen; omega) (by omega) hB
    refine ⟨v', w', ?_, ?_, h3, fun g eg => ?_⟩
    · simp only [execOp, ho, resolve, invoke, builtin, Sem.run_bind, Sem.run_pure, Result.andThen_ok, List.map_toArray, List.map_cons, List.map_nil, hs, hx, hrun]
    · unfold O2
      rw [List.length_append, pc_append]
      exact h2
    · rcases h5 with h5 | h5
      · exact .inl (by rw [← h5]; exact eg)
      · have : some g = some w.heap.size := by rw [← h5, ← eg]
        right; cases this; exact Nat.le_refl _
end
/-- rows of numbers, by a table -/
theorem rowsI_ok (W0 : World) (tb : Nat → List Int) : RowsOk W0 (fun j v w => OI w W0.heap.size v (tb j)) := ⟨fun _ _ _ _ h _ hk => OI.keep h hk, fun _ _ _ h g hg => OI.lt h g hg⟩
theorem rows2_ok (W0 : World) (t : TypeId) (tb : Nat → List (Int × Int)) : RowsOk W0 (fun j v w => O2 t w W0.heap.size v (tb j)) := ⟨fun _ _ _ _ h _ hk => O2.keep h hk, fun _ _ _ h g hg => O2.lt h g hg⟩

end Go.Proofs.Ytdfdkddjkhcgdai
