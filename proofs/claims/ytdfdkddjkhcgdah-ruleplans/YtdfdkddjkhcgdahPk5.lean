/- Several texts in one, each with its own head. -/
import Derived.Test.YtdfdkddjkhcgdahPk4
import Derived.Test.YtdfdkddjkhcgdahPk3
/- Rows of numbers, and of pairs, in a region that draws its order. -/
namespace Go.Proofs.Ytdfdkddjkhcgdah
open Go.RowKit

section
variable {ops : Array Oper} {o : Oper} {a : Act} {w : World}
theorem want_none (h : o.guard = none) (tmps : Array Value) : Region.wanted o (yielded ops tmps) = true := by unfold Region.wanted; rw [h]
/-- a row that is typed -/
theorem RowDo.lit {R : Value → World → Prop} (hg : o.guard = none) (n : Nat) (ob : Obj) (hrun : (execOp a.eval o).run Try.prog w = .ok (.value (.slice (some ⟨w.heap.size, 0, none⟩) n n)) (w.alloc ob)) (hR : R (.slice (some ⟨w.heap.size, 0, none⟩) n n) (w.alloc ob)) : RowDo Try.prog ops o a w R none := by
  refine ⟨want_none hg _, _, _, hrun, hR, ?_, fun g e => .inr ?_⟩
  · exact ⟨rfl, rfl, rfl, by simp, fun k hk _ => Below.heap_alloc w ob k hk⟩
  · have : w.heap.size = g := by simpa [Value.ownBlock] using e
    omega
/-- numbers are put behind a row of numbers -/
theorem RowDo.appI (hg : o.guard = none) (s x : Operand) (ho : o.op = .call { callee := .builtin .append, args := #[s, x], argTypes := #[58, 58] }) (B : Nat) (v u : Value) (l m : List Int) (D : Nat → Prop) (hs : a.eval s = v) (hown : OI w B v l) (hx : a.eval x = u) (hr : RI D w u m)
    (h63 : l.length + m.length ≤ 1000000) (hB : B ≤ w.heap.size) : RowDo Try.prog ops o a w (fun v' w' => OI w' B v' (l ++ m)) v.ownBlock := by
  obtain ⟨ao, cap, rfl, hc, hn⟩ := hr.form
  obtain ⟨i0, hi, hz0, hz1, hz2⟩ := info_parts infoI
  refine ⟨want_none hg _, ?_⟩
  cases ao with
  | none =>
    obtain rfl : cap = 0 := hn rfl
    obtain rfl : m = [] := List.length_eq_zero_iff.1 (by omega)
    have hrun := run_append_owned_none (P := Try.prog) (w := w) B 58 o.type 3 i0 1 Try.underlying58 hi v l.length (ic l) hown
    refine ⟨v, w, ?_, by rw [List.append_nil]; exact hown, World.grownBy.refl w _, fun g e => .inl e⟩
    simp [execOp, ho, resolve, invoke, builtin, hs, hx, hrun, Result.andThen]
  | some ad =>
    obtain ⟨v', w', hrun, h2, h3, _, h5⟩ := run_append_own_at (P := Try.prog) w B 58 o.type 3 i0 _ 1 8 Try.underlying58 hi hz0 hz1 hz2 rfl (by decide) v l.length (ic l) hown ad m.length cap (ic m) (by rw [ic_length, Nat.mul_one]) (fun j u hj => by
      obtain ⟨y, hy, rfl⟩ := ic_get hj
      obtain ⟨g, o', e, hc'⟩ := hr.at hy
      cases e
      rw [Addr.add_mid]; exact hc') (ic_one m) (by unfold maxLen; omega) (by omega) hB
    refine ⟨v', w', ?_, ?_, h3, fun g e => ?_⟩
    · simp only [execOp, ho, resolve, invoke, builtin, Sem.run_bind, Sem.run_pure, Result.andThen_ok, List.map_toArray, List.map_cons, List.map_nil, hs, hx, hrun]
    · unfold OI
      rw [List.length_append, ic_append]
      exact h2
    · rcases h5 with h5 | h5
      · exact .inl (by rw [← h5]; exact e)
      · have : some g = some w.heap.size := by rw [← h5, ← e]
        right; cases this; exact Nat.le_refl _
/-- pairs are put behind a row of pairs -/
theorem RowDo.app2 (e t : TypeId) (ht : Try.prog.underlying t = some (.slice e))
    (hinfo : (Try.prog.info? e).map (fun i => (i.zero, i.size, i.bytes)) = some (some (.agg #[.int .i64 0, .int .i64 0]), 2, 16)) (hg : o.guard = none) (s x : Operand) (ho : o.op = .call { callee := .builtin .append, args := #[s, x], argTypes := #[t, t] }) (B : Nat) (v u : Value) (l m : List (Int × Int)) (D : Nat → Prop) (hs : a.eval s = v) (hown : O2 e w B v l) (hx : a.eval x = u) (hr : R2 D w u m)
    (h63 : l.length + m.length ≤ 1000000) (hB : B ≤ w.heap.size) : RowDo Try.prog ops o a w (fun v' w' => O2 e w' B v' (l ++ m)) v.ownBlock := by
  obtain ⟨ao, cap, rfl, hc, hn⟩ := hr.form
  obtain ⟨i0, hi, hz⟩ := Option.map_eq_some_iff.1 hinfo
  simp only [Prod.mk.injEq] at hz
  obtain ⟨hz0, hz1, hz2⟩ := hz
  refine ⟨want_none hg _, ?_⟩
  cases ao with
  | none =>
    obtain rfl : cap = 0 := hn rfl
    obtain rfl : m = [] := List.length_eq_zero_iff.1 (by omega)
    have hrun := run_append_owned_none (P := Try.prog) (w := w) B t o.type e i0 2 ht hi v l.length (pc l) hown
    refine ⟨v, w, ?_, by rw [List.append_nil]; exact hown, World.grownBy.refl w _, fun g e => .inl e⟩
    simp [execOp, ho, resolve, invoke, builtin, hs, hx, hrun, Result.andThen]
  | some ad =>
    obtain ⟨v', w', hrun, h2, h3, _, h5⟩ := run_append_own_at (P := Try.prog) w B t o.type e i0 _ 2 16 ht hi hz0 hz1 hz2 rfl (by decide) v l.length (pc l) hown ad m.length cap (pc m) (pc_length m) hr.cells (pc_one m) (by unfold maxLen; omega) (by omega) hB
    refine ⟨v', w', ?_, ?_, h3, fun g eg => ?_⟩
    · simp only [execOp, ho, resolve, invoke, builtin, Sem.run_bind, Sem.run_pure, Result.andThen_ok, List.map_toArray, List.map_cons, List.map_nil, hs, hx, hrun]
    · unfold O2
      rw [List.length_append, pc_append]
      exact h2
    · rcases h5 with h5 | h5
      · exact .inl (by rw [← h5]; exact eg)
      · have : some g = some w.heap.size := by rw [← h5, ← eg]
        right; cases this; exact Nat.le_refl _
end
/-- rows of numbers, by a table -/
theorem rowsI_ok (W0 : World) (tb : Nat → List Int) : RowsOk W0 (fun j v w => OI w W0.heap.size v (tb j)) := ⟨fun _ _ _ _ h _ hk => OI.keep h hk, fun _ _ _ h g hg => OI.lt h g hg⟩
theorem rows2_ok (W0 : World) (t : TypeId) (tb : Nat → List (Int × Int)) : RowsOk W0 (fun j v w => O2 t w W0.heap.size v (tb j)) := ⟨fun _ _ _ _ h _ hk => O2.keep h hk, fun _ _ _ h g hg => O2.lt h g hg⟩

end Go.Proofs.Ytdfdkddjkhcgdah

/- The least cost of a beginning, as the document reckons it. -/
namespace Go.Proofs.Ytdfdkddjkhcgdah
open Go.RowKit

/-- what is known of a beginning -/
structure Bs (s : Sn) (k : Nat) (p : List (List Int)) (st : List Bool) : Prop where
  rg : rgt s = true
  rz : RM.Rz s.st s.ws s.cs
  pc : s.cs.length = p.length
  kl : k < p.length
  p8 : p.length ≤ 8
  bh : ∀ (c : Nat) l, p[c]? = some l → k < c → l = []
  fr : ∀ x ∈ p.flatten, 0 ≤ x ∧ x < s.ws.length
  sl : st.length = s.ws.length
  wl : s.ws.length ≤ 128
  af : ∀ r ∈ s.cs, r.2 ≤ 1000000
  lf : ∀ w : Nat, w < s.ws.length → (st[w]? = some false ↔ (w : Int) ∉ p.flatten)
theorem bgn_bs {s : Sn} {k : Nat} {p : List (List Int)} {st : List Bool} (h : bgn s (k : Int) p = some st) : Bs s k p st := by
  unfold bgn at h
  split at h
  case isFalse => cases h
  case isTrue hh =>
    simp only [Bool.and_eq_true, decide_eq_true_eq, List.all_eq_true] at hh
    obtain ⟨⟨⟨⟨h1, h2⟩, _⟩, h4⟩, h5⟩ := hh
    obtain ⟨n, hrs⟩ := rgt_rs h1
    have hml : (msk s).length = s.ws.length := hrs.mm.len
    have hr := PM.runs_some (by simp) h
    have g1 := hrs.cl
    have g2 := hrs.n8
    refine ⟨h1, rgt_rz h1, h2.symm, by omega, by omega, fun c l hl hc => ?_, fun x hx => ?_, ?_, hrs.wl, rgt_after h1, fun w hw => ?_⟩
    · have := h5 l (List.mem_of_getElem? (i := c - (k + 1)) (by rw [Int.toNat_natCast, List.getElem?_drop, show k + 1 + (c - (k + 1)) = c by omega]; exact hl))
      simpa using this
    · obtain ⟨l, hl, hxl⟩ := List.mem_flatten.1 hx
      obtain ⟨c, hc⟩ := List.getElem?_of_mem hl
      have := PM.okx_iff.1 (hr.1 c l hc x hxl)
      omega
    · exact hr.2.1.trans hml
    · have h6 := hr.2.2 w (by omega)
      rw [PM.nb_rep, Nat.zero_add] at h6
      obtain ⟨b, hb⟩ : ∃ b, st[w]? = some b := ⟨_, List.getElem?_eq_getElem (by have := hr.2.1; omega)⟩
      cases b with
      | true =>
        rw [PM.nb_true hb] at h6
        rw [hb]
        constructor
        · intro hh; cases hh
        · intro hh; exact absurd (List.count_pos_iff.1 (by omega)) hh
      | false =>
        rw [PM.nb_false hb] at h6
        rw [hb]
        constructor
        · intro _ hh; have := List.count_pos_iff.2 hh; omega
        · intro _; rfl
theorem prs_len {s : St} {ws : List (Int × Int)} : ∀ {cs : List (Int × Int)} {p : List (List Int)}, (∀ l ∈ p, l.length ≤ 1000) → (RM.prs s ws cs p).length ≤ 1000 * p.length
  | [], _, _ => by simp [RM.prs]
  | _ :: _, [], _ => by simp [RM.prs]
  | r :: cs, l :: p, h => by
    have ih := prs_len (s := s) (ws := ws) (cs := cs) (p := p) fun l hl => h l (by simp [hl])
    have h0 := h l (by simp)
    show (RM.pr1 s ws r l ++ RM.prs s ws cs p).length ≤ _
    rw [List.length_append, RM.pr1_length, List.length_cons]
    omega
/-- the sum of the times, behind k lists and j wants of the next one -/
def sm2 (s : Sn) (p : List (List Int)) (r : Int × Int) (l : List Int) (k j : Nat) : Int := ((RM.prs s.st s.ws (s.cs.take k) (p.take k) ++ (RM.pr1 s.st s.ws r l).take j).map (·.2)).sum
def sm1 (s : Sn) (p : List (List Int)) (k : Nat) : Int := ((RM.prs s.st s.ws (s.cs.take k) (p.take k)).map (·.2)).sum
theorem sm2_zero (s : Sn) (p : List (List Int)) (r : Int × Int) (l : List Int) (k : Nat) : sm2 s p r l k 0 = sm1 s p k := by unfold sm2 sm1; rw [List.take_zero, List.append_nil]
theorem sm2_succ {s : Sn} {p : List (List Int)} {r : Int × Int} {l : List Int} {k j : Nat} {x : Int} (h : l[j]? = some x) : sm2 s p r l k (j + 1) = sm2 s p r l k j + RM.ar s.st (RM.go s.st (RM.bg r) ((l.take j).map (RM.wf s.ws))) (RM.wf s.ws x) := by
  unfold sm2
  rw [take_snoc (RM.pr1_get h), ← List.append_assoc, List.map_append, List.sum_append]
  simp
theorem sm2_end {s : Sn} {p : List (List Int)} {r : Int × Int} {l : List Int} {k : Nat} (h1 : s.cs[k]? = some r) (h2 : p[k]? = some l) : sm2 s p r l k l.length = sm1 s p (k + 1) := by
  unfold sm2 sm1
  rw [RM.prs_snoc h1 h2, List.take_of_length_le (l := RM.pr1 s.st s.ws r l) (by rw [RM.pr1_length]; exact Nat.le_refl _)]
theorem sm1_end {s : Sn} {k : Nat} {p : List (List Int)} {st : List Bool} (h : Bs s k p st) : sm1 s p (k + 1) = RM.cst s.st s.ws s.cs p := by
  unfold sm1 RM.cst
  rw [← RM.cst_take fun c l hl hc => h.bh c l hl (by omega)]
theorem sm2_bd {s : Sn} {k0 : Nat} {p : List (List Int)} {st : List Bool} (h : Bs s k0 p st) (hl : ∀ l ∈ p, l.length ≤ 1000) {r : Int × Int} {l : List Int} {k j : Nat} (h1 : s.cs[k]? = some r) (h2 : p[k]? = some l) : 0 ≤ sm2 s p r l k j ∧ sm2 s p r l k j ≤ 800000000000 := by
  unfold sm2
  have hb := RM.prs_bd h.rz h.fr h.af hl
  have hmem : ∀ x ∈ RM.prs s.st s.ws (s.cs.take k) (p.take k) ++ (RM.pr1 s.st s.ws r l).take j, x ∈ RM.prs s.st s.ws s.cs p := fun x hx => by
    have hx2 : x ∈ RM.prs s.st s.ws (s.cs.take (k + 1)) (p.take (k + 1)) := by
      rw [RM.prs_snoc h1 h2]
      rcases List.mem_append.1 hx with hx | hx
      · exact List.mem_append_left _ hx
      · exact List.mem_append_right _ (List.mem_of_mem_take hx)
    obtain ⟨w, t⟩ := x
    obtain ⟨c, i, r', l', g1, g2, g3, g4⟩ := RM.prs_where hx2
    have g1' : s.cs[c]? = some r' := by
      rw [List.getElem?_take] at g1
      split at g1
      · exact g1
      · cases g1
    have g2' : p[c]? = some l' := by
      rw [List.getElem?_take] at g2
      split at g2
      · exact g2
      · cases g2
    rw [g4]
    exact RM.prs_at g1' g2' g3
  have hsb := RM.sum_bd (B := 80000000) (l := (RM.prs s.st s.ws (s.cs.take k) (p.take k) ++ (RM.pr1 s.st s.ws r l).take j).map (·.2)) fun t ht => by
    obtain ⟨x, hx, rfl⟩ := List.mem_map.1 ht
    exact hb x (hmem x hx)
  rw [List.length_map, List.length_append, List.length_take, RM.pr1_length] at hsb
  have e1 := prs_len (s := s.st) (ws := s.ws) (cs := s.cs.take k) (p := p.take k) fun l hl' => hl l (List.mem_of_mem_take hl')
  rw [List.length_take] at e1
  have e2 := hl l (List.mem_of_getElem? h2)
  have e3 := h.p8
  have e4 := (List.getElem?_eq_some_iff.1 h2).1
  omega

end Go.Proofs.Ytdfdkddjkhcgdah

/- Beginnings of a plan that may be: mathematics. -/
namespace Go.Proofs.Ytdfdkddjkhcgdah
open Go.RowKit

section
variable {s : Sn} {p b : List (List Int)} {k : Nat}
theorem beg_bgn (h : Fs s p) (hb : RM.Beg k b p) : ∃ st, bgn s (k : Int) b = some st := by
  have hl := hb.len
  have hlt := hb.lt
  have hpc := h.pc
  have hsub := hb.sub
  obtain ⟨st, hst⟩ := PM.runs_ok (ms := msk s) (p := b) (c := 0) (st := List.replicate (msk s).length false) (by simp) (fun d l hd x hx => by
    have hd2 := (List.getElem?_eq_some_iff.1 hd).1
    obtain ⟨l2, e, _⟩ := hb.pre d l _ hd (List.getElem?_eq_getElem (show d < p.length by omega))
    rw [Nat.zero_add]
    exact h.fz.ok d _ (List.getElem?_eq_getElem (show d < p.length by omega)) x (by rw [e]; simp [hx])) (fun w hw => by
    rw [PM.nb_rep, Nat.zero_add, ← h.fz.once w hw]
    exact hsub.count_le _)
  refine ⟨st, ?_⟩
  rw [bgn_runs h.rg (by omega) (by omega) (fun c l hc hk => ?_)]
  · exact hst
  · have hc2 := (List.getElem?_eq_some_iff.1 hc).1
    obtain ⟨l2, _, _, e⟩ := hb.pre c l _ hc (List.getElem?_eq_getElem (show c < p.length by omega))
    exact e hk
end
/-- the first lists, a part of the next one, and none behind -/
def cutp (p : List (List Int)) (k j : Nat) : List (List Int) := p.take k ++ ((p[k]?.getD []).take j :: List.replicate (p.length - (k + 1)) [])
theorem cutp_length {p : List (List Int)} {k : Nat} (j : Nat) (hk : k < p.length) : (cutp p k j).length = p.length := by
  unfold cutp
  rw [List.length_append, List.length_cons, List.length_replicate, List.length_take]
  omega
theorem cutp_lo {p : List (List Int)} {k j c : Nat} (hk : k < p.length) (hc : c < k) : (cutp p k j)[c]? = p[c]? := by
  unfold cutp
  rw [List.getElem?_append_left (by rw [List.length_take]; omega), List.getElem?_take, if_pos hc]
theorem cutp_at {p : List (List Int)} {k j : Nat} (hk : k < p.length) : (cutp p k j)[k]? = some ((p[k]?.getD []).take j) := by
  unfold cutp
  rw [List.getElem?_append_right (by rw [List.length_take]; omega), List.length_take, show k - min k p.length = 0 by omega]
  rfl
theorem cutp_hi {p : List (List Int)} {k j c : Nat} (hk : k < p.length) (hc : k < c) (hl : c < p.length) : (cutp p k j)[c]? = some [] := by
  unfold cutp
  rw [List.getElem?_append_right (by rw [List.length_take]; omega), List.length_take, show c - min k p.length = (c - k - 1) + 1 by omega, List.getElem?_cons_succ, List.getElem?_replicate, if_pos (by omega)]
theorem cutp_beg {p : List (List Int)} {k : Nat} (j : Nat) (hk : k < p.length) : RM.Beg k (cutp p k j) p := ⟨cutp_length j hk, hk, fun c l m hl hm => by
  have hcp := (List.getElem?_eq_some_iff.1 hm).1
  rcases Nat.lt_trichotomy c k with h | h | h
  · rw [cutp_lo hk h, hm] at hl
    cases hl
    exact ⟨[], by simp, fun _ => rfl, fun h' => by omega⟩
  · subst h
    rw [cutp_at hk, hm] at hl
    simp only [Option.getD_some, Option.some.injEq] at hl
    subst hl
    exact ⟨m.drop j, (List.take_append_drop j m).symm, fun h' => by omega, fun h' => by omega⟩
  · rw [cutp_hi hk h hcp] at hl
    cases hl
    exact ⟨m, rfl, fun h' => by omega, fun _ => rfl⟩⟩

theorem cutp_max {p : List (List Int)} {k j n : Nat} (hk : k < p.length) (h : ∀ l ∈ p, l.length ≤ n) : ∀ m ∈ cutp p k j, m.length ≤ n := by
  intro m hm
  unfold cutp at hm
  rw [List.mem_append, List.mem_cons] at hm
  rcases hm with hm | rfl | hm
  · exact h m (List.mem_of_mem_take hm)
  · have := h p[k] (List.getElem_mem hk)
    rw [List.getElem?_eq_getElem hk, Option.getD_some, List.length_take]
    omega
  · rw [List.eq_of_mem_replicate hm]; simp

section
variable {p : List (List Int)} {k : Nat}
theorem cutp_whole {l : List Int} (hk : k + 1 = p.length) (hl : p[k]? = some l) : cutp p k l.length = p := by
  have hlt : k < p.length := by omega
  refine List.ext_getElem? fun c => ?_
  rcases Nat.lt_trichotomy c k with h | h | h
  · exact cutp_lo hlt h
  · subst h
    rw [cutp_at hlt, hl, Option.getD_some, List.take_length]
  · rw [List.getElem?_eq_none (by rw [cutp_length _ hlt]; omega), List.getElem?_eq_none (by omega)]
end

end Go.Proofs.Ytdfdkddjkhcgdah

/- Whether a plan begins so, as the document tells it. -/
namespace Go.Proofs.Ytdfdkddjkhcgdah
open Go.RowKit

/-- does the list m of the car c begin with l (and is it l, ahead of the car k)? -/
def okc (k c : Nat) (l m : List Int) : Bool := (decide (k ≤ c) || decide (m.length = l.length)) && decide (l.length ≤ m.length) && decide (m.take l.length = l)
/-- does p begin so? -/
def bgs (p : List (List Int)) (car : Int) (b : List (List Int)) : Bool := decide (0 ≤ car) && decide (car < (p.length : Int)) && decide (car < (b.length : Int)) && (List.range (car.toNat + 1)).all fun c => okc car.toNat c (b[c]?.getD []) (p[c]?.getD [])
theorem bgs_no {p : List (List Int)} {k : Nat} {b : List (List Int)} {c : Nat} {l m : List Int} (hc : c ≤ k) (hb : b[c]? = some l) (hp : p[c]? = some m) (h : okc k c l m = false) : bgs p (k : Int) b = false := by
  unfold bgs
  rw [Int.toNat_natCast]
  have : ((List.range (k + 1)).all fun c => okc k c (b[c]?.getD []) (p[c]?.getD [])) = false := by
    rw [List.all_eq_false]
    exact ⟨c, List.mem_range.2 (by omega), by rw [hb, hp]; simp [h]⟩
  rw [this, Bool.and_false]

end Go.Proofs.Ytdfdkddjkhcgdah

/- Beginnings of a plan that may be, as the program and the document look at them. -/
namespace Go.Proofs.Ytdfdkddjkhcgdah
open Go.RowKit

section
variable {s : Sn} {p b : List (List Int)} {k : Nat}
theorem beg_lsv (h : Fs s p) (hb : RM.Beg k b p) {st : List Bool} (hst : bgn s (k : Int) b = some st) : lsv s k b st = RM.lst s.st s.ws s.cs (msk s) k b := by
  have bs := bgn_bs hst
  have hpc := h.pc
  unfold lsv
  rw [if_pos]
  · unfold RM.lst
    rw [lfk_sum (f := fun w => RM.low (optw s k b w))]
    congr 1
    refine RM.sr_congr fun w hw => ?_
    by_cases hm : (w : Int) ∈ b.flatten
    · rw [if_pos hm, if_neg (fun e => (bs.lf w hw).1 e hm)]
    · rw [if_neg hm, if_pos ((bs.lf w hw).2 hm)]; rfl
  · rw [List.all_eq_true]
    intro x hx
    obtain ⟨w, rfl, hw, hs⟩ := lfk_mem.1 hx
    rw [Int.toNat_natCast]
    have := RM.opt_ne h.rz h.fz h.ml h.pc hb hw ((bs.lf w hw).1 hs)
    cases e : optw s k b w with
    | nil => exact absurd e this
    | cons _ _ => rfl
theorem beg_bgs (hb : RM.Beg k b p) : bgs p (k : Int) b = true := by
  have hl := hb.len
  have hlt := hb.lt
  unfold bgs
  rw [Int.toNat_natCast]
  simp only [Bool.and_eq_true, decide_eq_true_eq, List.all_eq_true, List.mem_range]
  refine ⟨⟨⟨by omega, by omega⟩, by omega⟩, fun c hc => ?_⟩
  have h1 : p[c]? = some p[c] := List.getElem?_eq_getElem (by omega)
  have h2 : b[c]? = some b[c] := List.getElem?_eq_getElem (by omega)
  obtain ⟨l2, e, e1, _⟩ := hb.pre c _ _ h2 h1
  rw [h1, h2]
  show okc k c b[c] p[c] = true
  unfold okc
  rw [e]
  simp only [Bool.and_eq_true, Bool.or_eq_true, decide_eq_true_eq, List.length_append]
  refine ⟨⟨?_, by omega⟩, by simp⟩
  by_cases hk : k ≤ c
  · exact .inl hk
  · right; rw [e1 (by omega)]; rfl
end

end Go.Proofs.Ytdfdkddjkhcgdah

/- The search, node by node: mathematics. No program is named here. -/
namespace Go.Proofs.Ytdfdkddjkhcgdah

/-- what a search knows -/
structure Sx where
  nodes : Nat
  ended : Bool
  plan : List (List Int)
  cost : Int
  marks : List Nat
/-- may the car take the want? -/
def mayk (s : Sn) (k : Nat) (w : Int) : Bool := PM.bt ((msk s)[w.toNat]?.getD 0) k
/-- the wants that are left -/
def lfs (s : Sn) (st : List Bool) : List Int := lfk st s.ws.length
/-- a node's children in its own list -/
def kids (s : Sn) (go : Nat → List (List Int) → List Bool → Sx → Sx) (k : Nat) (b : List (List Int)) (st : List Bool) (l : List Int) (x : Sx) : Sx :=
  l.foldl (fun y w => if mayk s k w = true then go k (PM.add b k w) (st.set w.toNat true) y else y) x
/-- and the next car's -/
def nxt (go : Nat → List (List Int) → List Bool → Sx → Sx) (k : Nat) (b : List (List Int)) (st : List Bool) (x : Sx) : Sx := if k + 1 < b.length then go (k + 1) b st x else x
/-- a node is visited -/
def vst (s : Sn) (B : Nat) (go : Nat → List (List Int) → List Bool → Sx → Sx) (k : Nat) (b : List (List Int)) (st : List Bool) (x : Sx) : Sx :=
  if x.ended = true then x
  else if x.nodes = B then ⟨x.nodes, true, x.plan, x.cost, x.marks⟩
  else if lfs s st = [] then
    (if RM.cst s.st s.ws s.cs b < x.cost then ⟨x.nodes + 1, false, b, RM.cst s.st s.ws s.cs b, x.marks ++ [2]⟩ else ⟨x.nodes + 1, false, x.plan, x.cost, x.marks ++ [2]⟩)
  else if x.cost ≤ lsv s k b st then ⟨x.nodes + 1, false, x.plan, x.cost, x.marks ++ [0]⟩
  else nxt go k b st (kids s go k b st (lfs s st) ⟨x.nodes + 1, false, x.plan, x.cost, x.marks ++ [1]⟩)
def vis (s : Sn) (B : Nat) : Nat → Nat → List (List Int) → List Bool → Sx → Sx
  | 0, _, _, _, x => x
  | f + 1, k, b, st, x => vst s B (vis s B f) k b st x

section
variable {s : Sn} {B : Nat}
/-- what each visit keeps -/
theorem kids_rel {R : Sx → Sx → Prop} (h0 : ∀ x, R x x) (ht : ∀ x y z, R x y → R y z → R x z) {go : Nat → List (List Int) → List Bool → Sx → Sx} {k : Nat} {b : List (List Int)} {st : List Bool} :
    ∀ (l : List Int), (∀ w ∈ l, mayk s k w = true → ∀ x, R x (go k (PM.add b k w) (st.set w.toNat true) x)) → ∀ x, R x (kids s go k b st l x)
  | [], _, x => h0 x
  | w :: l, hg, x => by
    have ih := kids_rel h0 ht (go := go) (k := k) (b := b) (st := st) l (fun v hv => hg v (by simp [hv]))
    show R x (kids s go k b st l (if mayk s k w = true then go k (PM.add b k w) (st.set w.toNat true) x else x))
    by_cases hm : mayk s k w = true
    · rw [if_pos hm]
      exact ht _ _ _ (hg w (by simp) hm x) (ih _)
    · rw [if_neg hm]
      exact ih x
/-- a search that has ended stays -/
theorem vis_ended (f k : Nat) (b : List (List Int)) (st : List Bool) (x : Sx) (h : x.ended = true) : vis s B f k b st x = x := by
  cases f with
  | zero => rfl
  | succ f => show vst s B _ k b st x = x; unfold vst; rw [if_pos h]
theorem kids_ended {f k : Nat} {b : List (List Int)} {st : List Bool} : ∀ (l : List Int) (x : Sx), x.ended = true → kids s (vis s B f) k b st l x = x
  | [], _, _ => rfl
  | w :: l, x, h => by
    show kids s (vis s B f) k b st l (if mayk s k w = true then vis s B f k (PM.add b k w) (st.set w.toNat true) x else x) = x
    rw [vis_ended f k _ _ x h, ite_self]
    exact kids_ended l x h
theorem kids_append {go : Nat → List (List Int) → List Bool → Sx → Sx} {k : Nat} {b : List (List Int)} {st : List Bool} (l m : List Int) (x : Sx) : kids s go k b st (l ++ m) x = kids s go k b st m (kids s go k b st l x) := by
  unfold kids; rw [List.foldl_append]
/-- the cost doesn't rise; nodes don't fall; what has ended has ended -/
def Dn (x y : Sx) : Prop := y.cost ≤ x.cost ∧ x.nodes ≤ y.nodes ∧ (x.ended = true → y = x)
theorem Dn.refl (x : Sx) : Dn x x := ⟨Int.le_refl _, Nat.le_refl _, fun _ => rfl⟩
theorem Dn.trans {x y z : Sx} (h : Dn x y) (g : Dn y z) : Dn x z := ⟨Int.le_trans g.1 h.1, Nat.le_trans h.2.1 g.2.1, fun e => by
  have e1 := h.2.2 e
  rw [e1] at g
  exact g.2.2 e⟩
theorem vis_dn : ∀ (f k : Nat) (b : List (List Int)) (st : List Bool) (x : Sx), Dn x (vis s B f k b st x)
  | 0, _, _, _, x => Dn.refl x
  | f + 1, k, b, st, x => by
    show Dn x (vst s B (vis s B f) k b st x)
    unfold vst
    by_cases h1 : x.ended = true
    · rw [if_pos h1]; exact Dn.refl x
    · rw [if_neg h1]
      have step : ∀ (p : List (List Int)) (c : Int) (m : List Nat) (e : Bool) (n : Nat), c ≤ x.cost → x.nodes ≤ n → Dn x ⟨n, e, p, c, m⟩ := fun p c m e n hc hn => ⟨hc, hn, fun h => absurd h h1⟩
      by_cases h2 : x.nodes = B
      · rw [if_pos h2]; exact step _ _ _ _ _ (Int.le_refl _) (Nat.le_refl _)
      · rw [if_neg h2]
        by_cases h3 : lfs s st = []
        · rw [if_pos h3]
          by_cases h4 : RM.cst s.st s.ws s.cs b < x.cost
          · rw [if_pos h4]; exact step _ _ _ _ _ (by omega) (by omega)
          · rw [if_neg h4]; exact step _ _ _ _ _ (Int.le_refl _) (by omega)
        · rw [if_neg h3]
          by_cases h5 : x.cost ≤ lsv s k b st
          · rw [if_pos h5]; exact step _ _ _ _ _ (Int.le_refl _) (by omega)
          · rw [if_neg h5]
            refine (step x.plan x.cost (x.marks ++ [1]) false (x.nodes + 1) (Int.le_refl _) (by omega)).trans ?_
            refine (kids_rel (s := s) (R := Dn) Dn.refl (fun _ _ _ h g => h.trans g) (b := b) (st := st) (lfs s st) (fun w _ _ y => vis_dn f k _ _ y) _).trans ?_
            unfold nxt
            split
            · exact vis_dn f (k + 1) b st _
            · exact Dn.refl _

/-- what is right of a search: its plan may be, and costs what is told -/
structure Sxo (s : Sn) (B : Nat) (x : Sx) : Prop where
  fe : fsb s x.plan = true
  co : x.cost = RM.cst s.st s.ws s.cs x.plan
  nb : x.nodes ≤ B
  en : x.ended = true → x.nodes = B
end

section
variable {s : Sn} {B k : Nat} {b : List (List Int)} {st : List Bool}
/-- what a node is -/
theorem bgn_all (hb : bgn s (k : Int) b = some st) : rgt s = true ∧ b.length = s.cs.length ∧ k < b.length ∧ (∀ (c : Nat) l, b[c]? = some l → k < c → l = []) ∧ (∀ (c : Nat) l, b[c]? = some l → ∀ x ∈ l, PM.okx (msk s) c x = true) ∧ st.length = (msk s).length ∧ ∀ w, w < (msk s).length → PM.nb st w = b.flatten.count (w : Int) := by
  have h := bgn_bs hb
  have e := bgn_runs h.rg h.pc.symm h.kl h.bh
  rw [hb] at e
  have hr := PM.runs_some (by simp) e.symm
  refine ⟨h.rg, h.pc.symm, h.kl, h.bh, fun c l hl x hx => ?_, hr.2.1, fun w hw => ?_⟩
  · have := hr.1 c l hl x hx
    rwa [Nat.zero_add] at this
  · rw [hr.2.2 w hw, PM.nb_rep, Nat.zero_add]
theorem nb_ext {st st' : List Bool} (hl : st.length = st'.length) (h : ∀ w, w < st.length → PM.nb st w = PM.nb st' w) : st = st' := by
  refine List.ext_getElem? fun w => ?_
  by_cases hw : w < st.length
  · have h1 := h w hw
    obtain ⟨x, hx⟩ : ∃ x, st[w]? = some x := ⟨_, List.getElem?_eq_getElem hw⟩
    obtain ⟨y, hy⟩ : ∃ y, st'[w]? = some y := ⟨_, List.getElem?_eq_getElem (by omega)⟩
    cases x <;> cases y
    · rw [hx, hy]
    · rw [PM.nb_false hx, PM.nb_true hy] at h1; omega
    · rw [PM.nb_true hx, PM.nb_false hy] at h1; omega
    · rw [hx, hy]
  · rw [List.getElem?_eq_none (by omega), List.getElem?_eq_none (by omega)]
theorem bgn_mk (h1 : rgt s = true) (h2 : b.length = s.cs.length) (h3 : k < b.length) (h4 : ∀ (c : Nat) l, b[c]? = some l → k < c → l = []) (h5 : ∀ (c : Nat) l, b[c]? = some l → ∀ x ∈ l, PM.okx (msk s) c x = true) (h6 : st.length = (msk s).length) (h7 : ∀ w, w < (msk s).length → PM.nb st w = b.flatten.count (w : Int)) : bgn s (k : Int) b = some st := by
  rw [bgn_runs h1 h2 h3 h4]
  have hnb : ∀ w, PM.nb st w ≤ 1 := fun w => by unfold PM.nb; split <;> omega
  obtain ⟨st', hst⟩ := PM.runs_ok (ms := msk s) (p := b) (c := 0) (st := List.replicate (msk s).length false) (by simp) (fun d l hd x hx => by rw [Nat.zero_add]; exact h5 d l hd x hx) (fun w hw => by rw [PM.nb_rep, Nat.zero_add, ← h7 w hw]; exact hnb w)
  have hr := PM.runs_some (by simp) hst
  have e : st' = st := nb_ext (by rw [hr.2.1, h6]) fun w hw => by
    have hw2 : w < (msk s).length := by have := hr.2.1; omega
    rw [hr.2.2 w hw2, PM.nb_rep, Nat.zero_add, h7 w hw2]
  rw [hst, e]
theorem msk_len (s : Sn) : (msk s).length = s.ws.length := by unfold msk; rw [List.length_map]
/-- a node with one want more -/
theorem bgn_add (hb : bgn s (k : Int) b = some st) {w : Nat} (hw : w < s.ws.length) (hs : st[w]? = some false) (hm : mayk s k (w : Int) = true) : bgn s (k : Int) (PM.add b k (w : Int)) = some (st.set w true) := by
  obtain ⟨h1, h2, h3, h4, h5, h6, h7⟩ := bgn_all hb
  have hml := msk_len s
  have hlen : (PM.add b k (w : Int)).length = b.length := by unfold PM.add; rw [List.length_set]
  have hget : ∀ (c : Nat) l, (PM.add b k (w : Int))[c]? = some l → (c ≠ k ∧ b[c]? = some l) ∨ (c = k ∧ l = b[k]?.getD [] ++ [(w : Int)]) := fun c l hl => by
    unfold PM.add at hl
    by_cases e : k = c
    · subst e
      rw [List.getElem?_set_self h3] at hl
      cases hl
      exact .inr ⟨rfl, rfl⟩
    · rw [List.getElem?_set_ne e] at hl
      exact .inl ⟨fun h => e h.symm, hl⟩
  refine bgn_mk h1 (by rw [hlen, h2]) (by rw [hlen]; exact h3) (fun c l hl hc => ?_) (fun c l hl x hx => ?_) (by rw [List.length_set]; exact h6) (fun v hv => ?_)
  · rcases hget c l hl with ⟨_, h⟩ | ⟨e, _⟩
    · exact h4 c l h hc
    · omega
  · rcases hget c l hl with ⟨_, h⟩ | ⟨e, e2⟩
    · exact h5 c l h x hx
    · subst e
      rw [e2, List.mem_append, List.mem_singleton] at hx
      rcases hx with hx | hx
      · exact h5 c _ (List.getElem?_eq_getElem h3) x (by rw [List.getElem?_eq_getElem h3] at hx; exact hx)
      · rw [hx]
        exact PM.okx_iff.2 ⟨by omega, by omega, hm⟩
  · rw [PM.nb_set (by omega) hs, h7 v hv, PM.count_add h3]
    congr 1
    by_cases e : v = w
    · subst e; simp
    · rw [if_neg e, if_neg (by omega)]
/-- a node with the next car -/
theorem bgn_next (hb : bgn s (k : Int) b = some st) (hk : k + 1 < b.length) : bgn s ((k + 1 : Nat) : Int) b = some st := by
  obtain ⟨h1, h2, _, h4, h5, h6, h7⟩ := bgn_all hb
  exact bgn_mk h1 h2 hk (fun c l hl hc => h4 c l hl (by omega)) h5 h6 h7
theorem lfs_mem {x : Int} : x ∈ lfs s st ↔ ∃ w : Nat, x = (w : Int) ∧ w < s.ws.length ∧ st[w]? = some false := lfk_mem
/-- a node without wants left is a plan -/
theorem bgn_leaf (hb : bgn s (k : Int) b = some st) (hl : lfs s st = []) : fsb s b = true := by
  obtain ⟨h1, h2, h3, h4, h5, h6, h7⟩ := bgn_all hb
  have hr := bgn_runs h1 h2 h3 h4
  rw [hb] at hr
  have hall : st.all id = true := by
    rw [List.all_eq_true]
    intro x hx
    obtain ⟨w, hw⟩ := List.getElem?_of_mem hx
    cases x with
    | true => rfl
    | false =>
      have : (w : Int) ∈ lfs s st := lfs_mem.2 ⟨w, rfl, by have := (List.getElem?_eq_some_iff.1 hw).1; have := msk_len s; omega, hw⟩
      rw [hl] at this
      simp at this
  unfold fsb PM.feas
  rw [← hr, h1, h2]
  simp [hall]
/-- what each visit keeps right -/
theorem vis_ok : ∀ (f : Nat) {k : Nat} {b : List (List Int)} {st : List Bool} (x : Sx), bgn s (k : Int) b = some st → Sxo s B x → Sxo s B (vis s B f k b st x)
  | 0, _, _, _, _, _, h => h
  | f + 1, k, b, st, x, hb, h => by
    show Sxo s B (vst s B (vis s B f) k b st x)
    unfold vst
    by_cases h1 : x.ended = true
    · rw [if_pos h1]; exact h
    · rw [if_neg h1]
      by_cases h2 : x.nodes = B
      · rw [if_pos h2]; exact ⟨h.fe, h.co, h.nb, fun _ => h2⟩
      · rw [if_neg h2]
        have hnb : x.nodes + 1 ≤ B := by have := h.nb; omega
        have hno : ∀ {n : Nat}, (false = true → n = B) := fun e => by cases e
        by_cases h3 : lfs s st = []
        · rw [if_pos h3]
          by_cases h4 : RM.cst s.st s.ws s.cs b < x.cost
          · rw [if_pos h4]; exact ⟨bgn_leaf hb h3, rfl, hnb, hno⟩
          · rw [if_neg h4]; exact ⟨h.fe, h.co, hnb, hno⟩
        · rw [if_neg h3]
          by_cases h5 : x.cost ≤ lsv s k b st
          · rw [if_pos h5]; exact ⟨h.fe, h.co, hnb, hno⟩
          · rw [if_neg h5]
            have hk := kids_rel (s := s) (R := fun x y => Sxo s B x → Sxo s B y) (fun _ h => h) (fun _ _ _ h g e => g (h e)) (go := vis s B f) (k := k) (b := b) (st := st) (lfs s st) (fun w hw hm y hy => by
              obtain ⟨v, rfl, hv, hs⟩ := lfs_mem.1 hw
              exact vis_ok f y (by rw [Int.toNat_natCast]; exact bgn_add hb hv hs hm) hy) ⟨x.nodes + 1, false, x.plan, x.cost, x.marks ++ [1]⟩ ⟨h.fe, h.co, hnb, hno⟩
            unfold nxt
            split
            · rename_i hlt
              exact vis_ok f _ (bgn_next hb hlt) hk
            · exact hk
end

end Go.Proofs.Ytdfdkddjkhcgdah

/- The search: what is complete has the best plan; budgets; how many nodes there are. No program is named here. -/
namespace Go.Proofs.Ytdfdkddjkhcgdah

section
variable {s : Sn} {B k : Nat} {b p : List (List Int)} {st : List Bool}
/-- the least cost of a node, of a plan that begins so -/
theorem lsv_le (h : Fs s p) (hb : RM.Beg k b p) (hst : bgn s (k : Int) b = some st) : lsv s k b st ≤ RM.cst s.st s.ws s.cs p := by
  rw [beg_lsv h hb hst]
  exact RM.lst_least h.rz h.fz h.ml h.pc hb
theorem lsv_leaf (hl : lfs s st = []) : lsv s k b st = RM.cst s.st s.ws s.cs b := by
  unfold lsv
  rw [show lfk st s.ws.length = [] from hl]
  simp
/-- the same lists, with the next car -/
theorem beg_next (hb : RM.Beg k b p) (hk : k + 1 < p.length) {l : List Int} (h1 : b[k]? = some l) (h2 : p[k]? = some l) : RM.Beg (k + 1) b p := ⟨hb.len, hk, fun c m m' hm hm' => by
  obtain ⟨l2, e, e1, e2⟩ := hb.pre c m m' hm hm'
  refine ⟨l2, e, fun hc => ?_, fun hc => e2 (by omega)⟩
  by_cases hck : c < k
  · exact e1 hck
  · obtain rfl : c = k := by omega
    rw [h1] at hm
    rw [h2] at hm'
    cases hm
    cases hm'
    exact List.self_eq_append_right.1 e⟩
/-- one want more -/
theorem beg_add (hb : RM.Beg k b p) {l l3 : List Int} {w : Int} (h1 : b[k]? = some l) (h2 : p[k]? = some (l ++ w :: l3)) : RM.Beg k (PM.add b k w) p := ⟨by unfold PM.add; rw [List.length_set]; exact hb.len, hb.lt, fun c m m' hm hm' => by
  have hkb := (List.getElem?_eq_some_iff.1 h1).1
  unfold PM.add at hm
  by_cases e : k = c
  · subst e
    rw [List.getElem?_set_self hkb, h1] at hm
    rw [h2] at hm'
    cases hm
    cases hm'
    exact ⟨l3, by simp, fun h => by omega, fun h => by omega⟩
  · rw [List.getElem?_set_ne e] at hm
    exact hb.pre c m m' hm hm'⟩
theorem beg_same (hb : RM.Beg k b p) (hk : k + 1 = p.length) {l : List Int} (h1 : b[k]? = some l) (h2 : p[k]? = some l) : b = p := by
  refine List.ext_getElem? fun c => ?_
  by_cases hc : c < p.length
  · obtain ⟨m, hm⟩ : ∃ m, b[c]? = some m := ⟨_, List.getElem?_eq_getElem (by have := hb.len; omega)⟩
    obtain ⟨m', hm'⟩ : ∃ m', p[c]? = some m' := ⟨_, List.getElem?_eq_getElem hc⟩
    obtain ⟨l2, e, e1, _⟩ := hb.pre c m m' hm hm'
    by_cases hck : c < k
    · rw [hm, hm', e, e1 hck, List.append_nil]
    · obtain rfl : c = k := by omega
      rw [h1, h2]
  · rw [List.getElem?_eq_none (by have := hb.len; omega), List.getElem?_eq_none (by omega)]
/-- what is complete has no plan ahead that costs less -/
theorem vis_all : ∀ (f : Nat) {k : Nat} {b : List (List Int)} {st : List Bool} (x : Sx), bgn s (k : Int) b = some st → b.length - k + PM.lf st ≤ f → (vis s B f k b st x).ended = false → ∀ {p : List (List Int)}, Fs s p → RM.Beg k b p → (vis s B f k b st x).cost ≤ RM.cst s.st s.ws s.cs p
  | 0, k, b, st, x, hb, hf, _, p, _, _ => by
    have := (bgn_all hb).2.2.1
    omega
  | f + 1, k, b, st, x, hb, hf, hen, p, hp, hbg => by
    have hkb := (bgn_all hb).2.2.1
    have hls := lsv_le hp hbg hb
    show (vst s B (vis s B f) k b st x).cost ≤ _
    have hen : (vst s B (vis s B f) k b st x).ended = false := hen
    unfold vst at hen ⊢
    by_cases h1 : x.ended = true
    · rw [if_pos h1, h1] at hen; cases hen
    · rw [if_neg h1] at hen ⊢
      by_cases h2 : x.nodes = B
      · rw [if_pos h2] at hen; cases hen
      · rw [if_neg h2] at hen ⊢
        by_cases h3 : lfs s st = []
        · rw [if_pos h3]
          rw [lsv_leaf h3] at hls
          by_cases h4 : RM.cst s.st s.ws s.cs b < x.cost
          · rw [if_pos h4]; exact hls
          · rw [if_neg h4]; show x.cost ≤ _; omega
        · rw [if_neg h3] at hen ⊢
          by_cases h5 : x.cost ≤ lsv s k b st
          · rw [if_pos h5]; show x.cost ≤ _; omega
          · rw [if_neg h5] at hen ⊢
            generalize (⟨x.nodes + 1, false, x.plan, x.cost, x.marks ++ [1]⟩ : Sx) = y0 at hen ⊢
            have hbl := hbg.len
            obtain ⟨l, hl⟩ : ∃ l, b[k]? = some l := ⟨_, List.getElem?_eq_getElem hkb⟩
            obtain ⟨m, hm⟩ : ∃ m, p[k]? = some m := ⟨_, List.getElem?_eq_getElem (by omega)⟩
            obtain ⟨l2, e, _, _⟩ := hbg.pre k l m hl hm
            cases l2 with
            | nil =>
              rw [List.append_nil] at e
              rw [e] at hm
              unfold nxt at hen ⊢
              by_cases hk1 : k + 1 < b.length
              · rw [if_pos hk1] at hen ⊢
                exact vis_all f _ (bgn_next hb hk1) (by omega) hen hp (beg_next hbg (by omega) hl hm)
              · exfalso
                have hbp := beg_same hbg (by omega) hl hm
                obtain ⟨w, hw⟩ := List.exists_mem_of_ne_nil _ h3
                obtain ⟨v, rfl, hv, hs⟩ := lfs_mem.1 hw
                refine ((bgn_bs hb).lf v hv).1 hs ?_
                rw [hbp]
                exact List.count_pos_iff.1 (by rw [hp.fz.once v (by rw [hp.ml]; exact hv)]; omega)
            | cons w l3 =>
              rw [e] at hm
              have hbA := beg_add hbg hl hm
              have hok := hp.fz.ok k _ hm w (by simp)
              obtain ⟨g1, g2, g3⟩ := PM.okx_iff.1 hok
              obtain ⟨v, rfl⟩ : ∃ v : Nat, w = (v : Int) := ⟨w.toNat, by omega⟩
              have hv : v < s.ws.length := by have := hp.ml; omega
              have hnot : (v : Int) ∉ b.flatten := fun hm => by
                have h6 := hbA.sub.count_le (v : Int)
                rw [PM.count_add hkb, if_pos rfl, hp.fz.once v (by rw [hp.ml]; exact hv)] at h6
                have := List.count_pos_iff.2 hm
                omega
              have hs : st[v]? = some false := ((bgn_bs hb).lf v hv).2 hnot
              have hmem : (v : Int) ∈ lfs s st := lfs_mem.2 ⟨v, rfl, hv, hs⟩
              obtain ⟨A, C, hAC⟩ := List.append_of_mem hmem
              have hmy : mayk s k (v : Int) = true := g3
              have hk : kids s (vis s B f) k b st (lfs s st) y0 = kids s (vis s B f) k b st C (vis s B f k (PM.add b k (v : Int)) (st.set v true) (kids s (vis s B f) k b st A y0)) := by
                rw [hAC, kids_append]
                show kids s (vis s B f) k b st C (if mayk s k (v : Int) = true then _ else _) = _
                rw [if_pos hmy, Int.toNat_natCast]
              rw [hk] at hen ⊢
              generalize kids s (vis s B f) k b st A y0 = z at hen ⊢
              have hd1 : Dn (vis s B f k (PM.add b k (v : Int)) (st.set v true) z) (kids s (vis s B f) k b st C (vis s B f k (PM.add b k (v : Int)) (st.set v true) z)) := kids_rel (s := s) (R := Dn) Dn.refl (fun _ _ _ h g => h.trans g) C (fun w _ _ y => vis_dn f k _ _ y) _
              have hd2 : Dn (kids s (vis s B f) k b st C (vis s B f k (PM.add b k (v : Int)) (st.set v true) z)) (nxt (vis s B f) k b st (kids s (vis s B f) k b st C (vis s B f k (PM.add b k (v : Int)) (st.set v true) z))) := by
                unfold nxt
                split
                · exact vis_dn f (k + 1) b st _
                · exact Dn.refl _
              have hd := hd1.trans hd2
              have hez : (vis s B f k (PM.add b k (v : Int)) (st.set v true) z).ended = false := by
                cases he : (vis s B f k (PM.add b k (v : Int)) (st.set v true) z).ended with
                | false => rfl
                | true => rw [hd.2.2 he, he] at hen; cases hen
              have hlen : (PM.add b k (v : Int)).length = b.length := by unfold PM.add; rw [List.length_set]
              have hlf := PM.lf_set hs
              exact Int.le_trans hd.1 (vis_all f z (bgn_add hb hv hs hmy) (by rw [hlen]; omega) hez hp hbA)

/-- two budgets: the same, as long as the lesser one lasts; then the other one's cost is no more -/
def Tw (B : Nat) (x y : Sx) : Prop := (x = y ∧ x.ended = false ∧ x.nodes ≤ B) ∨ (x.ended = true ∧ y.cost ≤ x.cost)
theorem vis_two {B' : Nat} (hB : B ≤ B') : ∀ (f k : Nat) (b : List (List Int)) (st : List Bool) (x y : Sx), Tw B x y → Tw B (vis s B f k b st x) (vis s B' f k b st y)
  | 0, _, _, _, _, _, h => h
  | f + 1, k, b, st, x, y, h => by
    rcases h with ⟨rfl, h1, hn⟩ | ⟨h1, h2⟩
    · show Tw B (vst s B (vis s B f) k b st x) (vst s B' (vis s B' f) k b st x)
      by_cases h2 : x.nodes = B
      · have hd := vis_dn (s := s) (B := B') (f + 1) k b st x
        right
        unfold vst
        rw [if_neg (by rw [h1]; simp), if_pos h2]
        exact ⟨rfl, hd.1⟩
      · have e1 : ¬ x.ended = true := by rw [h1]; simp
        have e2 : ¬ x.nodes = B' := by omega
        unfold vst
        rw [if_neg e1, if_neg h2, if_neg e1, if_neg e2]
        by_cases h3 : lfs s st = []
        · rw [if_pos h3, if_pos h3]
          by_cases h4 : RM.cst s.st s.ws s.cs b < x.cost
          · rw [if_pos h4]; exact .inl ⟨rfl, rfl, by show x.nodes + 1 ≤ B; omega⟩
          · rw [if_neg h4]; exact .inl ⟨rfl, rfl, by show x.nodes + 1 ≤ B; omega⟩
        · rw [if_neg h3, if_neg h3]
          by_cases h5 : x.cost ≤ lsv s k b st
          · rw [if_pos h5, if_pos h5]; exact .inl ⟨rfl, rfl, by show x.nodes + 1 ≤ B; omega⟩
          · rw [if_neg h5, if_neg h5]
            have kd : ∀ (l : List Int) (x y : Sx), Tw B x y → Tw B (kids s (vis s B f) k b st l x) (kids s (vis s B' f) k b st l y) := by
              intro l
              induction l with
              | nil => exact fun _ _ h => h
              | cons w l ih =>
                intro x y h
                refine ih _ _ ?_
                show Tw B (if mayk s k w = true then _ else _) (if mayk s k w = true then _ else _)
                by_cases hm : mayk s k w = true
                · rw [if_pos hm, if_pos hm]; exact vis_two hB f k _ _ x y h
                · rw [if_neg hm, if_neg hm]; exact h
            have h6 := kd (lfs s st) _ _ (.inl ⟨rfl, rfl, by show x.nodes + 1 ≤ B; omega⟩ : Tw B (⟨x.nodes + 1, false, x.plan, x.cost, x.marks ++ [1]⟩ : Sx) ⟨x.nodes + 1, false, x.plan, x.cost, x.marks ++ [1]⟩)
            unfold nxt
            split
            · exact vis_two hB f (k + 1) b st _ _ h6
            · exact h6
    · right
      rw [vis_ended (f + 1) k b st x h1]
      exact ⟨h1, Int.le_trans (vis_dn (f + 1) k b st y).1 h2⟩

/-- how many nodes there are: c cars, l wants left -/
def Nr (g : Nat → Nat) : Nat → Nat
  | 0 => 1
  | l + 1 => 1 + (l + 1) * Nr g l + g (l + 1)
def Nc : Nat → Nat → Nat
  | 0 => fun _ => 0
  | c + 1 => Nr (Nc c)
theorem lfk_count (st : List Bool) : ∀ (k : Nat), k ≤ st.length → (lfk st k).length = (st.take k).count false
  | 0, _ => by simp [lfk]
  | k + 1, h => by
    obtain ⟨x, hx⟩ : ∃ x, st[k]? = some x := ⟨_, List.getElem?_eq_getElem (by omega)⟩
    rw [lfk_succ, List.length_append, lfk_count st k (by omega), List.take_add_one, hx, Option.toList_some, List.count_append]
    cases x <;> simp
theorem lfs_length (h : st.length = s.ws.length) : (lfs s st).length = PM.lf st := by
  unfold lfs PM.lf
  rw [lfk_count st _ (by omega), List.take_of_length_le (by omega)]
/-- the children in its own list -/
theorem kids_cnt {N : Nat} {go : Nat → List (List Int) → List Bool → Sx → Sx} : ∀ (l : List Int), (∀ w ∈ l, mayk s k w = true → ∀ x, (go k (PM.add b k w) (st.set w.toNat true) x).nodes ≤ x.nodes + N ∧ (x.ended = false → x.nodes + N ≤ B → (go k (PM.add b k w) (st.set w.toNat true) x).ended = false)) →
    ∀ x, (kids s go k b st l x).nodes ≤ x.nodes + l.length * N ∧ (x.ended = false → x.nodes + l.length * N ≤ B → (kids s go k b st l x).ended = false)
  | [], _, x => ⟨by simp [kids], fun h _ => h⟩
  | w :: l, hg, x => by
    have ih := kids_cnt (N := N) (go := go) l (fun v hv => hg v (by simp [hv]))
    have hlen : (w :: l).length * N = N + l.length * N := by rw [List.length_cons, Nat.add_mul]; omega
    rw [hlen]
    show (kids s go k b st l (if mayk s k w = true then go k (PM.add b k w) (st.set w.toNat true) x else x)).nodes ≤ _ ∧ (_ → _ → (kids s go k b st l (if mayk s k w = true then go k (PM.add b k w) (st.set w.toNat true) x else x)).ended = false)
    by_cases hm : mayk s k w = true
    · rw [if_pos hm]
      have h1 := hg w (by simp) hm x
      have h2 := ih (go k (PM.add b k w) (st.set w.toNat true) x)
      exact ⟨by omega, fun h h3 => h2.2 (h1.2 h (by omega)) (by omega)⟩
    · rw [if_neg hm]
      have h2 := ih x
      exact ⟨by omega, fun h h3 => h2.2 h (by omega)⟩
theorem vis_cnt : ∀ (f : Nat) {k : Nat} {b : List (List Int)} {st : List Bool} (x : Sx), bgn s (k : Int) b = some st → (vis s B f k b st x).nodes ≤ x.nodes + Nc (b.length - k) (PM.lf st) ∧ (x.ended = false → x.nodes + Nc (b.length - k) (PM.lf st) ≤ B → (vis s B f k b st x).ended = false)
  | 0, _, _, _, x, _ => ⟨Nat.le_add_right _ _, fun h _ => h⟩
  | f + 1, k, b, st, x, hb => by
    have hkb := (bgn_all hb).2.2.1
    have hsl : st.length = s.ws.length := by rw [(bgn_all hb).2.2.2.2.2.1, msk_len]
    have hll := lfs_length (s := s) hsl
    obtain ⟨c, hc⟩ : ∃ c, b.length - k = c + 1 := ⟨b.length - k - 1, by omega⟩
    rw [hc]
    have hone : ∀ l, 1 ≤ Nc (c + 1) l := fun l => by cases l <;> (show 1 ≤ Nr (Nc c) _; unfold Nr; omega)
    show (vst s B (vis s B f) k b st x).nodes ≤ _ ∧ (_ → _ → (vst s B (vis s B f) k b st x).ended = false)
    unfold vst
    by_cases h1 : x.ended = true
    · rw [if_pos h1]; exact ⟨Nat.le_add_right _ _, fun h _ => h⟩
    · rw [if_neg h1]
      have h1' := hone (PM.lf st)
      by_cases h2 : x.nodes = B
      · rw [if_pos h2]; exact ⟨Nat.le_add_right _ _, fun _ h => by omega⟩
      · rw [if_neg h2]
        by_cases h3 : lfs s st = []
        · rw [if_pos h3]
          split
          · exact ⟨by show x.nodes + 1 ≤ _; omega, fun _ _ => rfl⟩
          · exact ⟨by show x.nodes + 1 ≤ _; omega, fun _ _ => rfl⟩
        · rw [if_neg h3]
          by_cases h5 : x.cost ≤ lsv s k b st
          · rw [if_pos h5]; exact ⟨by show x.nodes + 1 ≤ _; omega, fun _ _ => rfl⟩
          · rw [if_neg h5]
            obtain ⟨l, hl⟩ : ∃ l, PM.lf st = l + 1 := ⟨PM.lf st - 1, by
              have : (lfs s st).length ≠ 0 := fun e => h3 (List.eq_nil_of_length_eq_zero e)
              omega⟩
            rw [hl] at hll ⊢
            have hN : Nc (c + 1) (l + 1) = 1 + (l + 1) * Nc (c + 1) l + Nc c (l + 1) := rfl
            rw [hN]
            have hk := kids_cnt (s := s) (B := B) (k := k) (b := b) (st := st) (N := Nc (c + 1) l) (go := vis s B f) (lfs s st) (fun w hw hm y => by
              obtain ⟨v, rfl, hv, hs⟩ := lfs_mem.1 hw
              have hlf := PM.lf_set hs
              have hlen : (PM.add b k (v : Int)).length = b.length := by unfold PM.add; rw [List.length_set]
              have := vis_cnt f y (bgn_add hb hv hs hm)
              rw [hlen, hc, show PM.lf (st.set v true) = l by omega] at this
              rw [Int.toNat_natCast]
              exact this) ⟨x.nodes + 1, false, x.plan, x.cost, x.marks ++ [1]⟩
            rw [hll] at hk
            have e0 : (⟨x.nodes + 1, false, x.plan, x.cost, x.marks ++ [1]⟩ : Sx).nodes = x.nodes + 1 := rfl
            rw [e0] at hk
            unfold nxt
            split
            · rename_i hlt
              have h6 := vis_cnt f (kids s (vis s B f) k b st (lfs s st) ⟨x.nodes + 1, false, x.plan, x.cost, x.marks ++ [1]⟩) (bgn_next hb hlt)
              rw [hl, show b.length - (k + 1) = c by omega] at h6
              exact ⟨by omega, fun _ h7 => h6.2 (hk.2 rfl (by omega)) (by omega)⟩
            · exact ⟨by omega, fun _ h7 => hk.2 rfl (by omega)⟩
theorem Nc_le : ∀ c, c ≤ 8 → ∀ l, l ≤ 4 → Nc c l ≤ 1000000 := by decide
end

end Go.Proofs.Ytdfdkddjkhcgdah

/- The first plan, and the best of all plans: mathematics. No program is named here. -/
namespace Go.Proofs.Ytdfdkddjkhcgdah

/-- a want's time at the end of a car's list -/
def tend (s : Sn) (p : List (List Int)) (w : Int) (c : Nat) : Int := RM.ar s.st (RM.go s.st (RM.bg (s.cs[c]?.getD (0, 0))) ((p[c]?.getD []).map (RM.wf s.ws))) (RM.wf s.ws w)
/-- the car where a want is served earliest, of the first c cars, and when; -1: none -/
def fcar (s : Sn) (p : List (List Int)) (w : Int) : Nat → Int × Int
  | 0 => (-1, 0)
  | c + 1 => if mayk s c w = true ∧ ((fcar s p w c).1 < 0 ∨ tend s p w c < (fcar s p w c).2) then ((c : Int), tend s p w c) else fcar s p w c
/-- the first plan, as far as the first wants are given away -/
def ffp (s : Sn) : Nat → List (List Int)
  | 0 => List.replicate s.cs.length []
  | w + 1 => PM.add (ffp s w) (fcar s (ffp s w) (w : Int) s.cs.length).1.toNat (w : Int)
section
variable {s : Sn} {p : List (List Int)} {w : Int}
theorem fcar_some : ∀ (n : Nat), ((fcar s p w n).1 < 0 ∧ ∀ c, c < n → mayk s c w = false) ∨ ∃ c : Nat, (fcar s p w n).1 = (c : Int) ∧ c < n ∧ mayk s c w = true
  | 0 => .inl ⟨by show (-1 : Int) < 0; decide, fun c h => by omega⟩
  | n + 1 => by
    unfold fcar
    by_cases h : mayk s n w = true ∧ ((fcar s p w n).1 < 0 ∨ tend s p w n < (fcar s p w n).2)
    · rw [if_pos h]
      exact .inr ⟨n, rfl, by omega, h.1⟩
    · rw [if_neg h]
      rcases fcar_some n with ⟨h1, h2⟩ | ⟨c, h1, h2, h3⟩
      · left
        refine ⟨h1, fun c hc => ?_⟩
        by_cases e : c = n
        · subst e
          cases hm : mayk s c w with
          | false => rfl
          | true => exact absurd ⟨hm, .inl h1⟩ h
        · exact h2 c (by omega)
      · exact .inr ⟨c, h1, by omega, h3⟩
theorem bt_some : ∀ (n m : Nat), 0 < m → m < 2 ^ n → ∃ c, c < n ∧ PM.bt m c = true
  | 0, m, h0, h1 => by simp at h1; omega
  | n + 1, m, h0, h1 => by
    by_cases h : m % 2 = 1
    · exact ⟨0, by omega, by unfold PM.bt; simp [h]⟩
    · have h2 : 2 ^ (n + 1) = 2 * 2 ^ n := by rw [Nat.pow_succ, Nat.mul_comm]
      obtain ⟨c, hc, hb⟩ := bt_some n (m / 2) (by omega) (by omega)
      refine ⟨c + 1, by omega, ?_⟩
      unfold PM.bt at hb ⊢
      rw [Nat.pow_succ, Nat.mul_comm, ← Nat.div_div_eq_div_mul]
      exact hb
/-- each want has a car -/
theorem has_car (hr : rgt s = true) {w : Nat} (hw : w < s.ws.length) : ∃ c, c < s.cs.length ∧ mayk s c (w : Int) = true := by
  obtain ⟨n, hrs⟩ := rgt_rs hr
  obtain ⟨y, hy⟩ : ∃ y, s.ws[w]? = some y := ⟨_, List.getElem?_eq_getElem hw⟩
  obtain ⟨m, hm, hym⟩ := hrs.mm.eq w y hy
  have h0 : 0 < m := by
    have h1 := hr
    unfold rgt at h1
    simp only [Bool.and_eq_true, List.all_eq_true] at h1
    have := (wok_iff'.1 (h1.2 y (List.mem_of_getElem? hy))).2.2.1
    omega
  obtain ⟨c, hc, hb⟩ := bt_some n m h0 (hrs.lt m (List.mem_of_getElem? hm))
  refine ⟨c, by have := hrs.cl; omega, ?_⟩
  unfold mayk
  rw [Int.toNat_natCast, hm]
  exact hb
/-- plans of the first wants -/
structure Pw (s : Sn) (w : Nat) (p : List (List Int)) : Prop where
  len : p.length = s.cs.length
  ok : ∀ (c : Nat) l, p[c]? = some l → ∀ x ∈ l, PM.okx (msk s) c x = true
  cnt : ∀ v : Nat, p.flatten.count (v : Int) = if v < w then 1 else 0
theorem flat_rep (n : Nat) : (List.replicate n ([] : List Int)).flatten = [] := by
  induction n with
  | zero => rfl
  | succ n ih => rw [List.replicate_succ, List.flatten_cons, ih]; rfl
theorem Pw.zero (s : Sn) : Pw s 0 (List.replicate s.cs.length []) := by
  refine ⟨by simp, fun c l hl x hx => ?_, fun v => by rw [flat_rep]; simp⟩
  rw [List.getElem?_replicate] at hl
  split at hl
  · cases hl; simp at hx
  · cases hl
theorem Pw.add {w c : Nat} (h : Pw s w p) (hc : c < s.cs.length) (hw : w < s.ws.length) (hm : mayk s c (w : Int) = true) : Pw s (w + 1) (PM.add p c (w : Int)) := by
  have hcp : c < p.length := by rw [h.len]; exact hc
  have hml := msk_len s
  refine ⟨by unfold PM.add; rw [List.length_set]; exact h.len, fun d l hl x hx => ?_, fun v => ?_⟩
  · unfold PM.add at hl
    by_cases e : c = d
    · subst e
      rw [List.getElem?_set_self hcp] at hl
      cases hl
      rw [List.mem_append, List.mem_singleton, List.getElem?_eq_getElem hcp, Option.getD_some] at hx
      rcases hx with hx | hx
      · exact h.ok c _ (List.getElem?_eq_getElem hcp) x hx
      · rw [hx]; exact PM.okx_iff.2 ⟨by omega, by omega, hm⟩
    · rw [List.getElem?_set_ne e] at hl
      exact h.ok d l hl x hx
  · rw [PM.count_add hcp, h.cnt v]
    by_cases e : w = v
    · subst e; simp
    · rw [if_neg (c := (w : Int) = (v : Int)) (by omega)]
      by_cases h2 : v < w
      · rw [if_pos h2, if_pos (by omega)]
      · rw [if_neg h2, if_neg (by omega)]
theorem Pw.fsb (hr : rgt s = true) (h : Pw s s.ws.length p) : fsb s p = true := by
  have hml := msk_len s
  have hf : PM.feas (msk s) p = true := PM.feas_iff.2 ⟨h.ok, fun w hw => by rw [h.cnt w, if_pos (by omega)]⟩
  unfold Go.Proofs.Ytdfdkddjkhcgdah.fsb
  rw [hr, hf, h.len]
  simp
theorem ffp_pw (hr : rgt s = true) : ∀ w, w ≤ s.ws.length → Pw s w (ffp s w)
  | 0, _ => Pw.zero s
  | w + 1, h => by
    have ih := ffp_pw hr w (by omega)
    rcases fcar_some (s := s) (p := ffp s w) (w := (w : Int)) s.cs.length with ⟨_, h2⟩ | ⟨c, h1, h2, h3⟩
    · obtain ⟨c, hc, hm⟩ := has_car hr (w := w) (by omega)
      rw [h2 c hc] at hm
      cases hm
    · show Pw s (w + 1) (PM.add (ffp s w) (fcar s (ffp s w) (w : Int) s.cs.length).1.toNat (w : Int))
      rw [h1, Int.toNat_natCast]
      exact ih.add h2 (by omega) h3
/-- the first plan may be -/
theorem ffp_fsb (hr : rgt s = true) : fsb s (ffp s s.ws.length) = true := (ffp_pw hr _ (Nat.le_refl _)).fsb hr

/-- the least cost of all plans -/
structure Best (s : Sn) (n : Int) : Prop where
  some : ∃ p, fsb s p = true ∧ RM.cst s.st s.ws s.cs p = n
  least : ∀ p, fsb s p = true → n ≤ RM.cst s.st s.ws s.cs p
theorem Best.one {m n : Int} (h : Best s m) (g : Best s n) : m = n := by
  obtain ⟨p, hp, e⟩ := h.some
  obtain ⟨q, hq, e'⟩ := g.some
  have h1 := h.least q hq
  have h2 := g.least p hp
  omega
/-- where a search begins -/
def root (s : Sn) : Sx := ⟨0, false, ffp s s.ws.length, RM.cst s.st s.ws s.cs (ffp s s.ws.length), []⟩
/-- what a search finds -/
def fnd (s : Sn) (B : Nat) : Sx := vis s B (s.cs.length + s.ws.length) 0 (List.replicate s.cs.length []) (List.replicate s.ws.length false) (root s)
theorem root_bgn (hr : rgt s = true) : bgn s ((0 : Nat) : Int) (List.replicate s.cs.length []) = some (List.replicate s.ws.length false) := by
  obtain ⟨n, hrs⟩ := rgt_rs hr
  have hml := msk_len s
  have hn1 := hrs.n1
  have hcl := hrs.cl
  refine bgn_mk hr (by simp) (by rw [List.length_replicate]; omega) (fun c l hl _ => ?_) (Pw.zero s).ok (by rw [List.length_replicate, hml]) (fun w hw => by rw [PM.nb_rep, flat_rep]; simp)
  rw [List.getElem?_replicate] at hl
  split at hl
  · cases hl; rfl
  · cases hl
theorem root_ok (hr : rgt s = true) (B : Nat) : Sxo s B (root s) := ⟨ffp_fsb hr, rfl, Nat.zero_le _, fun h => by cases h⟩
theorem fnd_ok (hr : rgt s = true) (B : Nat) : Sxo s B (fnd s B) := vis_ok _ _ (root_bgn hr) (root_ok hr B)
theorem fnd_first (B : Nat) : (fnd s B).cost ≤ RM.cst s.st s.ws s.cs (ffp s s.ws.length) := (vis_dn _ _ _ _ (root s)).1
theorem fnd_more {B B' : Nat} (h : B ≤ B') : (fnd s B').cost ≤ (fnd s B).cost := by
  rcases vis_two (s := s) h (s.cs.length + s.ws.length) 0 (List.replicate s.cs.length []) (List.replicate s.ws.length false) (root s) (root s) (.inl ⟨rfl, rfl, Nat.zero_le _⟩) with ⟨e, _⟩ | ⟨_, e⟩
  · show (vis s B' _ _ _ _ _).cost ≤ (vis s B _ _ _ _ _).cost
    rw [e]; exact Int.le_refl _
  · exact e
theorem root_beg {p : List (List Int)} (hl : p.length = s.cs.length) (h1 : 0 < p.length) : RM.Beg 0 (List.replicate s.cs.length []) p := by
  refine ⟨by simp [hl], h1, fun c l m hc hm => ?_⟩
  rw [List.getElem?_replicate] at hc
  split at hc
  · cases hc; exact ⟨m, by simp, fun h => by omega, fun _ => rfl⟩
  · cases hc
/-- a complete search has the best plan -/
theorem fnd_best (hr : rgt s = true) {B : Nat} (hc : (fnd s B).ended = false) : Best s (fnd s B).cost := by
  have hok := fnd_ok hr B
  refine ⟨⟨_, hok.fe, hok.co.symm⟩, fun p hp => ?_⟩
  have hf := fsb_fs hp
  have hpc := hf.pc
  have h1 := hf.p1
  refine vis_all _ _ (root_bgn hr) ?_ hc hf (root_beg hpc.symm (by omega))
  rw [List.length_replicate]
  unfold PM.lf
  rw [List.count_replicate]
  simp
/-- few wants: a search of a great budget is complete -/
theorem fnd_ends (hr : rgt s = true) (hw : s.ws.length ≤ 4) (hc : s.cs.length ≤ 8) : (fnd s 1000000).ended = false := by
  have h := (vis_cnt (s := s) (B := 1000000) (s.cs.length + s.ws.length) (root s) (root_bgn hr)).2 rfl
  refine h ?_
  show 0 + _ ≤ _
  rw [List.length_replicate]
  have e : PM.lf (List.replicate s.ws.length false) = s.ws.length := by unfold PM.lf; rw [List.count_replicate]; simp
  rw [e]
  have := Nc_le (s.cs.length - 0) (by omega) s.ws.length hw
  omega
end

end Go.Proofs.Ytdfdkddjkhcgdah

/- The rule's plan: mathematics. No program is named here. -/
namespace Go.Proofs.Ytdfdkddjkhcgdah

/-- when a car would be at a want's floor, if it went there at once -/
def rtm (s : Sn) (w : Int) (c : Nat) : Int := (s.cs[c]?.getD (0, 0)).2 + SM.trav s.st (s.cs[c]?.getD (0, 0)).1 (RM.wf s.ws w)
/-- the first car of the first c ones, and when; -1: none -/
def rfc (s : Sn) (w : Int) : Nat → Int × Int
  | 0 => (-1, 0)
  | c + 1 => if mayk s c w = true ∧ ((rfc s w c).1 < 0 ∨ rtm s w c < (rfc s w c).2) then ((c : Int), rtm s w c) else rfc s w c
/-- how far a want is away from a car -/
def rfa (s : Sn) (c : Nat) (w : Int) : Int := SM.dist (s.cs[c]?.getD (0, 0)).1 (RM.wf s.ws w)
/-- does the want go there, and is it so far away? -/
def rhas (s : Sn) (c d : Nat) (w : Nat) : Bool := decide (rfa s c (w : Int) = (d : Int)) && decide ((rfc s (w : Int) s.cs.length).1 = (c : Int))
/-- of the first k wants, those of one distance -/
def rlk (s : Sn) (c d : Nat) (k : Nat) : List Int := ((List.range k).filter (rhas s c d)).map fun (w : Nat) => (w : Int)
/-- a car's list, as far as the first d distances -/
def rls (s : Sn) (c : Nat) (d : Nat) : List Int := (List.range d).flatMap fun e => rlk s c e s.ws.length
/-- the rule's plan, of the first c cars -/
def rpl (s : Sn) (c : Nat) : List (List Int) := (List.range c).map fun c => rls s c s.st.fl.toNat
section
variable {s : Sn} {w : Int}
theorem rlk_zero (c d : Nat) : rlk s c d 0 = [] := rfl
theorem rlk_succ (c d k : Nat) : rlk s c d (k + 1) = rlk s c d k ++ if rhas s c d k = true then [(k : Int)] else [] := by
  unfold rlk
  rw [List.range_succ, List.filter_append, List.map_append]
  congr 1
  by_cases h : rhas s c d k = true
  · simp [h]
  · simp [h]
theorem rls_zero (c : Nat) : rls s c 0 = [] := rfl
theorem rls_succ (c d : Nat) : rls s c (d + 1) = rls s c d ++ rlk s c d s.ws.length := by
  unfold rls
  rw [List.range_succ, List.flatMap_append]
  simp
theorem rpl_length (c : Nat) : (rpl s c).length = c := by unfold rpl; simp
theorem rpl_get {c n : Nat} (h : c < n) : (rpl s n)[c]? = some (rls s c s.st.fl.toNat) := by
  unfold rpl
  rw [List.getElem?_map, List.getElem?_range h]
  rfl
theorem rfc_some : ∀ (n : Nat), ((rfc s w n).1 < 0 ∧ ∀ c, c < n → mayk s c w = false) ∨ ∃ c : Nat, (rfc s w n).1 = (c : Int) ∧ c < n ∧ mayk s c w = true ∧ (rfc s w n).2 = rtm s w c ∧ ∀ d, d < n → mayk s d w = true → rtm s w c ≤ rtm s w d
  | 0 => .inl ⟨by show (-1 : Int) < 0; decide, fun c h => by omega⟩
  | n + 1 => by
    unfold rfc
    by_cases h : mayk s n w = true ∧ ((rfc s w n).1 < 0 ∨ rtm s w n < (rfc s w n).2)
    · rw [if_pos h]
      refine .inr ⟨n, rfl, by omega, h.1, rfl, fun d hd hm => ?_⟩
      by_cases e : d = n
      · subst e; exact Int.le_refl _
      · rcases rfc_some n with ⟨h1, h2⟩ | ⟨c, h1, h2, h3, h4, h5⟩
        · rw [h2 d (by omega)] at hm; cases hm
        · have := h5 d (by omega) hm
          rcases h.2 with h6 | h6
          · rw [h1] at h6; omega
          · rw [h4] at h6; omega
    · rw [if_neg h]
      rcases rfc_some n with ⟨h1, h2⟩ | ⟨c, h1, h2, h3, h4, h5⟩
      · left
        refine ⟨h1, fun c hc => ?_⟩
        by_cases e : c = n
        · subst e
          cases hm : mayk s c w with
          | false => rfl
          | true => exact absurd ⟨hm, .inl h1⟩ h
        · exact h2 c (by omega)
      · refine .inr ⟨c, h1, by omega, h3, h4, fun d hd hm => ?_⟩
        by_cases e : d = n
        · subst e
          apply Classical.byContradiction
          intro hn
          exact h ⟨hm, .inr (by rw [h4]; omega)⟩
        · exact h5 d (by omega) hm
/-- each want has its car -/
theorem rfc_car (hr : rgt s = true) {w : Nat} (hw : w < s.ws.length) : ∃ c : Nat, (rfc s (w : Int) s.cs.length).1 = (c : Int) ∧ c < s.cs.length ∧ mayk s c (w : Int) = true ∧ ∀ d, d < s.cs.length → mayk s d (w : Int) = true → rtm s (w : Int) c ≤ rtm s (w : Int) d := by
  rcases rfc_some (s := s) (w := (w : Int)) s.cs.length with ⟨_, h2⟩ | ⟨c, h1, h2, h3, _, h5⟩
  · obtain ⟨c, hc, hm⟩ := has_car hr hw
    rw [h2 c hc] at hm
    cases hm
  · exact ⟨c, h1, h2, h3, h5⟩
theorem rlk_mem {c d k : Nat} {x : Int} : x ∈ rlk s c d k ↔ ∃ w : Nat, x = (w : Int) ∧ w < k ∧ rfa s c (w : Int) = (d : Int) ∧ (rfc s (w : Int) s.cs.length).1 = (c : Int) := by
  unfold rlk
  rw [List.mem_map]
  constructor
  · rintro ⟨w, hw, rfl⟩
    rw [List.mem_filter, List.mem_range] at hw
    unfold rhas at hw
    simp only [Bool.and_eq_true, decide_eq_true_eq] at hw
    exact ⟨w, rfl, hw.1, hw.2.1, hw.2.2⟩
  · rintro ⟨w, rfl, h1, h2, h3⟩
    exact ⟨w, List.mem_filter.2 ⟨List.mem_range.2 h1, by unfold rhas; simp [h2, h3]⟩, rfl⟩
theorem rls_mem {c d : Nat} {x : Int} : x ∈ rls s c d ↔ ∃ (w e : Nat), x = (w : Int) ∧ w < s.ws.length ∧ e < d ∧ rfa s c (w : Int) = (e : Int) ∧ (rfc s (w : Int) s.cs.length).1 = (c : Int) := by
  unfold rls
  rw [List.mem_flatMap]
  constructor
  · rintro ⟨e, he, hx⟩
    obtain ⟨w, h1, h2, h3, h4⟩ := rlk_mem.1 hx
    exact ⟨w, e, h1, h2, List.mem_range.1 he, h3, h4⟩
  · rintro ⟨w, e, h1, h2, h3, h4, h5⟩
    exact ⟨e, List.mem_range.2 h3, rlk_mem.2 ⟨w, h1, h2, h4, h5⟩⟩
theorem rlk_count (c d : Nat) (v : Nat) : ∀ k, (rlk s c d k).count (v : Int) = if v < k ∧ rhas s c d v = true then 1 else 0
  | 0 => by simp [rlk]
  | k + 1 => by
    rw [rlk_succ, List.count_append, rlk_count c d v k]
    by_cases e : v = k
    · subst e
      by_cases h : rhas s c d v = true
      · rw [if_neg (by omega), if_pos h, if_pos ⟨by omega, h⟩]; simp
      · rw [if_neg (by omega), if_neg h, if_neg (fun g => h g.2)]; simp
    · have h1 : (if rhas s c d k = true then [(k : Int)] else []).count (v : Int) = 0 := by
        apply List.count_eq_zero.2
        intro hm
        split at hm
        · simp at hm; omega
        · simp at hm
      rw [h1, Nat.add_zero]
      by_cases h : v < k ∧ rhas s c d v = true
      · rw [if_pos h, if_pos ⟨by omega, h.2⟩]
      · rw [if_neg h, if_neg (fun g => h ⟨by omega, g.2⟩)]
theorem rls_count (c : Nat) {v : Nat} (hv : v < s.ws.length) : ∀ d, (rls s c d).count (v : Int) = if (rfc s (v : Int) s.cs.length).1 = (c : Int) ∧ 0 ≤ rfa s c (v : Int) ∧ rfa s c (v : Int) < (d : Int) then 1 else 0
  | 0 => by rw [rls_zero, if_neg (by rintro ⟨_, h1, h2⟩; omega)]; rfl
  | d + 1 => by
    rw [rls_succ, List.count_append, rls_count c hv d, rlk_count]
    have hh : rhas s c d v = true ↔ rfa s c (v : Int) = (d : Int) ∧ (rfc s (v : Int) s.cs.length).1 = (c : Int) := by unfold rhas; simp
    by_cases h1 : (rfc s (v : Int) s.cs.length).1 = (c : Int)
    · by_cases h2 : 0 ≤ rfa s c (v : Int) ∧ rfa s c (v : Int) < (d : Int)
      · rw [if_pos ⟨h1, h2⟩, if_neg (fun g => by have := (hh.1 g.2).1; omega), if_pos ⟨h1, by omega, by omega⟩]
      · rw [if_neg (fun g => h2 g.2)]
        by_cases h3 : rfa s c (v : Int) = (d : Int)
        · rw [if_pos ⟨hv, hh.2 ⟨h3, h1⟩⟩, if_pos ⟨h1, by omega, by omega⟩]
        · rw [if_neg (fun g => h3 (hh.1 g.2).1), if_neg (fun g => h2 ⟨g.2.1, by omega⟩)]
    · rw [if_neg (fun g => h1 g.1), if_neg (fun g => h1 (hh.1 g.2).2), if_neg (fun g => h1 g.1)]
theorem rpl_count {v : Nat} : ∀ n, (rpl s n).flatten.count (v : Int) = ((List.range n).map fun c => (rls s c s.st.fl.toNat).count (v : Int)).sum
  | 0 => by simp [rpl]
  | n + 1 => by
    have h : rpl s (n + 1) = rpl s n ++ [rls s n s.st.fl.toNat] := by unfold rpl; rw [List.range_succ, List.map_append]; rfl
    rw [h, List.flatten_append, List.count_append, rpl_count n, List.range_succ, List.map_append, List.sum_append]
    simp
theorem sum_one {f : Nat → Nat} {c : Nat} (h0 : ∀ d, d ≠ c → f d = 0) (h1 : f c = 1) : ∀ n, ((List.range n).map f).sum = if c < n then 1 else 0
  | 0 => by simp
  | n + 1 => by
    rw [List.range_succ, List.map_append, List.sum_append, sum_one h0 h1 n]
    by_cases e : n = c
    · subst e; simp [h1]
    · rw [List.map_singleton, List.sum_singleton, h0 n e]
      by_cases h : c < n
      · rw [if_pos h, if_pos (by omega)]
      · rw [if_neg h, if_neg (by omega)]
/-- the wants' and the cars' floors are the site's -/
theorem rfa_bd (hr : rgt s = true) {c w : Nat} (hc : c < s.cs.length) (hw : w < s.ws.length) : 0 ≤ rfa s c (w : Int) ∧ rfa s c (w : Int) < (s.st.fl.toNat : Int) := by
  have hz := (fsb_fs (ffp_fsb hr)).rz
  obtain ⟨r, hcr⟩ : ∃ r, s.cs[c]? = some r := ⟨_, List.getElem?_eq_getElem hc⟩
  have h1 := (hz.cr r (List.mem_of_getElem? hcr)).f0
  have h4 := (hz.cr r (List.mem_of_getElem? hcr)).f1
  have h2 := hz.wf (x := (w : Int)) (by omega) (by omega)
  unfold rfa SM.dist
  rw [hcr, Option.getD_some]
  have h3 : (RM.bg r).fl = r.1 := rfl
  rw [h3] at h1 h4
  split <;> omega
/-- the rule's plan may be -/
theorem rpl_fsb (hr : rgt s = true) : fsb s (rpl s s.cs.length) = true := by
  have hml := msk_len s
  refine Pw.fsb hr ⟨rpl_length _, fun c l hl x hx => ?_, fun v => ?_⟩
  · have hc : c < s.cs.length := by have := (List.getElem?_eq_some_iff.1 hl).1; rwa [rpl_length] at this
    rw [rpl_get hc] at hl
    cases hl
    obtain ⟨w, e, rfl, h1, h2, h3, h4⟩ := rls_mem.1 hx
    obtain ⟨c', h5, h6, h7, _⟩ := rfc_car hr h1
    obtain rfl : c' = c := by rw [h5] at h4; omega
    exact PM.okx_iff.2 ⟨by omega, by omega, h7⟩
  · rw [rpl_count]
    by_cases hv : v < s.ws.length
    · rw [if_pos hv]
      obtain ⟨c, h5, h6, h7, _⟩ := rfc_car hr hv
      rw [sum_one (c := c) (fun d hd => by rw [rls_count d hv, if_neg (fun g => hd (by rw [h5] at g; omega))]) (by rw [rls_count c hv, if_pos ⟨h5, rfa_bd hr h6 hv⟩]), if_pos h6]
    · rw [if_neg hv]
      have : ∀ n, ((List.range n).map fun c => (rls s c s.st.fl.toNat).count (v : Int)).sum = 0 := fun n => by
        induction n with
        | zero => rfl
        | succ n ih =>
          rw [List.range_succ, List.map_append, List.sum_append, ih]
          simp only [List.map_cons, List.map_nil, List.sum_cons, List.sum_nil, Nat.zero_add, Nat.add_zero]
          apply List.count_eq_zero.2
          intro hm
          obtain ⟨w, e, h1, h2, _⟩ := rls_mem.1 hm
          omega
      exact this _
end

end Go.Proofs.Ytdfdkddjkhcgdah
