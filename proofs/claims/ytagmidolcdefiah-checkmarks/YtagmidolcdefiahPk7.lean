/- Several texts in one, each with its own head. -/
import Derived.Test.YtagmidolcdefiahPk6
import Derived.Test.YtagmidolcdefiahPk2
import Derived.Maps.Keyed
import Derived.Test.YtagmidolcdefiahPk3
import Derived.Test.YtagmidolcdefiahPk0
import Derived.Laws.Rows
import Derived.Laws.CopyOwn
import Derived.Test.YtagmidolcdefiahPk1
/- The search: what is complete has the best plan; budgets; how many nodes there are. No program is named here. -/
namespace Go.Proofs.Ytagmidolcdefiah
section
variable {s : Sn} {B k : Nat} {b p : List (List Int)} {st : List Bool}
/-- the least cost of a node, of a plan that begins so -/
theorem lsv_le (h : Fs s p) (hb : RM.Beg k b p) (hst : bgn s (k : Int) b = some st) : lsv s k b st ≤ RM.cst s.st s.ws s.cs p := by
  rw [beg_lsv h hb hst]
  exact RM.lst_least h.rz h.fz h.ml h.pc hb
theorem lsv_leaf (hl : lfs s st = []) : lsv s k b st = RM.cst s.st s.ws s.cs b := by
  unfold lsv
  rw [show lfk st s.ws.length = [] from hl]
  simp
/-- the same lists, with the next car -/
theorem beg_next (hb : RM.Beg k b p) (hk : k + 1 < p.length) {l : List Int} (h1 : b[k]? = some l) (h2 : p[k]? = some l) : RM.Beg (k + 1) b p := ⟨hb.len, hk, fun c m m' hm hm' => by
  obtain ⟨l2, e, e1, e2⟩ := hb.pre c m m' hm hm'
  refine ⟨l2, e, fun hc => ?_, fun hc => e2 (by omega)⟩
  by_cases hck : c < k
  · exact e1 hck
  · obtain rfl : c = k := by omega
    rw [h1] at hm
    rw [h2] at hm'
    cases hm
    cases hm'
    exact List.self_eq_append_right.1 e⟩
/-- one want more -/
theorem beg_add (hb : RM.Beg k b p) {l l3 : List Int} {w : Int} (h1 : b[k]? = some l) (h2 : p[k]? = some (l ++ w :: l3)) : RM.Beg k (PM.add b k w) p := ⟨by unfold PM.add; rw [List.length_set]; exact hb.len, hb.lt, fun c m m' hm hm' => by
  have hkb := (List.getElem?_eq_some_iff.1 h1).1
  unfold PM.add at hm
  by_cases e : k = c
  · subst e
    rw [List.getElem?_set_self hkb, h1] at hm
    rw [h2] at hm'
    cases hm
    cases hm'
    exact ⟨l3, by simp, fun h => by omega, fun h => by omega⟩
  · rw [List.getElem?_set_ne e] at hm
    exact hb.pre c m m' hm hm'⟩
theorem beg_same (hb : RM.Beg k b p) (hk : k + 1 = p.length) {l : List Int} (h1 : b[k]? = some l) (h2 : p[k]? = some l) : b = p := by
  refine List.ext_getElem? fun c => ?_
  by_cases hc : c < p.length
  · obtain ⟨m, hm⟩ : ∃ m, b[c]? = some m := ⟨_, List.getElem?_eq_getElem (by have := hb.len; omega)⟩
    obtain ⟨m', hm'⟩ : ∃ m', p[c]? = some m' := ⟨_, List.getElem?_eq_getElem hc⟩
    obtain ⟨l2, e, e1, _⟩ := hb.pre c m m' hm hm'
    by_cases hck : c < k
    · rw [hm, hm', e, e1 hck, List.append_nil]
    · obtain rfl : c = k := by omega
      rw [h1, h2]
  · rw [List.getElem?_eq_none (by have := hb.len; omega), List.getElem?_eq_none (by omega)]
theorem lfk_count (st : List Bool) : ∀ (k : Nat), k ≤ st.length → (lfk st k).length = (st.take k).count false
  | 0, _ => by simp [lfk]
  | k + 1, h => by
    obtain ⟨x, hx⟩ : ∃ x, st[k]? = some x := ⟨_, List.getElem?_eq_getElem (by omega)⟩
    rw [lfk_succ, List.length_append, lfk_count st k (by omega), List.take_add_one, hx, Option.toList_some, List.count_append]
    cases x <;> simp
theorem lfs_length (h : st.length = s.ws.length) : (lfs s st).length = PM.lf st := by
  unfold lfs PM.lf
  rw [lfk_count st _ (by omega), List.take_of_length_le (by omega)]
end
end Go.Proofs.Ytagmidolcdefiah

/- The first plan, and the best of all plans: mathematics. No program is named here. -/
namespace Go.Proofs.Ytagmidolcdefiah
/-- a want's time at the end of a car's list -/
def tend (s : Sn) (p : List (List Int)) (w : Int) (c : Nat) : Int := RM.ar s.st (RM.go s.st (RM.bg (s.cs[c]?.getD (0, 0))) ((p[c]?.getD []).map (RM.wf s.ws))) (RM.wf s.ws w)
/-- the car where a want is served earliest, of the first c cars, and when; -1: none -/
def fcar (s : Sn) (p : List (List Int)) (w : Int) : Nat → Int × Int
  | 0 => (-1, 0)
  | c + 1 => if mayk s c w = true ∧ ((fcar s p w c).1 < 0 ∨ tend s p w c < (fcar s p w c).2) then ((c : Int), tend s p w c) else fcar s p w c
/-- the first plan, as far as the first wants are given away -/
def ffp (s : Sn) : Nat → List (List Int)
  | 0 => List.replicate s.cs.length []
  | w + 1 => PM.add (ffp s w) (fcar s (ffp s w) (w : Int) s.cs.length).1.toNat (w : Int)
section
variable {s : Sn} {p : List (List Int)} {w : Int}
theorem fcar_some : ∀ (n : Nat), ((fcar s p w n).1 < 0 ∧ ∀ c, c < n → mayk s c w = false) ∨ ∃ c : Nat, (fcar s p w n).1 = (c : Int) ∧ c < n ∧ mayk s c w = true
  | 0 => .inl ⟨by show (-1 : Int) < 0; decide, fun c h => by omega⟩
  | n + 1 => by
    unfold fcar
    by_cases h : mayk s n w = true ∧ ((fcar s p w n).1 < 0 ∨ tend s p w n < (fcar s p w n).2)
    · rw [if_pos h]
      exact .inr ⟨n, rfl, by omega, h.1⟩
    · rw [if_neg h]
      rcases fcar_some n with ⟨h1, h2⟩ | ⟨c, h1, h2, h3⟩
      · left
        refine ⟨h1, fun c hc => ?_⟩
        by_cases e : c = n
        · subst e
          cases hm : mayk s c w with
          | false => rfl
          | true => exact absurd ⟨hm, .inl h1⟩ h
        · exact h2 c (by omega)
      · exact .inr ⟨c, h1, by omega, h3⟩
theorem bt_some : ∀ (n m : Nat), 0 < m → m < 2 ^ n → ∃ c, c < n ∧ PM.bt m c = true
  | 0, m, h0, h1 => by simp at h1; omega
  | n + 1, m, h0, h1 => by
    by_cases h : m % 2 = 1
    · exact ⟨0, by omega, by unfold PM.bt; simp [h]⟩
    · have h2 : 2 ^ (n + 1) = 2 * 2 ^ n := by rw [Nat.pow_succ, Nat.mul_comm]
      obtain ⟨c, hc, hb⟩ := bt_some n (m / 2) (by omega) (by omega)
      refine ⟨c + 1, by omega, ?_⟩
      unfold PM.bt at hb ⊢
      rw [Nat.pow_succ, Nat.mul_comm, ← Nat.div_div_eq_div_mul]
      exact hb
/-- each want has a car -/
theorem has_car (hr : rgt s = true) {w : Nat} (hw : w < s.ws.length) : ∃ c, c < s.cs.length ∧ mayk s c (w : Int) = true := by
  obtain ⟨n, hrs⟩ := rgt_rs hr
  obtain ⟨y, hy⟩ : ∃ y, s.ws[w]? = some y := ⟨_, List.getElem?_eq_getElem hw⟩
  obtain ⟨m, hm, hym⟩ := hrs.mm.eq w y hy
  have h0 : 0 < m := by
    have h1 := hr
    unfold rgt at h1
    simp only [Bool.and_eq_true, List.all_eq_true] at h1
    have := (wok_iff'.1 (h1.2 y (List.mem_of_getElem? hy))).2.2.1
    omega
  obtain ⟨c, hc, hb⟩ := bt_some n m h0 (hrs.lt m (List.mem_of_getElem? hm))
  refine ⟨c, by have := hrs.cl; omega, ?_⟩
  unfold mayk
  rw [Int.toNat_natCast, hm]
  exact hb
/-- plans of the first wants -/
structure Pw (s : Sn) (w : Nat) (p : List (List Int)) : Prop where
  len : p.length = s.cs.length
  ok : ∀ (c : Nat) l, p[c]? = some l → ∀ x ∈ l, PM.okx (msk s) c x = true
  cnt : ∀ v : Nat, p.flatten.count (v : Int) = if v < w then 1 else 0
theorem flat_rep (n : Nat) : (List.replicate n ([] : List Int)).flatten = [] := by
  induction n with
  | zero => rfl
  | succ n ih => rw [List.replicate_succ, List.flatten_cons, ih]; rfl
theorem Pw.zero (s : Sn) : Pw s 0 (List.replicate s.cs.length []) := by
  refine ⟨by simp, fun c l hl x hx => ?_, fun v => by rw [flat_rep]; simp⟩
  rw [List.getElem?_replicate] at hl
  split at hl
  · cases hl; simp at hx
  · cases hl
theorem Pw.add {w c : Nat} (h : Pw s w p) (hc : c < s.cs.length) (hw : w < s.ws.length) (hm : mayk s c (w : Int) = true) : Pw s (w + 1) (PM.add p c (w : Int)) := by
  have hcp : c < p.length := by rw [h.len]; exact hc
  have hml := msk_len s
  refine ⟨by unfold PM.add; rw [List.length_set]; exact h.len, fun d l hl x hx => ?_, fun v => ?_⟩
  · unfold PM.add at hl
    by_cases e : c = d
    · subst e
      rw [List.getElem?_set_self hcp] at hl
      cases hl
      rw [List.mem_append, List.mem_singleton, List.getElem?_eq_getElem hcp, Option.getD_some] at hx
      rcases hx with hx | hx
      · exact h.ok c _ (List.getElem?_eq_getElem hcp) x hx
      · rw [hx]; exact PM.okx_iff.2 ⟨by omega, by omega, hm⟩
    · rw [List.getElem?_set_ne e] at hl
      exact h.ok d l hl x hx
  · rw [PM.count_add hcp, h.cnt v]
    by_cases e : w = v
    · subst e; simp
    · rw [if_neg (c := (w : Int) = (v : Int)) (by omega)]
      by_cases h2 : v < w
      · rw [if_pos h2, if_pos (by omega)]
      · rw [if_neg h2, if_neg (by omega)]
theorem Pw.fsb (hr : rgt s = true) (h : Pw s s.ws.length p) : fsb s p = true := by
  have hml := msk_len s
  have hf : PM.feas (msk s) p = true := PM.feas_iff.2 ⟨h.ok, fun w hw => by rw [h.cnt w, if_pos (by omega)]⟩
  unfold Go.Proofs.Ytagmidolcdefiah.fsb
  rw [hr, hf, h.len]
  simp
theorem ffp_pw (hr : rgt s = true) : ∀ w, w ≤ s.ws.length → Pw s w (ffp s w)
  | 0, _ => Pw.zero s
  | w + 1, h => by
    have ih := ffp_pw hr w (by omega)
    rcases fcar_some (s := s) (p := ffp s w) (w := (w : Int)) s.cs.length with ⟨_, h2⟩ | ⟨c, h1, h2, h3⟩
    · obtain ⟨c, hc, hm⟩ := has_car hr (w := w) (by omega)
      rw [h2 c hc] at hm
      cases hm
    · show Pw s (w + 1) (PM.add (ffp s w) (fcar s (ffp s w) (w : Int) s.cs.length).1.toNat (w : Int))
      rw [h1, Int.toNat_natCast]
      exact ih.add h2 (by omega) h3
/-- the first plan may be -/
theorem ffp_fsb (hr : rgt s = true) : fsb s (ffp s s.ws.length) = true := (ffp_pw hr _ (Nat.le_refl _)).fsb hr
/-- the least cost of all plans -/
structure Best (s : Sn) (n : Int) : Prop where
  some : ∃ p, fsb s p = true ∧ RM.cst s.st s.ws s.cs p = n
  least : ∀ p, fsb s p = true → n ≤ RM.cst s.st s.ws s.cs p
theorem Best.one {m n : Int} (h : Best s m) (g : Best s n) : m = n := by
  obtain ⟨p, hp, e⟩ := h.some
  obtain ⟨q, hq, e'⟩ := g.some
  have h1 := h.least q hq
  have h2 := g.least p hp
  omega
/-- where a search begins -/
def root (s : Sn) : Sx := ⟨0, false, ffp s s.ws.length, RM.cst s.st s.ws s.cs (ffp s s.ws.length), []⟩
/-- what a search finds -/
def fnd (s : Sn) (B : Nat) : Sx := vis s B (s.cs.length + s.ws.length) 0 (List.replicate s.cs.length []) (List.replicate s.ws.length false) (root s)
theorem root_bgn (hr : rgt s = true) : bgn s ((0 : Nat) : Int) (List.replicate s.cs.length []) = some (List.replicate s.ws.length false) := by
  obtain ⟨n, hrs⟩ := rgt_rs hr
  have hml := msk_len s
  have hn1 := hrs.n1
  have hcl := hrs.cl
  refine bgn_mk hr (by simp) (by rw [List.length_replicate]; omega) (fun c l hl _ => ?_) (Pw.zero s).ok (by rw [List.length_replicate, hml]) (fun w hw => by rw [PM.nb_rep, flat_rep]; simp)
  rw [List.getElem?_replicate] at hl
  split at hl
  · cases hl; rfl
  · cases hl
theorem root_ok (hr : rgt s = true) (B : Nat) : Sxo s B (root s) := ⟨ffp_fsb hr, rfl, Nat.zero_le _, fun h => by cases h⟩
theorem fnd_ok (hr : rgt s = true) (B : Nat) : Sxo s B (fnd s B) := vis_ok _ _ (root_bgn hr) (root_ok hr B)
theorem root_beg {p : List (List Int)} (hl : p.length = s.cs.length) (h1 : 0 < p.length) : RM.Beg 0 (List.replicate s.cs.length []) p := by
  refine ⟨by simp [hl], h1, fun c l m hc hm => ?_⟩
  rw [List.getElem?_replicate] at hc
  split at hc
  · cases hc; exact ⟨m, by simp, fun h => by omega, fun _ => rfl⟩
  · cases hc
end
end Go.Proofs.Ytagmidolcdefiah

/- Wants that are left, kept in a map. -/
namespace Go.Proofs.Ytagmidolcdefiah
open Go.RowKit Go.ChangeMaps Go.MapKept
/-- a want as a value -/
def wv (y : Int × Int) : Value := .agg #[.int .i64 y.1, .int .i64 y.2]
/-- block mb is a map that holds these wants -/
def MP (W : World) (mb : Nat) (f : Int → Option (Int × Int)) : Prop := ∃ es clock, W.heap[mb]? = some (.map es clock) ∧ (∀ e ∈ es.toList, ∃ k y, e.key = .int .i64 k ∧ e.val = wv y ∧ f k = some y) ∧
  (∀ k y, f k = some y → ∃ e ∈ es.toList, e.key = .int .i64 k) ∧ es.toList.Pairwise fun a b => a.key ≠ b.key
section
variable {W W' : World} {mb : Nat} {f : Int → Option (Int × Int)}
theorem MP.lt (h : MP W mb f) : mb < W.heap.size := by
  obtain ⟨es, clock, hb, _⟩ := h
  exact (Array.getElem?_eq_some_iff.1 hb).1
theorem MP.keep (h : MP W mb f) (hk : W'.heap[mb]? = W.heap[mb]?) : MP W' mb f := by
  obtain ⟨es, clock, hb, h2⟩ := h
  exact ⟨es, clock, hk.trans hb, h2⟩
theorem MP.below' (h : MP W mb f) (hb : Below W.heap.size W W') : MP W' mb f := h.keep (hb.block mb h.lt)
theorem MP.new (W : World) : MP (W.alloc (.map #[] 0)) W.heap.size fun _ => none := ⟨#[], 0, World.alloc_heap_new W _, by simp, by simp, by simp⟩
theorem kp_block {es : Array MapEntry} {clock : Nat} (hb : W.heap[mb]? = some (.map es clock)) (o : Obj) : Kp (fun k => k = mb) W (setBlock W mb o) :=
  ⟨rfl, rfl, rfl, by simp [setBlock], fun _ _ hk => heap_setBlock_other hb o hk⟩
theorem isKey_int (k : Int) : IsKey (.int .i64) (.int .i64 k) := by simp [IsKey]
theorem MP.keys {es : Array MapEntry} (h : ∀ e ∈ es.toList, ∃ k y, e.key = .int .i64 k ∧ e.val = wv y ∧ f k = some y) : ∀ x ∈ es.toList, IsKey (.int .i64) x.key := fun x hx => by
  obtain ⟨k, y, h1, _⟩ := h x hx
  rw [h1]; exact isKey_int k
/-- looking a place up -/
theorem MP.look (h : MP W mb f) (k : Int) : (Instr.lookup 174 (.map (some mb)) (.int .i64 k) true).run Try.prog W = .ok (.tuple #[wv ((f k).getD (0, 0)), .bool (f k).isSome]) W := by
  obtain ⟨es, clock, hb, h1, h2, h3⟩ := h
  rcases findNow_spec (isKey_int k) es.toList 0 (MP.keys h1) with ⟨g1, g2⟩ | ⟨j, e0, g1, g2, g3⟩
  · have hn : f k = none := by
      cases e : f k with
      | none => rfl
      | some y =>
        obtain ⟨e1, he1, he2⟩ := h2 k y e
        exact absurd he2 (g2 e1 he1)
    rw [hn]
    simp [Instr.lookup, run_underlying Try.underlying174, MapKept.run_getObj_map hb, MapKept.run_checkKey Try.underlying3 (isKey_int k), MapKept.run_findKey Try.underlying3 g1, Result.andThen]
    rfl
  · obtain ⟨k', y, a1, a2, a3⟩ := h1 e0 (List.mem_of_getElem? g2)
    rw [a1] at g3
    cases g3
    rw [a3]
    rw [a2] at g1
    simp [Instr.lookup, run_underlying Try.underlying174, MapKept.run_getObj_map hb, MapKept.run_checkKey Try.underlying3 (isKey_int k), MapKept.run_findKey Try.underlying3 g1, Result.andThen]
/-- a place that isn't there is laid -/
theorem MP.lay (h : MP W mb f) {k : Int} (hn : f k = none) (y : Int × Int) : ∃ W', (Instr.mapUpdate 174 (.map (some mb)) (.int .i64 k) (wv y)).run Try.prog W = .ok () W' ∧ MP W' mb (fun j => if j = k then some y else f j) ∧ Kp (fun k => k = mb) W W' := by
  obtain ⟨es, clock, hb, h1, h2, h3⟩ := h
  rcases findNow_spec (isKey_int k) es.toList 0 (MP.keys h1) with ⟨g1, g2⟩ | ⟨j, e0, g1, g2, g3⟩
  · refine ⟨setBlock W mb (.map (es.push ⟨.int .i64 k, wv y, clock⟩) (clock + 1)), ?_, ⟨_, _, heap_setBlock_same hb _, ?_, ?_, ?_⟩, kp_block hb _⟩
    · simp [Instr.mapUpdate, run_underlying Try.underlying174, MapKept.run_getObj_map hb, MapKept.run_checkKey Try.underlying3 (isKey_int k), MapKept.run_findKey Try.underlying3 g1, MapKept.run_setObj_map _ hb, Result.andThen, setBlock]
    · intro e he
      rw [Array.toList_push, List.mem_append, List.mem_singleton] at he
      rcases he with he | rfl
      · obtain ⟨k', y', a1, a2, a3⟩ := h1 e he
        refine ⟨k', y', a1, a2, ?_⟩
        show (if k' = k then some y else f k') = _
        rw [if_neg (fun e1 : k' = k => by rw [e1, hn] at a3; cases a3)]
        exact a3
      · exact ⟨k, y, rfl, rfl, if_pos rfl⟩
    · intro j z hz
      by_cases e : j = k
      · subst e
        exact ⟨⟨.int .i64 j, wv y, clock⟩, by simp, rfl⟩
      · have hz : (if j = k then some y else f j) = some z := hz
        rw [if_neg e] at hz
        obtain ⟨e1, he1, he2⟩ := h2 j z hz
        exact ⟨e1, by simp [he1], he2⟩
    · rw [Array.toList_push, List.pairwise_append]
      refine ⟨h3, by simp, fun a ha b hb2 => ?_⟩
      rw [List.mem_singleton] at hb2
      subst hb2
      exact g2 a ha
  · obtain ⟨k', y', a1, _, a3⟩ := h1 e0 (List.mem_of_getElem? g2)
    rw [a1] at g3
    cases g3
    rw [hn] at a3
    cases a3
theorem erase_ne {α : Type} {R : α → α → Prop} : ∀ {l : List α} {j : Nat} {e0 : α}, l.Pairwise R → (∀ a b, R a b → R b a) → l[j]? = some e0 → ∀ e ∈ l.eraseIdx j, R e0 e
  | [], _, _, _, _, h, _, _ => by simp at h
  | a :: l, 0, e0, hp, _, h, e, he => by
    simp at h
    subst h
    exact (List.pairwise_cons.1 hp).1 e (by simpa using he)
  | a :: l, j + 1, e0, hp, hs, h, e, he => by
    rw [List.eraseIdx_cons_succ, List.mem_cons] at he
    have hj : l[j]? = some e0 := by simpa using h
    rcases he with rfl | he
    · exact hs _ _ ((List.pairwise_cons.1 hp).1 e0 (List.mem_of_getElem? hj))
    · exact erase_ne (List.pairwise_cons.1 hp).2 hs hj e he
theorem mem_erase {α : Type} : ∀ {l : List α} {j : Nat} {e0 e : α}, l[j]? = some e0 → e ∈ l → e ≠ e0 → e ∈ l.eraseIdx j
  | [], _, _, _, h, _, _ => by simp at h
  | a :: l, 0, e0, e, h, he, hne => by
    simp at h
    subst h
    rcases List.mem_cons.1 he with h | h
    · exact absurd h hne
    · simpa using h
  | a :: l, j + 1, e0, e, h, he, hne => by
    have hj : l[j]? = some e0 := by simpa using h
    rw [List.eraseIdx_cons_succ, List.mem_cons]
    rcases List.mem_cons.1 he with h | h
    · exact .inl h
    · exact .inr (mem_erase hj h hne)
/-- a place that is there is taken out -/
theorem MP.drop (h : MP W mb f) {k : Int} {y : Int × Int} (hy : f k = some y) : ∃ W', (∀ ty, (Builtin.delete_ #[174, 3] ty #[.map (some mb), .int .i64 k]).run Try.prog W = .ok (.tuple #[]) W') ∧ MP W' mb (fun j => if j = k then none else f j) ∧ Kp (fun k => k = mb) W W' := by
  obtain ⟨es, clock, hb, h1, h2, h3⟩ := h
  rcases findNow_spec (isKey_int k) es.toList 0 (MP.keys h1) with ⟨g1, g2⟩ | ⟨j, e0, g1, g2, g3⟩
  · obtain ⟨e1, he1, he2⟩ := h2 k y hy
    exact absurd he2 (g2 e1 he1)
  · have hjs : j < es.size := by simpa using (List.getElem?_eq_some_iff.1 g2).1
    have hsub : (es.eraseIdxIfInBounds j).toList = es.toList.eraseIdx j := by
      unfold Array.eraseIdxIfInBounds
      rw [dif_pos hjs]
      simp
    refine ⟨setBlock W mb (.map (es.eraseIdxIfInBounds j) clock), ?_, ⟨_, _, heap_setBlock_same hb _, ?_, ?_, ?_⟩, kp_block hb _⟩
    · intro ty
      rw [Nat.zero_add] at g1
      simp [Builtin.delete_, run_underlying Try.underlying174, MapKept.run_getObj_map hb, MapKept.run_checkKey Try.underlying3 (isKey_int k), MapKept.run_findKey Try.underlying3 g1, MapKept.run_setObj_map _ hb, Result.andThen, setBlock]
    · intro e he
      rw [hsub] at he
      obtain ⟨k', y', a1, a2, a3⟩ := h1 e ((List.eraseIdx_sublist _ _).subset he)
      refine ⟨k', y', a1, a2, ?_⟩
      show (if k' = k then none else f k') = _
      rw [if_neg]
      · exact a3
      · intro e1
        have := erase_ne h3 (fun _ _ h => Ne.symm h) g2 e he
        rw [g3, a1, e1] at this
        exact this rfl
    · intro i z hz
      have hz : (if i = k then none else f i) = some z := hz
      by_cases e : i = k
      · rw [if_pos e] at hz; cases hz
      · rw [if_neg e] at hz
        obtain ⟨e1, he1, he2⟩ := h2 i z hz
        refine ⟨e1, ?_, he2⟩
        rw [hsub]
        refine mem_erase g2 he1 fun e2 => ?_
        rw [e2, g3] at he2
        cases he2
        exact e rfl
    · rw [hsub]
      exact h3.sublist (List.eraseIdx_sublist _ _)
end
end Go.Proofs.Ytagmidolcdefiah

/- A beginning that is made want by want: mathematics. -/
namespace Go.Proofs.Ytagmidolcdefiah
open Go.RowKit
/-- a beginning on its way: where each car is, which wants stand, what they cost -/
structure Bz where
  es : List RM.Sp
  st : List Bool
  co : Int
/-- the wants that stand in lists, each with the car of its list -/
def prp : Nat → List (List Int) → List (Int × Int)
  | _, [] => []
  | c, l :: p => l.map (fun x => ((c : Int), x)) ++ prp (c + 1) p
section
variable (s : Sn) (k : Nat)
/-- one want more -/
def bstep (z : Bz) (q : Int × Int) : Option Bz :=
  match z.es[q.1.toNat]? with
  | none => none
  | some a => if q.1 ≤ (k : Int) ∧ PM.okx (msk s) q.1.toNat q.2 = true ∧ z.st[q.2.toNat]? = some false then
      some ⟨z.es.set q.1.toNat (RM.nx s.st a (RM.wf s.ws q.2)), z.st.set q.2.toNat true, z.co + RM.ar s.st a (RM.wf s.ws q.2)⟩ else none
def bfold (o : Option Bz) (xs : List (Int × Int)) : Option Bz := xs.foldl (fun o q => o.bind fun z => bstep s k z q) o
end
section
variable {s : Sn} {k : Nat}
theorem bfold_nil (o : Option Bz) : bfold s k o [] = o := rfl
theorem bfold_cons (o : Option Bz) (q : Int × Int) (xs : List (Int × Int)) : bfold s k o (q :: xs) = bfold s k (o.bind fun z => bstep s k z q) xs := rfl
theorem bfold_append (o : Option Bz) (xs ys : List (Int × Int)) : bfold s k o (xs ++ ys) = bfold s k (bfold s k o xs) ys := by unfold bfold; rw [List.foldl_append]
theorem bfold_snoc (o : Option Bz) (xs : List (Int × Int)) (q : Int × Int) : bfold s k o (xs ++ [q]) = (bfold s k o xs).bind fun z => bstep s k z q := by rw [bfold_append]; rfl
theorem bfold_none : ∀ (xs : List (Int × Int)), bfold s k none xs = none
  | [] => rfl
  | q :: xs => by rw [bfold_cons]; exact bfold_none xs
theorem bfold_pre {o : Option Bz} {xs ys : List (Int × Int)} (h : xs <+: ys) (hn : bfold s k o xs = none) : bfold s k o ys = none := by
  obtain ⟨zs, rfl⟩ := h
  rw [bfold_append, hn, bfold_none]
theorem bstep_far {z : Bz} {q : Int × Int} (h : (k : Int) < q.1) : bstep s k z q = none := by
  unfold bstep
  split
  · rfl
  · rw [if_neg fun g => by omega]
theorem bfold_far {q : Int × Int} (h : (k : Int) < q.1) : ∀ {xs : List (Int × Int)} (o : Option Bz), q ∈ xs → bfold s k o xs = none
  | [], _, hm => by simp at hm
  | x :: xs, o, hm => by
    rw [bfold_cons]
    rcases List.mem_cons.1 hm with e | hm
    · subst e
      cases o with
      | none => exact bfold_none xs
      | some z => rw [Option.bind_some, bstep_far h]; exact bfold_none xs
    · exact bfold_far h _ hm
theorem prp_mem {q : Int × Int} : ∀ {p : List (List Int)} {c : Nat}, q ∈ prp c p ↔ ∃ (d : Nat) (l : List Int), p[d]? = some l ∧ q.1 = ((c + d : Nat) : Int) ∧ q.2 ∈ l
  | [], c => by simp [prp]
  | l :: p, c => by
    rw [prp, List.mem_append, prp_mem]
    constructor
    · rintro (h | ⟨d, m, h1, h2, h3⟩)
      · obtain ⟨x, hx, rfl⟩ := List.mem_map.1 h
        exact ⟨0, l, rfl, rfl, hx⟩
      · exact ⟨d + 1, m, by simpa using h1, by rw [h2]; omega, h3⟩
    · rintro ⟨d, m, h1, h2, h3⟩
      cases d with
      | zero =>
        cases h1
        left
        exact List.mem_map.2 ⟨q.2, h3, by rw [show ((c : Int)) = q.1 by rw [h2]; simp]⟩
      | succ d => exact .inr ⟨d, m, by simpa using h1, by rw [h2]; omega, h3⟩
/-- the wants of one list -/
theorem bfold_list {c : Nat} (hc : c ≤ k) : ∀ (l : List Int) (z : Bz) (a : RM.Sp), z.es[c]? = some a →
    bfold s k (some z) (l.map fun x => ((c : Int), x)) = (PM.run1 (msk s) c z.st l).map fun st' => ⟨z.es.set c (RM.go s.st a (l.map (RM.wf s.ws))), st', z.co + (RM.tm s.st a (l.map (RM.wf s.ws))).sum⟩
  | [], z, a, ha => by
    obtain ⟨es, st, co⟩ := z
    have e : es.set c a = es := by
      obtain ⟨hi, rfl⟩ := List.getElem?_eq_some_iff.1 ha
      exact List.set_getElem_self hi
    simp only [List.map_nil, bfold_nil, PM.run1, Option.map_some, RM.go, RM.tm, List.sum_nil, Int.add_zero]
    rw [e]
  | x :: l, z, a, ha => by
    rw [List.map_cons, bfold_cons, Option.bind_some]
    have e1 : bstep s k z ((c : Int), x) = if PM.okx (msk s) c x = true ∧ z.st[x.toNat]? = some false then some ⟨z.es.set c (RM.nx s.st a (RM.wf s.ws x)), z.st.set x.toNat true, z.co + RM.ar s.st a (RM.wf s.ws x)⟩ else none := by
      unfold bstep
      simp only [Int.toNat_natCast, ha]
      by_cases h : PM.okx (msk s) c x = true ∧ z.st[x.toNat]? = some false
      · rw [if_pos h, if_pos ⟨by omega, h⟩]
      · rw [if_neg h, if_neg fun g => h g.2]
    rw [e1, PM.run1]
    by_cases h : PM.okx (msk s) c x = true ∧ z.st[x.toNat]? = some false
    · rw [if_pos h, if_pos h, bfold_list hc l _ (RM.nx s.st a (RM.wf s.ws x)) (List.getElem?_set_self (List.getElem?_eq_some_iff.1 ha).1)]
      simp only [List.set_set, List.map_cons, RM.go, RM.tm, List.sum_cons, Int.add_assoc]
    · rw [if_neg h, if_neg h, bfold_none]; rfl
/-- where the cars are behind these lists -/
def asp (s : Sn) : List (Int × Int) → List (List Int) → List RM.Sp
  | r :: cs, l :: p => RM.go s.st (RM.bg r) (l.map (RM.wf s.ws)) :: asp s cs p
  | _, _ => []
theorem asp_get : ∀ {cs : List (Int × Int)} {p : List (List Int)} {c : Nat} {r : Int × Int} {l : List Int}, cs[c]? = some r → p[c]? = some l → (asp s cs p)[c]? = some (RM.go s.st (RM.bg r) (l.map (RM.wf s.ws)))
  | [], _, _, _, _, h, _ => by simp at h
  | _ :: _, [], _, _, _, _, h => by simp at h
  | r :: cs, l :: p, 0, _, _, h1, h2 => by cases h1; cases h2; rfl
  | r :: cs, l :: p, c + 1, _, _, h1, h2 => by
    have := asp_get (cs := cs) (p := p) (c := c) (by simpa using h1) (by simpa using h2)
    simpa [asp] using this
theorem asp_length : ∀ {cs : List (Int × Int)} {p : List (List Int)}, cs.length = p.length → (asp s cs p).length = cs.length
  | [], _, _ => by simp [asp]
  | _ :: _, [], h => by simp at h
  | r :: cs, l :: p, h => by rw [asp, List.length_cons, asp_length (by simpa using h), List.length_cons]
theorem asp_empty : ∀ {cs : List (Int × Int)} {p : List (List Int)}, cs.length = p.length → (∀ l ∈ p, l = []) → asp s cs p = cs.map RM.bg
  | [], _, _, _ => by simp [asp]
  | _ :: _, [], h, _ => by simp at h
  | r :: cs, l :: p, h, he => by
    have h0 : l = [] := he l (by simp)
    subst h0
    rw [asp, asp_empty (by simpa using h) fun l hl => he l (by simp [hl])]; rfl
/-- a plan's wants -/
theorem bfold_plan : ∀ (p : List (List Int)) (c : Nat) (cs : List (Int × Int)) (A : List RM.Sp) (st : List Bool) (co : Int), A.length = c → cs.length = p.length → (∀ (d : Nat) l, p[d]? = some l → k < c + d → l = []) →
    bfold s k (some ⟨A ++ cs.map RM.bg, st, co⟩) (prp c p) = (PM.runs (msk s) c st p).map fun st' => ⟨A ++ asp s cs p, st', co + RM.cst s.st s.ws cs p⟩
  | [], c, cs, A, st, co, _, hl, _ => by
    have : cs = [] := List.eq_nil_of_length_eq_zero (by simpa using hl)
    subst this
    simp [prp, bfold_nil, PM.runs, asp, RM.cst_nil]
  | l :: p, c, [], A, st, co, _, hl, _ => by simp at hl
  | l :: p, c, r :: cs, A, st, co, hA, hl, he => by
    have hl' : cs.length = p.length := by simpa using hl
    have he' : ∀ (d : Nat) m, p[d]? = some m → k < c + 1 + d → m = [] := fun d m hm hk => he (d + 1) m (by simpa using hm) (by omega)
    have ha : (A ++ (r :: cs).map RM.bg)[c]? = some (RM.bg r) := by rw [List.getElem?_append_right (by omega), show c - A.length = 0 by omega]; rfl
    have hset : ∀ b : RM.Sp, (A ++ (r :: cs).map RM.bg).set c b = (A ++ [b]) ++ cs.map RM.bg := fun b => by
      rw [List.set_append, if_neg (by omega), show c - A.length = 0 by omega, List.map_cons, List.set_cons_zero, List.append_assoc]; rfl
    rw [prp, bfold_append, PM.runs]
    have key : bfold s k (some ⟨A ++ (r :: cs).map RM.bg, st, co⟩) (l.map fun x => ((c : Int), x)) = (PM.run1 (msk s) c st l).map fun st' => ⟨(A ++ [RM.go s.st (RM.bg r) (l.map (RM.wf s.ws))]) ++ cs.map RM.bg, st', co + (RM.tm s.st (RM.bg r) (l.map (RM.wf s.ws))).sum⟩ := by
      by_cases hc : c ≤ k
      · rw [bfold_list hc l _ (RM.bg r) ha]
        simp only [hset]
      · have h0 : l = [] := he 0 l rfl (by omega)
        subst h0
        simp only [List.map_nil, bfold_nil, PM.run1, Option.map_some, RM.go, RM.tm, List.sum_nil, Int.add_zero, List.map_cons]
        rw [List.append_assoc]; rfl
    rw [key]
    cases hr : PM.run1 (msk s) c st l with
    | none => rw [Option.map_none, Option.bind_none, bfold_none]; rfl
    | some st' =>
      rw [Option.map_some, Option.bind_some, bfold_plan p (c + 1) cs _ st' _ (by rw [List.length_append, hA]; rfl) hl' he']
      congr 1
      funext st2
      rw [asp, RM.cst_cons, List.append_assoc, Int.add_assoc]; rfl
/-- the beginning that has no lists -/
def bz0 (s : Sn) : Bz := ⟨s.cs.map RM.bg, List.replicate (msk s).length false, 0⟩
/-- what is found behind all lists -/
theorem bfold_bgn {p : List (List Int)} (hr : rgt s = true) (hl : p.length = s.cs.length) (hk : k < p.length) :
    bfold s k (some (bz0 s)) (prp 0 p) = (bgn s (k : Int) p).map fun st => ⟨asp s s.cs p, st, RM.cst s.st s.ws s.cs p⟩ := by
  by_cases he : ∀ (d : Nat) l, p[d]? = some l → k < 0 + d → l = []
  · have := bfold_plan (s := s) (k := k) p 0 s.cs [] (List.replicate (msk s).length false) 0 rfl hl.symm he
    rw [List.nil_append] at this
    unfold bz0
    rw [this]
    have hb : bgn s (k : Int) p = PM.runs (msk s) 0 (List.replicate (msk s).length false) p := by
      unfold bgn
      rw [if_pos]
      simp only [Bool.and_eq_true, decide_eq_true_eq, List.all_eq_true, Int.toNat_natCast]
      refine ⟨⟨⟨⟨hr, hl⟩, by omega⟩, by omega⟩, fun l hm => ?_⟩
      obtain ⟨d, hd⟩ := List.getElem?_of_mem hm
      rw [List.getElem?_drop] at hd
      rw [he _ l hd (by omega)]; rfl
    rw [hb]
    congr 1
    funext st
    rw [Int.zero_add]; rfl
  · have : ∃ (d : Nat) (l : List Int), p[d]? = some l ∧ k < d ∧ l ≠ [] := by
      refine Classical.byContradiction fun hn => he fun d l h1 h2 => ?_
      refine Classical.byContradiction fun h3 => hn ⟨d, l, h1, by omega, h3⟩
    obtain ⟨d, l, h1, h2, h3⟩ := this
    rw [bgn_behind h1 h2 h3, Option.map_none]
    obtain ⟨x, hx⟩ := List.exists_mem_of_ne_nil l h3
    exact bfold_far (q := ((d : Int), x)) (by show (k : Int) < (d : Int); omega) _ (prp_mem.2 ⟨d, l, h1, by simp, hx⟩)
end
end Go.Proofs.Ytagmidolcdefiah

/- Stops in memory. -/
namespace Go.Proofs.Ytagmidolcdefiah
open Go.RowKit
/-- a block that holds a stop -/
def TB (W : World) (b : Nat) (a : RM.Sp) : Prop := W.heap[b]? = some (.cells #[.int .i64 a.fl, .int .i64 a.he, .int .i64 a.le] 86 (0, 0))
section
variable {W W' : World} {b : Nat} {a : RM.Sp}
theorem TB.lt (H : TB W b a) : b < W.heap.size := (Array.getElem?_eq_some_iff.1 H).1
theorem TB.c0 (H : TB W b a) : W.cell? ⟨b, 0, none⟩ = some (.int .i64 a.fl) := by simp [World.cell?, show W.heap[b]? = _ from H]
theorem TB.c1 (H : TB W b a) : W.cell? ⟨b, 1, none⟩ = some (.int .i64 a.he) := by simp [World.cell?, show W.heap[b]? = _ from H]
theorem TB.c2 (H : TB W b a) : W.cell? ⟨b, 2, none⟩ = some (.int .i64 a.le) := by simp [World.cell?, show W.heap[b]? = _ from H]
theorem TB.below' (H : TB W b a) (hb : Below W.heap.size W W') : TB W' b a := (hb.block b H.lt).trans H
theorem TB.kp {G : Nat → Prop} (H : TB W b a) (k : Kp G W W') (hG : ¬ G b) : TB W' b a := (k.block b H.lt hG).trans H
theorem TB.new (W : World) (a : RM.Sp) : TB (W.alloc (.cells #[.int .i64 a.fl, .int .i64 a.he, .int .i64 a.le] 86)) W.heap.size a := World.alloc_heap_new W _
end
theorem infoT : (Try.prog.info? 86).map (·.size) = some 3 := by kernel_rfl
theorem kp_row (b : Nat) (w : World) (cs : Array Value) : Kp (fun k => k = b) w (w.setRow b cs) := by
  have h : Below 0 w (w.setRow b cs) := below_setRow (Below.refl 0 w) (Nat.zero_le _) cs
  exact ⟨h.os, h.tape, h.output, h.size, fun k _ hk => setRow_other w b k cs hk⟩
theorem wpList_storeT {ops : Array Oper} {rest : List Oper} {op : Oper} {a : Act} {w : World} {Q : Exit → Act → World → Prop} (hgd : op.guard = none) (x y : Operand) (ho : op.op = .store 86 x y)
    (b : Nat) {s : RM.Sp} {f h l : Int} (hx : a.eval x = .pointer (some ⟨b, 0, none⟩)) (hy : a.eval y = .agg #[.int .i64 f, .int .i64 h, .int .i64 l]) (hL : TB w b s)
    (hn : ∀ W', Kp (fun k => k = b) w W' → TB W' b ⟨f, h, l⟩ → wpList Try.prog ops Q rest (a.put op.dst undef) W') : wpList Try.prog ops Q (op :: rest) a w :=
  wpList_store_row hgd 86 x y ho b _ hx hy _ _ hL infoT rfl (by simp [Value.oneCell']) (hn _ (kp_row b w _) (setRow_heap w b _ _ _ _ hL))
theorem loadT (w : World) (b : Nat) (a : RM.Sp) (h : TB w b a) : (Instr.loadAt 86 (.pointer (some ⟨b, 0, none⟩))).run Try.prog w = .ok (.agg #[.int .i64 a.fl, .int .i64 a.he, .int .i64 a.le]) w := by
  simp only [Instr.loadAt, Instr.sureAddr, Sem.run_bind, Sem.run_pure, Result.andThen_ok, run_loadVar_row (P := Try.prog) w b 86 86 _ _ _ h Try.underlying86 rfl infoT]
theorem quiet_load23r {C : World → Prop} {K : Act → Prop} {o : Oper} {a : Act} (x : Operand) (b : Nat) (s : St) (ho : o.op = .load 23 x) (hx : a.eval x = .pointer (some ⟨b, 0, none⟩)) (hr : ∀ w, C w → SB w b s)
    (h : K (a.put o.dst (.agg (sv s).toArray))) : o.quiet Try.prog a C K :=
  quiet_val _ (fun w hw => by unfold execOp; simp only [ho, hx, Sem.run_bind, Sem.run_pure, Result.andThen_ok, load23 w b s (hr w hw).range]) h
theorem retT {fn : Func} {t : Tmp} (hf : fn.results = #[.cell t 86]) {tmps : Array Value} {w : World} {b : Nat} {a : RM.Sp} (hp : tmps.getD t undef = .pointer (some ⟨b, 0, none⟩)) (hC : TB w b a) :
    (results fn tmps).run Try.prog w = .ok (.agg #[.int .i64 a.fl, .int .i64 a.he, .int .i64 a.le]) w :=
  results_cell_row hf tmps w b _ _ _ _ hp hC Try.underlying86 rfl infoT
end Go.Proofs.Ytagmidolcdefiah

/- A car's stops, as the program tells them: Begin and Next. -/
namespace Go.Proofs.Ytagmidolcdefiah
open Go.RowKit
set_option maxHeartbeats 1000000 in
theorem begin_any (f a : Int) (w : World) : Calls Try.prog 36 #[.agg #[.int .i64 f, .int .i64 a]] w fun e w' => e = .returned (.agg #[.int .i64 f, .int .i64 (-1), .int .i64 a]) ∧ Below w.heap.size w w' := by
  have HT := Hid.intro' (TB.new (w.alloc (.cells #[.int .i64 f, .int .i64 a] 40)) ⟨0, 0, 0⟩)
  have HB := Hid.intro' (((Below.refl w.heap.size w).alloc (Nat.le_refl _) (.cells #[.int .i64 f, .int .i64 a] 40)).alloc (by simp) (.cells #[.int .i64 0, .int .i64 0, .int .i64 0] 86))
  go_enter Try.func36, Try.ntmps36
  go_wp2_with (refine wpList_storeT rfl _ _ rfl (w.heap.size + 1) rfl rfl (by simpa using HT.out) ?_)
  intro W1 hk1 ht1
  go_wp2
  refine bodyPost_ret (retT Try.results36 rfl ht1) rfl ⟨rfl, hk1.below HB.out (by simp; omega) (fun i hi e => by omega)⟩
/-- where Next begins: the site, the stop, and room for the answer -/
structure Nz (w W : World) (s : St) (fl he le : Int) : Prop where
  sb : SB W w.heap.size s
  tb : TB W (w.heap.size + 1) ⟨fl, he, le⟩
  rb : TB W (w.heap.size + 1 + 1) ⟨0, 0, 0⟩
  bel : Below w.heap.size w W
theorem Nz.new (w : World) (s : St) (fl he le : Int) : Nz w (((w.alloc (.cells (sv s).toArray 23)).alloc (.cells #[.int .i64 fl, .int .i64 he, .int .i64 le] 86)).alloc (.cells #[.int .i64 0, .int .i64 0, .int .i64 0] 86)) s fl he le := by
  have b1 := (((Below.refl (w.heap.size + 1) (w.alloc (.cells (sv s).toArray 23))).alloc (by simp) (.cells #[.int .i64 fl, .int .i64 he, .int .i64 le] 86))).alloc (by simp) (.cells #[.int .i64 0, .int .i64 0, .int .i64 0] 86)
  have b2 := (Below.refl (w.heap.size + 2) ((w.alloc (.cells (sv s).toArray 23)).alloc (.cells #[.int .i64 fl, .int .i64 he, .int .i64 le] 86))).alloc (by simp) (.cells #[.int .i64 0, .int .i64 0, .int .i64 0] 86)
  have h2 := (TB.new (w.alloc (.cells (sv s).toArray 23)) ⟨fl, he, le⟩).below' (by simpa using b2)
  have h3 := TB.new ((w.alloc (.cells (sv s).toArray 23)).alloc (.cells #[.int .i64 fl, .int .i64 he, .int .i64 le] 86)) ⟨0, 0, 0⟩
  simp only [World.size_alloc] at h2 h3
  exact ⟨(SB.new w s).below' (by simpa using b1), h2, h3, (((Below.refl w.heap.size w).alloc (Nat.le_refl _) _).alloc (by simp) _).alloc (by simp; omega) _⟩
theorem Nz.next {w W W' : World} {s : St} {fl he le : Int} (h : Nz w W s fl he le) (hb : Below W.heap.size W W') : Nz w W' s fl he le := ⟨h.sb.below' hb, h.tb.below' hb, h.rb.below' hb, below_class h.bel hb⟩
set_option maxHeartbeats 2000000 in
theorem next_same (s : St) (f he le : Int) (hh : he ≠ -1) (w : World) : Calls Try.prog 66 #[.agg (sv s).toArray, .agg #[.int .i64 f, .int .i64 he, .int .i64 le], .int .i64 f] w fun e w' => e = .returned (.agg #[.int .i64 f, .int .i64 he, .int .i64 le]) ∧ Below w.heap.size w w' := by
  have HZ := Hid.intro' (Nz.new w s f he le)
  have c0 := HZ.out.tb.c0
  have c1 := HZ.out.tb.c1
  have c2 := HZ.out.tb.c2
  have q1 : (he != -1) = true := by simpa using hh
  clear hh
  go_enter Try.func66, Try.ntmps66
  go_wp2_with (refine wpList_storeT rfl _ _ rfl (w.heap.size + 1 + 1) rfl rfl HZ.out.rb ?_)
  intro W1 hk1 ht1
  have HK := Hid.intro' (And.intro hk1 ht1)
  clear hk1 ht1 c0 c1 c2
  go_wp2
  exact bodyPost_ret (retT Try.results66 rfl HK.out.2) rfl ⟨rfl, HK.out.1.below HZ.out.bel HZ.out.bel.size (fun i hi e => by omega)⟩
set_option maxHeartbeats 2000000 in
theorem next_first (s : St) (fl le f tr T L : Int) (HTV : Hid (∀ w', Calls Try.prog 76 #[.agg (sv s).toArray, .int .i64 fl, .int .i64 f] w' fun e w'' => e = .returned (.int .i64 tr) ∧ Below w'.heap.size w' w'')) (HAD : Hid (∀ w', Calls Try.prog 68 #[.int .i64 le, .int .i64 tr] w' fun e w'' => e = .returned (.int .i64 T) ∧ Below w'.heap.size w' w'')) (HSU : Hid (∀ (W : World) n, W.heap[n]? = some (.cells #[.int .i64 T, .int .i64 s.opn, .int .i64 s.wai, .int .i64 s.clo, .int .i64 2] 3) → Calls Try.prog 39 #[.slice (some ⟨n, 0, none⟩) 5 5] W fun e w' => e = .returned (.int .i64 L) ∧ w' = W)) (w : World) : Calls Try.prog 66 #[.agg (sv s).toArray, .agg #[.int .i64 fl, .int .i64 (-1), .int .i64 le], .int .i64 f] w fun e w' => e = .returned (.agg #[.int .i64 f, .int .i64 T, .int .i64 L]) ∧ Below w.heap.size w w' := by
  have HZ := Hid.intro' (Nz.new w s fl (-1) le)
  have c0 := HZ.out.tb.c0
  have c1 := HZ.out.tb.c1
  go_enter Try.func66, Try.ntmps66
  go_wp2_with fail
  clear c0 c1
  generalize (((w.alloc (.cells (sv s).toArray 23)).alloc (.cells #[.int .i64 fl, .int .i64 (-1), .int .i64 le] 86)).alloc (.cells #[.int .i64 0, .int .i64 0, .int .i64 0] 86)) = W1 at HZ ⊢
  have HA0 : Hid (∀ w', Below W1.heap.size W1 w' → w'.cell? ⟨w.heap.size + 1, 0, none⟩ = some (.int .i64 fl)) := fun w' hw => (HZ.out.next hw).tb.c0
  have HA2 : Hid (∀ w', Below W1.heap.size W1 w' → w'.cell? ⟨w.heap.size + 1, 2, none⟩ = some (.int .i64 le)) := fun w' hw => (HZ.out.next hw).tb.c2
  have HSB : Hid (∀ w', Below W1.heap.size W1 w' → SB w' w.heap.size s) := fun w' hw => (HZ.out.next hw).sb
  have HTW : Hid (∀ w', Below W1.heap.size W1 w' → Calls Try.prog 76 #[.agg (sv s).toArray, .int .i64 fl, .int .i64 f] w' fun e w'' => e = .returned (.int .i64 tr) ∧ Below w'.heap.size w' w'') := fun w' _ => HTV.out w'
  have HAW : Hid (∀ w', Below W1.heap.size W1 w' → Calls Try.prog 68 #[.int .i64 le, .int .i64 tr] w' fun e w'' => e = .returned (.int .i64 T) ∧ Below w'.heap.size w' w'') := fun w' _ => HAD.out w'
  refine wp_region_quiet (C := fun w' => Below W1.heap.size W1 w') (by kernel_rfl) (by kernel_rfl) ((Below.refl _ _).drew) ?_
  simp only []
  unfold wpQuiet
  generalize hK : wpQuiet Try.prog _ _ _ _ = K
  go_simp
  refine ⟨_, fun _ _ => rfl, ?_⟩
  subst hK
  unfold wpQuiet
  generalize hK : wpQuiet Try.prog _ _ _ _ = K
  rw [if_pos (by go_simp)]
  refine quiet_load3 _ _ _ rfl rfl HA2.out ?_
  go_simp
  subst hK
  unfold wpQuiet
  generalize hK : wpQuiet Try.prog _ _ _ _ = K
  rw [if_pos (by go_simp)]
  refine quiet_load23r _ w.heap.size s rfl rfl HSB.out ?_
  go_simp
  subst hK
  unfold wpQuiet
  generalize hK : wpQuiet Try.prog _ _ _ _ = K
  go_simp
  refine ⟨_, fun _ _ => rfl, ?_⟩
  subst hK
  unfold wpQuiet
  generalize hK : wpQuiet Try.prog _ _ _ _ = K
  rw [if_pos (by go_simp)]
  refine quiet_load3 _ _ _ rfl rfl HA0.out ?_
  go_simp
  subst hK
  unfold wpQuiet
  generalize hK : wpQuiet Try.prog _ _ _ _ = K
  go_simp
  refine ⟨_, fun _ _ => rfl, ?_⟩
  subst hK
  unfold wpQuiet
  generalize hK : wpQuiet Try.prog _ _ _ _ = K
  go_simp
  refine ⟨_, fun w' hw => (HTW.out w' hw).mono fun e w'' hh => ⟨hh.1, below_class hw hh.2⟩, ?_⟩
  subst hK
  unfold wpQuiet
  generalize hK : wpQuiet Try.prog _ _ _ _ = K
  go_simp
  refine ⟨_, fun w' hw => (HAW.out w' hw).mono fun e w'' hh => ⟨hh.1, below_class hw hh.2⟩, ?_⟩
  subst hK
  unfold wpQuiet
  generalize hK : wpQuiet Try.prog _ _ _ _ = K
  go_simp
  refine ⟨_, fun _ _ => rfl, ?_⟩
  subst hK
  refine wpQuiet_nil ?_
  intro W2 hb2
  have HZ2 := Hid.intro' (HZ.out.next hb2)
  have s5 : W2.cell? ⟨w.heap.size, 5, none⟩ = some (.int .i64 s.opn) := HZ2.out.sb.cell 5
  have s6 : W2.cell? ⟨w.heap.size, 6, none⟩ = some (.int .i64 s.wai) := HZ2.out.sb.cell 6
  have s7 : W2.cell? ⟨w.heap.size, 7, none⟩ = some (.int .i64 s.clo) := HZ2.out.sb.cell 7
  have HRB := Hid.intro' ((HZ2.out.next ((Below.refl W2.heap.size W2).alloc (Nat.le_refl _) (.cells #[.int .i64 T, .int .i64 s.opn, .int .i64 s.wai, .int .i64 s.clo, .int .i64 2] 3))))
  clear hb2 HA0 HA2 HSB HTV HAD HZ HZ2 HTW HAW
  go_wp2_with (first | (go_at_call 39; refine (HSU.out _ _ (new_at _ _ _ rfl)).mono ?_; rintro e w' ⟨rfl, rfl⟩) | (refine wpList_storeT rfl _ _ rfl (w.heap.size + 1 + 1) rfl rfl HRB.out.rb ?_))
  intro W3 hk3 ht3
  have HK := Hid.intro' (And.intro hk3 ht3)
  clear hk3 ht3 s5 s6 s7
  go_wp2
  exact bodyPost_ret (retT Try.results66 rfl HK.out.2) rfl ⟨rfl, HK.out.1.below HRB.out.bel HRB.out.bel.size (fun i hi e => by omega)⟩
set_option maxHeartbeats 2000000 in
theorem next_far (s : St) (fl he le f tr T L : Int) (q1 : (he != -1) = true) (q2 : (fl == f) = false) (HTV : Hid (∀ w', Calls Try.prog 76 #[.agg (sv s).toArray, .int .i64 fl, .int .i64 f] w' fun e w'' => e = .returned (.int .i64 tr) ∧ Below w'.heap.size w' w'')) (HAD : Hid (∀ w', Calls Try.prog 68 #[.int .i64 le, .int .i64 tr] w' fun e w'' => e = .returned (.int .i64 T) ∧ Below w'.heap.size w' w'')) (HSU : Hid (∀ (W : World) n, W.heap[n]? = some (.cells #[.int .i64 T, .int .i64 s.opn, .int .i64 s.wai, .int .i64 s.clo, .int .i64 2] 3) → Calls Try.prog 39 #[.slice (some ⟨n, 0, none⟩) 5 5] W fun e w' => e = .returned (.int .i64 L) ∧ w' = W)) (w : World) : Calls Try.prog 66 #[.agg (sv s).toArray, .agg #[.int .i64 fl, .int .i64 he, .int .i64 le], .int .i64 f] w fun e w' => e = .returned (.agg #[.int .i64 f, .int .i64 T, .int .i64 L]) ∧ Below w.heap.size w w' := by
  have HZ := Hid.intro' (Nz.new w s fl he le)
  have c0 := HZ.out.tb.c0
  have c1 := HZ.out.tb.c1
  go_enter Try.func66, Try.ntmps66
  go_wp2_with fail
  clear c0 c1
  generalize (((w.alloc (.cells (sv s).toArray 23)).alloc (.cells #[.int .i64 fl, .int .i64 he, .int .i64 le] 86)).alloc (.cells #[.int .i64 0, .int .i64 0, .int .i64 0] 86)) = W1 at HZ ⊢
  have HA0 : Hid (∀ w', Below W1.heap.size W1 w' → w'.cell? ⟨w.heap.size + 1, 0, none⟩ = some (.int .i64 fl)) := fun w' hw => (HZ.out.next hw).tb.c0
  have HA2 : Hid (∀ w', Below W1.heap.size W1 w' → w'.cell? ⟨w.heap.size + 1, 2, none⟩ = some (.int .i64 le)) := fun w' hw => (HZ.out.next hw).tb.c2
  have HSB : Hid (∀ w', Below W1.heap.size W1 w' → SB w' w.heap.size s) := fun w' hw => (HZ.out.next hw).sb
  have HTW : Hid (∀ w', Below W1.heap.size W1 w' → Calls Try.prog 76 #[.agg (sv s).toArray, .int .i64 fl, .int .i64 f] w' fun e w'' => e = .returned (.int .i64 tr) ∧ Below w'.heap.size w' w'') := fun w' _ => HTV.out w'
  have HAW : Hid (∀ w', Below W1.heap.size W1 w' → Calls Try.prog 68 #[.int .i64 le, .int .i64 tr] w' fun e w'' => e = .returned (.int .i64 T) ∧ Below w'.heap.size w' w'') := fun w' _ => HAD.out w'
  refine wp_region_quiet (C := fun w' => Below W1.heap.size W1 w') (by kernel_rfl) (by kernel_rfl) ((Below.refl _ _).drew) ?_
  simp only []
  unfold wpQuiet
  generalize hK : wpQuiet Try.prog _ _ _ _ = K
  go_simp
  refine ⟨_, fun _ _ => rfl, ?_⟩
  subst hK
  unfold wpQuiet
  generalize hK : wpQuiet Try.prog _ _ _ _ = K
  rw [if_pos (by go_simp)]
  refine quiet_load3 _ _ _ rfl rfl HA2.out ?_
  go_simp
  subst hK
  unfold wpQuiet
  generalize hK : wpQuiet Try.prog _ _ _ _ = K
  rw [if_pos (by go_simp)]
  refine quiet_load23r _ w.heap.size s rfl rfl HSB.out ?_
  go_simp
  subst hK
  unfold wpQuiet
  generalize hK : wpQuiet Try.prog _ _ _ _ = K
  go_simp
  refine ⟨_, fun _ _ => rfl, ?_⟩
  subst hK
  unfold wpQuiet
  generalize hK : wpQuiet Try.prog _ _ _ _ = K
  rw [if_pos (by go_simp)]
  refine quiet_load3 _ _ _ rfl rfl HA0.out ?_
  go_simp
  subst hK
  unfold wpQuiet
  generalize hK : wpQuiet Try.prog _ _ _ _ = K
  go_simp
  refine ⟨_, fun _ _ => rfl, ?_⟩
  subst hK
  unfold wpQuiet
  generalize hK : wpQuiet Try.prog _ _ _ _ = K
  go_simp
  refine ⟨_, fun w' hw => (HTW.out w' hw).mono fun e w'' hh => ⟨hh.1, below_class hw hh.2⟩, ?_⟩
  subst hK
  unfold wpQuiet
  generalize hK : wpQuiet Try.prog _ _ _ _ = K
  go_simp
  refine ⟨_, fun w' hw => (HAW.out w' hw).mono fun e w'' hh => ⟨hh.1, below_class hw hh.2⟩, ?_⟩
  subst hK
  unfold wpQuiet
  generalize hK : wpQuiet Try.prog _ _ _ _ = K
  go_simp
  refine ⟨_, fun _ _ => rfl, ?_⟩
  subst hK
  refine wpQuiet_nil ?_
  intro W2 hb2
  have HZ2 := Hid.intro' (HZ.out.next hb2)
  have s5 : W2.cell? ⟨w.heap.size, 5, none⟩ = some (.int .i64 s.opn) := HZ2.out.sb.cell 5
  have s6 : W2.cell? ⟨w.heap.size, 6, none⟩ = some (.int .i64 s.wai) := HZ2.out.sb.cell 6
  have s7 : W2.cell? ⟨w.heap.size, 7, none⟩ = some (.int .i64 s.clo) := HZ2.out.sb.cell 7
  have HRB := Hid.intro' ((HZ2.out.next ((Below.refl W2.heap.size W2).alloc (Nat.le_refl _) (.cells #[.int .i64 T, .int .i64 s.opn, .int .i64 s.wai, .int .i64 s.clo, .int .i64 2] 3))))
  clear hb2 HA0 HA2 HSB HTV HAD HZ HZ2 HTW HAW
  go_wp2_with (first | (go_at_call 39; refine (HSU.out _ _ (new_at _ _ _ rfl)).mono ?_; rintro e w' ⟨rfl, rfl⟩) | (refine wpList_storeT rfl _ _ rfl (w.heap.size + 1 + 1) rfl rfl HRB.out.rb ?_))
  intro W3 hk3 ht3
  have HK := Hid.intro' (And.intro hk3 ht3)
  clear hk3 ht3 s5 s6 s7
  go_wp2
  exact bodyPost_ret (retT Try.results66 rfl HK.out.2) rfl ⟨rfl, HK.out.1.below HRB.out.bel HRB.out.bel.size (fun i hi e => by omega)⟩
theorem next_new (s : St) (r : SM.Rt s) (fl he le f : Int) (hh : he = -1 ∨ fl ≠ f) (h0 : 0 ≤ le) (h1 : le ≤ 100000000) (w : World) : Calls Try.prog 66 #[.agg (sv s).toArray, .agg #[.int .i64 fl, .int .i64 he, .int .i64 le], .int .i64 f] w fun e w' => e = .returned (.agg #[.int .i64 f, .int .i64 (le + SM.trav s fl f), .int .i64 (le + SM.trav s fl f + RM.dw s)]) ∧ Below w.heap.size w w' := by
  have ht := SM.trav_bd r fl f
  have g1 : ∀ w', Calls Try.prog 76 #[.agg (sv s).toArray, .int .i64 fl, .int .i64 f] w' fun e w'' => e = .returned (.int .i64 (SM.trav s fl f)) ∧ Below w'.heap.size w' w'' := fun w' => travel_any s r fl f w'
  generalize SM.trav s fl f = tr at ht g1 ⊢
  have g2 : ∀ w', Calls Try.prog 68 #[.int .i64 le, .int .i64 tr] w' fun e w'' => e = .returned (.int .i64 (le + tr)) ∧ Below w'.heap.size w' w'' := fun w' => (add_any le tr w').mono fun e w'' hh => by
    obtain ⟨he, rfl⟩ := hh
    refine ⟨?_, Below.refl _ _⟩
    rw [he, SM.addC h0 ht.1 (by omega)]
  generalize hT : le + tr = T at g2 ⊢
  have hs : NumM.sumL [T, s.opn, s.wai, s.clo, 2] = T + RM.dw s := by
    have := r.opn1; have := r.opn2; have := r.wai1; have := r.wai2; have := r.clo1; have := r.clo2
    rw [show [T, s.opn, s.wai, s.clo, 2] = [T, s.opn, s.wai, s.clo] ++ [2] from rfl, NumM.sumL_snoc, SM.sumL4 (by omega) (by omega) (by omega) (by omega) (by omega), SM.addC (by omega) (by omega) (by omega)]
    unfold RM.dw; omega
  have g3 : ∀ (W : World) n, W.heap[n]? = some (.cells #[.int .i64 T, .int .i64 s.opn, .int .i64 s.wai, .int .i64 s.clo, .int .i64 2] 3) → Calls Try.prog 39 #[.slice (some ⟨n, 0, none⟩) 5 5] W fun e w' => e = .returned (.int .i64 (T + RM.dw s)) ∧ w' = W := fun W n hn => by
    rw [← hs]
    exact sum_row W n [T, s.opn, s.wai, s.clo, 2] 5 5 rfl (by omega) hn
  by_cases e : he = -1
  · subst e
    exact next_first s fl le f tr T _ g1 g2 g3 w
  · exact next_far s fl he le f tr T _ (by simpa using e) (by simpa using hh.resolve_left e) g1 g2 g3 w
theorem next_any (s : St) (r : SM.Rt s) (a : RM.Sp) (ok : RM.Ok s a) (hle : a.le ≤ 100000000) (f : Int) (_h0 : 0 ≤ f) (_h1 : f < s.fl) (w : World) : Calls Try.prog 66 #[.agg (sv s).toArray, .agg #[.int .i64 a.fl, .int .i64 a.he, .int .i64 a.le], .int .i64 f] w fun e w' => e = .returned (.agg #[.int .i64 f, .int .i64 (RM.ar s a f), .int .i64 (RM.ar s a f + RM.dw s)]) ∧ Below w.heap.size w w' := by
  by_cases h : a.he ≠ -1 ∧ a.fl = f
  · have e1 : RM.ar s a f = a.he := by unfold RM.ar; rw [if_pos h]
    have e2 : a.he + RM.dw s = a.le := ((ok.hh.resolve_left h.1).2).symm
    rw [e1, e2, ← h.2]
    exact next_same s a.fl a.he a.le h.1 w
  · have e1 : RM.ar s a f = a.le + SM.trav s a.fl f := by unfold RM.ar; rw [if_neg h]
    rw [e1]
    refine next_new s r a.fl a.he a.le f ?_ ok.l0 hle w
    by_cases e : a.he = -1
    · exact .inl e
    · exact .inr fun g => h ⟨e, g⟩
end Go.Proofs.Ytagmidolcdefiah

/- A beginning on its way, in memory. -/
namespace Go.Proofs.Ytagmidolcdefiah
open Go.RowKit
/-- the cells of a beginning -/
def bc (s : St) (vc vw : Value) (eb n mb : Nat) (co : Int) : List Value := nv s vc vw ++ [.slice (some ⟨eb, 0, none⟩) n n, .map (some mb), .int .i64 co]
/-- the cells of a row of stops -/
def tcs : List RM.Sp → List Value
  | [] => []
  | a :: l => .int .i64 a.fl :: .int .i64 a.he :: .int .i64 a.le :: tcs l
theorem tcs_length : ∀ (l : List RM.Sp), (tcs l).length = 3 * l.length
  | [] => rfl
  | a :: l => by rw [tcs, List.length_cons, List.length_cons, List.length_cons, tcs_length l, List.length_cons]; omega
theorem tcs_get : ∀ {l : List RM.Sp} {j : Nat} {a : RM.Sp}, l[j]? = some a → (tcs l)[j * 3]? = some (.int .i64 a.fl) ∧ (tcs l)[j * 3 + 1]? = some (.int .i64 a.he) ∧ (tcs l)[j * 3 + 2]? = some (.int .i64 a.le)
  | [], _, _, h => by simp at h
  | a :: l, 0, _, h => by cases h; exact ⟨rfl, rfl, rfl⟩
  | b :: l, j + 1, a, h => by
    have := tcs_get (l := l) (j := j) (a := a) (by simpa using h)
    rw [show (j + 1) * 3 = j * 3 + 1 + 1 + 1 by omega]
    exact this
theorem tcs_set : ∀ (l : List RM.Sp) (j : Nat) (a : RM.Sp), (((tcs l).set (j * 3) (.int .i64 a.fl)).set (j * 3 + 1) (.int .i64 a.he)).set (j * 3 + 2) (.int .i64 a.le) = tcs (l.set j a)
  | [], _, _ => rfl
  | b :: l, 0, a => rfl
  | b :: l, j + 1, a => by
    have := tcs_set l j a
    rw [show (j + 1) * 3 = j * 3 + 1 + 1 + 1 by omega, List.set_cons_succ, tcs, tcs, ← this]; rfl
/-- a beginning: its block b, its stops eb, its wants mb -/
structure Bg (W : World) (b eb mb : Nat) (s : St) (vc vw : Value) (es : List RM.Sp) (f : Int → Option (Int × Int)) (co : Int) : Prop where
  hb : W.heap[b]? = some (.cells (bc s vc vw eb es.length mb co).toArray 176 (0, 0))
  he : W.heap[eb]? = some (.cells (tcs es).toArray 86 (0, 0))
  hm : MP W mb f
  n1 : b ≠ eb
  n2 : b ≠ mb
  n3 : eb ≠ mb
/-- its blocks -/
def bp (b eb mb k : Nat) : Prop := k = b ∨ k = eb ∨ k = mb
section
variable {W W' : World} {b eb mb : Nat} {s : St} {vc vw : Value} {es : List RM.Sp} {f : Int → Option (Int × Int)} {co : Int}
theorem Bg.lb (h : Bg W b eb mb s vc vw es f co) : b < W.heap.size := (Array.getElem?_eq_some_iff.1 h.hb).1
theorem Bg.le (h : Bg W b eb mb s vc vw es f co) : eb < W.heap.size := (Array.getElem?_eq_some_iff.1 h.he).1
theorem Bg.lt (h : Bg W b eb mb s vc vw es f co) : ∀ k, bp b eb mb k → k < W.heap.size := fun k hk => by
  rcases hk with rfl | rfl | rfl
  · exact h.lb
  · exact h.le
  · exact h.hm.lt
theorem Bg.keep (h : Bg W b eb mb s vc vw es f co) (hk : ∀ k, bp b eb mb k → W'.heap[k]? = W.heap[k]?) : Bg W' b eb mb s vc vw es f co :=
  ⟨(hk b (.inl rfl)).trans h.hb, (hk eb (.inr (.inl rfl))).trans h.he, h.hm.keep (hk mb (.inr (.inr rfl))), h.n1, h.n2, h.n3⟩
theorem Bg.below' (h : Bg W b eb mb s vc vw es f co) (hb : Below W.heap.size W W') : Bg W' b eb mb s vc vw es f co := h.keep fun k hk => hb.block k (h.lt k hk)
theorem Bg.drew (h : Bg W b eb mb s vc vw es f co) : Bg W.drew b eb mb s vc vw es f co := h.below' (Below.refl _ _).drew
theorem Bg.cell (h : Bg W b eb mb s vc vw es f co) (i : Nat) : W.cell? ⟨b, i, none⟩ = (bc s vc vw eb es.length mb co)[i]? := blk_cell h.hb i
theorem Bg.c14 (h : Bg W b eb mb s vc vw es f co) : W.cell? ⟨b, 14, none⟩ = some vw := h.cell 14
theorem Bg.c15 (h : Bg W b eb mb s vc vw es f co) : W.cell? ⟨b, 15, none⟩ = some (.slice (some ⟨eb, 0, none⟩) es.length es.length) := h.cell 15
theorem Bg.c16 (h : Bg W b eb mb s vc vw es f co) : W.cell? ⟨b, 16, none⟩ = some (.map (some mb)) := h.cell 16
theorem Bg.c17 (h : Bg W b eb mb s vc vw es f co) : W.cell? ⟨b, 17, none⟩ = some (.int .i64 co) := h.cell 17
theorem Bg.fr (h : Bg W b eb mb s vc vw es f co) (i : Nat) : W.frozen? ⟨b, i, none⟩ = false := blk_fr h.hb i
theorem Bg.site (h : Bg W b eb mb s vc vw es f co) : W.rangeAt b 0 (sv s) := fun j v hv => by
  rw [Nat.zero_add, h.cell, ← hv]
  have hj : j < 13 := by have := (List.getElem?_eq_some_iff.1 hv).1; rwa [sv_length] at this
  show (sv s ++ [vc, vw, _, _, _])[j]? = _
  rw [List.getElem?_append_left (by rw [sv_length]; exact hj)]
theorem Bg.stop (h : Bg W b eb mb s vc vw es f co) {j : Nat} {a : RM.Sp} (hj : es[j]? = some a) : W.rangeAt eb (j * 3) [.int .i64 a.fl, .int .i64 a.he, .int .i64 a.le] := fun i v hv => by
  rw [blk_cell h.he]
  obtain ⟨h0, h1, h2⟩ := tcs_get hj
  match i, hv with
  | 0, hv => cases hv; exact h0
  | 1, hv => cases hv; exact h1
  | 2, hv => cases hv; exact h2
  | i + 3, hv => simp at hv
/-- the cost is written -/
theorem Bg.put17 (h : Bg W b eb mb s vc vw es f co) (n : Int) : Bg (W.setCell ⟨b, 17, none⟩ (.int .i64 n)) b eb mb s vc vw es f n := by
  have hk : Kp (fun k => k = b) W (W.setCell ⟨b, 17, none⟩ (.int .i64 n)) := (Kp.refl _ W).set _ _ _ (fun _ => rfl)
  exact ⟨blk_set h.hb 17 _, (hk.block eb h.le (fun e => h.n1 e.symm)).trans h.he, h.hm.keep (hk.block mb h.hm.lt (fun e => h.n2 e.symm)), h.n1, h.n2, h.n3⟩
/-- a stop is written -/
theorem Bg.there (h : Bg W b eb mb s vc vw es f co) {j : Nat} {a : RM.Sp} (hj : es[j]? = some a) : W.there eb (j * 3) 3 := fun i hi => by
  refine ⟨?_, blk_fr h.he _⟩
  have := h.stop hj
  match i, hi with
  | 0, _ => rw [this 0 _ rfl]; rfl
  | 1, _ => rw [this 1 _ rfl]; rfl
  | 2, _ => rw [this 2 _ rfl]; rfl
theorem Bg.put (h : Bg W b eb mb s vc vw es f co) {j : Nat} (a : RM.Sp) : Bg (W.setCells eb (j * 3) [.int .i64 a.fl, .int .i64 a.he, .int .i64 a.le]) b eb mb s vc vw (es.set j a) f co ∧ Kp (fun k => k = eb) W (W.setCells eb (j * 3) [.int .i64 a.fl, .int .i64 a.he, .int .i64 a.le]) := by
  have e : W.setCells eb (j * 3) [.int .i64 a.fl, .int .i64 a.he, .int .i64 a.le] = ((W.setCell ⟨eb, j * 3, none⟩ (.int .i64 a.fl)).setCell ⟨eb, j * 3 + 1, none⟩ (.int .i64 a.he)).setCell ⟨eb, j * 3 + 2, none⟩ (.int .i64 a.le) := by
    rfl
  rw [e]
  have hk : Kp (fun k => k = eb) W (((W.setCell ⟨eb, j * 3, none⟩ (.int .i64 a.fl)).setCell ⟨eb, j * 3 + 1, none⟩ (.int .i64 a.he)).setCell ⟨eb, j * 3 + 2, none⟩ (.int .i64 a.le)) := (((Kp.refl (fun k => k = eb) W).set eb _ _ (fun _ => rfl)).set eb _ _ (fun _ => rfl)).set eb _ _ (fun _ => rfl)
  refine ⟨⟨?_, ?_, h.hm.keep (hk.block mb h.hm.lt (fun e => h.n3 e.symm)), h.n1, h.n2, h.n3⟩, hk⟩
  · rw [List.length_set]
    exact (hk.block b h.lb h.n1).trans h.hb
  · have := blk_set (blk_set (blk_set h.he (j * 3) (.int .i64 a.fl)) (j * 3 + 1) (.int .i64 a.he)) (j * 3 + 2) (.int .i64 a.le)
    rw [tcs_set] at this
    exact this
end
/- steps -/
theorem ixE (W : World) {g n cap j : Nat} (hj : j < n) : (Instr.indexAt 84 (.slice (some ⟨g, 0, none⟩) n cap) (.int .i64 (j : Int))).run Try.prog W = .ok (.pointer (some ⟨g, j * 3, none⟩)) W := by
  rw [run_indexAt_slice W 84 _ n cap .i64 j (by kernel_rfl), if_pos ⟨by omega, by omega⟩, show Try.prog.elem 84 = 86 by kernel_rfl, Try.sizeOf86]
  simp only [Result.andThen_ok, Int.toNat_natCast, Addr.add_mid, Nat.zero_add]
theorem loadE (w : World) (b o : Nat) (a : RM.Sp) (h : w.rangeAt b o [.int .i64 a.fl, .int .i64 a.he, .int .i64 a.le]) :
    (Instr.loadAt 86 (.pointer (some ⟨b, o, none⟩))).run Try.prog w = .ok (.agg #[.int .i64 a.fl, .int .i64 a.he, .int .i64 a.le]) w :=
  run_loadAt_mid (P := Try.prog) w b o 86 _ _ h Try.underlying86 rfl infoT
theorem loadSE (w : World) (b o : Nat) (v : Value) (h : w.cell? ⟨b, o, none⟩ = some v) : (Instr.loadAt 84 (.pointer (some ⟨b, o, none⟩))).run Try.prog w = .ok v w := by simp [go_sem, h]
theorem loadMB (w : World) (b o : Nat) (v : Value) (h : w.cell? ⟨b, o, none⟩ = some v) : (Instr.loadAt 174 (.pointer (some ⟨b, o, none⟩))).run Try.prog w = .ok v w := by simp [go_sem, h]
theorem loadWV (w : World) (b : Nat) (y : Int × Int) (h : w.heap[b]? = some (.cells #[.int .i64 y.1, .int .i64 y.2] 58 (0, 0))) : (Instr.loadAt 58 (.pointer (some ⟨b, 0, none⟩))).run Try.prog w = .ok (wv y) w := by
  have h0 : w.cell? ⟨b, 0, none⟩ = some (.int .i64 y.1) := by rw [cell_of_row _ _ 0 _ _ _ h]; rfl
  have h1 : w.cell? ⟨b, 1, none⟩ = some (.int .i64 y.2) := by rw [cell_of_row _ _ 1 _ _ _ h]; rfl
  unfold wv
  simp [go_sem, h0, h1]
section
variable {W0 : World} {K : Act → Prop} {o : Oper} {a : Act}
theorem calm_ixE (x y : Operand) {g n cap j : Nat} (ho : o.op = .indexAddr 84 x y) (hx : a.eval x = .slice (some ⟨g, 0, none⟩) n cap) (hy : a.eval y = .int .i64 (j : Int)) (hj : j < n)
    (h : K (a.put o.dst (.pointer (some ⟨g, j * 3, none⟩)))) : Oper.calm Try.prog W0 o a K :=
  calm_val _ (fun w hw => by unfold execOp; simp only [ho, hx, hy, Sem.run_bind, Sem.run_pure, Result.andThen_ok, ixE w hj]) h
theorem calm_loadE (x : Operand) (b k : Nat) (s : RM.Sp) (ho : o.op = .load 86 x) (hx : a.eval x = .pointer (some ⟨b, k, none⟩)) (hr : ∀ w, Below W0.heap.size W0 w → w.rangeAt b k [.int .i64 s.fl, .int .i64 s.he, .int .i64 s.le])
    (h : K (a.put o.dst (.agg #[.int .i64 s.fl, .int .i64 s.he, .int .i64 s.le]))) : Oper.calm Try.prog W0 o a K :=
  calm_val _ (fun w hw => by unfold execOp; simp only [ho, hx, Sem.run_bind, Sem.run_pure, Result.andThen_ok, loadE w b k s (hr w hw)]) h
theorem calm_loadSE (x : Operand) (b k : Nat) {v : Value} (ho : o.op = .load 84 x) (hx : a.eval x = .pointer (some ⟨b, k, none⟩)) (hr : ∀ w, Below W0.heap.size W0 w → w.cell? ⟨b, k, none⟩ = some v)
    (h : K (a.put o.dst v)) : Oper.calm Try.prog W0 o a K :=
  calm_val _ (fun w hw => by unfold execOp; simp only [ho, hx, Sem.run_bind, Sem.run_pure, Result.andThen_ok, loadSE w b k v (hr w hw)]) h
theorem calm_loadMB (x : Operand) (b k : Nat) {v : Value} (ho : o.op = .load 174 x) (hx : a.eval x = .pointer (some ⟨b, k, none⟩)) (hr : ∀ w, Below W0.heap.size W0 w → w.cell? ⟨b, k, none⟩ = some v)
    (h : K (a.put o.dst v)) : Oper.calm Try.prog W0 o a K :=
  calm_val _ (fun w hw => by unfold execOp; simp only [ho, hx, Sem.run_bind, Sem.run_pure, Result.andThen_ok, loadMB w b k v (hr w hw)]) h
theorem calm_load23b (x : Operand) (b : Nat) (s : St) (ho : o.op = .load 23 x) (hx : a.eval x = .pointer (some ⟨b, 0, none⟩)) (hr : ∀ w, Below W0.heap.size W0 w → w.rangeAt b 0 (sv s))
    (h : K (a.put o.dst (.agg (sv s).toArray))) : Oper.calm Try.prog W0 o a K :=
  calm_val _ (fun w hw => by unfold execOp; simp only [ho, hx, Sem.run_bind, Sem.run_pure, Result.andThen_ok, load23 w b s (hr w hw)]) h
theorem calm_loadWV (x : Operand) (b : Nat) (y : Int × Int) (ho : o.op = .load 58 x) (hx : a.eval x = .pointer (some ⟨b, 0, none⟩)) (hr : ∀ w, Below W0.heap.size W0 w → w.heap[b]? = some (.cells #[.int .i64 y.1, .int .i64 y.2] 58 (0, 0)))
    (h : K (a.put o.dst (wv y))) : Oper.calm Try.prog W0 o a K :=
  calm_val _ (fun w hw => by unfold execOp; simp only [ho, hx, Sem.run_bind, Sem.run_pure, Result.andThen_ok, loadWV w b y (hr w hw)]) h
end
theorem wpList_storeE {ops : Array Oper} {rest : List Oper} {op : Oper} {a : Act} {w : World} {Q : Exit → Act → World → Prop} (hgd : op.guard = none) (x y : Operand) (ho : op.op = .store 86 x y)
    {b eb mb : Nat} {s : St} {vc vw : Value} {es : List RM.Sp} {f : Int → Option (Int × Int)} {co : Int} (h : Bg w b eb mb s vc vw es f co) {j : Nat} {z : RM.Sp} (hj : es[j]? = some z) (n : RM.Sp)
    (hx : a.eval x = .pointer (some ⟨eb, j * 3, none⟩)) (hy : a.eval y = .agg #[.int .i64 n.fl, .int .i64 n.he, .int .i64 n.le])
    (hn : ∀ W', Kp (fun k => k = eb) w W' → Bg W' b eb mb s vc vw (es.set j n) f co → wpList Try.prog ops Q rest (a.put op.dst undef) W') : wpList Try.prog ops Q (op :: rest) a w :=
  wpList_store_mid hgd 86 x y ho eb (j * 3) #[.int .i64 n.fl, .int .i64 n.he, .int .i64 n.le] hx hy (h.there hj) infoT (by simp [Value.oneCell']) (hn _ (h.put n).2 (h.put n).1)
/-- may a car serve a want? -/
theorem has_any (f : Int) (m c : Nat) (hc : c ≤ 64) (w : World) : Calls Try.prog 97 #[.agg #[.int .i64 f, .int .i64 (m : Int)], .int .i64 (c : Int)] w fun e w' => e = .returned (.bool (PM.bt m c)) ∧ Below w.heap.size w w' := by
  have hb := (Below.refl w.heap.size w).alloc (Nat.le_refl _) (.cells #[.int .i64 f, .int .i64 (m : Int)] 58)
  have hsh := shr_any m c hc
  have HE := Hid.intro' (bt_bits m c)
  go_enter Try.func97, Try.ntmps97
  go_wp2
  go_ret
  exact ⟨ret_bool HE.out, hb⟩
end Go.Proofs.Ytagmidolcdefiah

/- A beginning on its way: a want is taken. -/
namespace Go.Proofs.Ytagmidolcdefiah
open Go.RowKit
section
variable {W : World} {b eb mb : Nat} {s : St} {vc vw : Value} {es : List RM.Sp} {f : Int → Option (Int × Int)} {co : Int}
set_option maxHeartbeats 2000000 in
theorem take_none (h : Bg W b eb mb s vc vw es f co) (c : Nat) (x : Int) (hn : f x = none) :
    Calls Try.prog 89 #[.pointer (some ⟨b, 0, none⟩), .int .i64 (c : Int), .int .i64 x] W fun e w' => e = .returned (.bool false) ∧ Below W.heap.size W w' := by
  have hlk : (Instr.lookup 174 (.map (some mb)) (.int .i64 x) true).run Try.prog W = .ok (.tuple #[.agg #[.int .i64 0, .int .i64 0], .bool false]) W := by
    have := h.hm.look x
    rw [hn] at this
    exact this
  have c16 := h.c16
  have HB := Hid.intro' ((Below.refl W.heap.size W).alloc (Nat.le_refl _) (.cells #[.int .i64 0, .int .i64 0] 58))
  clear h hn
  go_enter Try.func89, Try.ntmps89
  go_wp2
  go_ret
  exact ⟨rfl, HB.out⟩
set_option maxHeartbeats 2000000 in
theorem take_not (h : Bg W b eb mb s vc vw es f co) (c : Nat) (hc : c ≤ 64) (x g : Int) (m : Nat) (hn : f x = some (g, (m : Int))) (hb : PM.bt m c = false) :
    Calls Try.prog 89 #[.pointer (some ⟨b, 0, none⟩), .int .i64 (c : Int), .int .i64 x] W fun e w' => e = .returned (.bool false) ∧ Below W.heap.size W w' := by
  have hlk : (Instr.lookup 174 (.map (some mb)) (.int .i64 x) true).run Try.prog W = .ok (.tuple #[.agg #[.int .i64 g, .int .i64 (m : Int)], .bool true]) W := by
    have := h.hm.look x
    rw [hn] at this
    exact this
  have c16 := h.c16
  have HB := Hid.intro' ((Below.refl W.heap.size W).alloc (Nat.le_refl _) (.cells #[.int .i64 g, .int .i64 (m : Int)] 58))
  have HH := Hid.intro' (has_any g m c hc)
  rw [hb] at HH
  clear h hn hb
  go_enter Try.func89, Try.ntmps89
  go_wp2_with fail
  refine (HH.out _).mono ?_
  rintro e W2 ⟨rfl, hb2⟩
  have HB2 := Hid.intro' (below_class HB.out hb2)
  clear hb2 HB HH c16 hlk
  go_wp2
  go_ret
  exact ⟨rfl, HB2.out⟩
set_option maxHeartbeats 4000000 in
theorem take_yes (h : Bg W b eb mb s vc vw es f co) (c : Nat) (hc : c ≤ 64) (a : RM.Sp) (hj : es[c]? = some a) (x g : Int) (m : Nat) (hn : f x = some (g, (m : Int))) (hb : PM.bt m c = true)
    (r : SM.Rt s) (ok : RM.Ok s a) (hle : a.le ≤ 100000000) (h0 : 0 ≤ g) (h1 : g < s.fl) (hc0 : 0 ≤ co) (hc1 : co ≤ 1000000000000) :
    Calls Try.prog 89 #[.pointer (some ⟨b, 0, none⟩), .int .i64 (c : Int), .int .i64 x] W fun e w' => e = .returned (.bool true) ∧
      Bg w' b eb mb s vc vw (es.set c (RM.nx s a g)) (fun j => if j = x then none else f j) (co + RM.ar s a g) ∧ Kp (bp b eb mb) W w' := by
  have hlk : (Instr.lookup 174 (.map (some mb)) (.int .i64 x) true).run Try.prog W = .ok (.tuple #[.agg #[.int .i64 g, .int .i64 (m : Int)], .bool true]) W := by
    have := h.hm.look x
    rw [hn] at this
    exact this
  have c16 := h.c16
  have HX := Hid.intro' (World.alloc_heap_new W (.cells #[.int .i64 g, .int .i64 (m : Int)] 58))
  have HB := Hid.intro' ((Below.refl W.heap.size W).alloc (Nat.le_refl _) (.cells #[.int .i64 g, .int .i64 (m : Int)] 58))
  have HG := Hid.intro' h
  have HH := Hid.intro' (has_any g m c hc)
  rw [hb] at HH
  have HF := Hid.intro' hn
  have HJ := Hid.intro' hj
  have hcl : c < es.length := (List.getElem?_eq_some_iff.1 hj).1
  have HNE := Hid.intro' (RM.nx_eq ok g)
  have HNX : Hid (∀ w', Calls Try.prog 66 #[.agg (sv s).toArray, .agg #[.int .i64 a.fl, .int .i64 a.he, .int .i64 a.le], .int .i64 g] w' fun e w'' => e = .returned (.agg #[.int .i64 g, .int .i64 (RM.ar s a g), .int .i64 (RM.ar s a g + RM.dw s)]) ∧ Below w'.heap.size w' w'') := fun w' => next_any s r a ok hle g h0 h1 w'
  have HAB := Hid.intro' (And.intro (RM.ar_nn r ok g) (RM.ar_le r ok g))
  have HAD : Hid (∀ w', Calls Try.prog 68 #[.int .i64 co, .int .i64 (RM.ar s a g)] w' fun e w'' => e = .returned (.int .i64 (co + RM.ar s a g)) ∧ Below w'.heap.size w' w'') := fun w' => (add_any co (RM.ar s a g) w').mono fun e w'' hh => by
    obtain ⟨he, rfl⟩ := hh
    refine ⟨?_, Below.refl _ _⟩
    rw [he, SM.addC hc0 HAB.out.1 (by have := HAB.out; omega)]
  clear h hn hb hj r ok hle h0 h1 hc0 hc1 HAB
  generalize RM.ar s a g = T at HNE HNX HAD ⊢
  generalize T + RM.dw s = L at HNE HNX
  generalize RM.nx s a g = n at HNE ⊢
  generalize co + T = co2 at HAD ⊢
  go_enter Try.func89, Try.ntmps89
  go_wp2_with fail
  refine (HH.out _).mono ?_
  rintro e W2 ⟨rfl, hb2⟩
  have HX2 : Hid (W2.heap[W.heap.size]? = some (.cells #[.int .i64 g, .int .i64 (m : Int)] 58 (0, 0))) := (hb2.block W.heap.size (by simp)).trans HX.out
  have hbb := below_class HB.out hb2
  have HG2 := Hid.intro' (HG.out.below' hbb)
  have HK2 := Hid.intro' (Kp.ofBelow (bp b eb mb) hbb)
  obtain ⟨W3, hdel, hm3, hk3⟩ := HG2.out.hm.drop HF.out
  have c16b := HG2.out.c16
  have HG3 : Hid (Bg W3 b eb mb s vc vw es (fun j => if j = x then none else f j) co) := ⟨(hk3.block b HG2.out.lb HG2.out.n2).trans HG2.out.hb, (hk3.block eb HG2.out.le HG2.out.n3).trans HG2.out.he, hm3, HG2.out.n1, HG2.out.n2, HG2.out.n3⟩
  have HK3 : Hid (Kp (bp b eb mb) W W3) := HK2.out.trans hk3 (fun i _ e => .inr (.inr e))
  have HX3 : Hid (W3.heap[W.heap.size]? = some (.cells #[.int .i64 g, .int .i64 (m : Int)] 58 (0, 0))) := (hk3.block W.heap.size (Array.getElem?_eq_some_iff.1 HX2.out).1 (fun e => by have := HG.out.hm.lt; omega)).trans HX2.out
  clear hbb hb2 HX HB HH c16 hlk hm3 hk3 HG2 HK2 HX2
  go_wp2_with fail
  clear hdel c16b
  have hGA : ∀ w', Below W3.drew.heap.size W3.drew w' → Bg w' b eb mb s vc vw es (fun j => if j = x then none else f j) co := fun w' hw => HG3.out.drew.below' hw
  have H15 : Hid (∀ w', Below W3.drew.heap.size W3.drew w' → w'.cell? ⟨b, 15, none⟩ = some (.slice (some ⟨eb, 0, none⟩) es.length es.length)) := fun w' hw => (hGA w' hw).c15
  have HST : Hid (∀ w', Below W3.drew.heap.size W3.drew w' → w'.rangeAt b 0 (sv s)) := fun w' hw => (hGA w' hw).site
  have HSP : Hid (∀ w', Below W3.drew.heap.size W3.drew w' → w'.rangeAt eb (c * 3) [.int .i64 a.fl, .int .i64 a.he, .int .i64 a.le]) := fun w' hw => (hGA w' hw).stop HJ.out
  have HXG : Hid (∀ w', Below W3.drew.heap.size W3.drew w' → w'.cell? ⟨W.heap.size, 0, none⟩ = some (.int .i64 g)) := fun w' hw => by
    rw [cell_of_row _ _ 0 _ _ _ ((hw.block W.heap.size (Array.getElem?_eq_some_iff.1 HX3.out).1).trans HX3.out)]; rfl
  clear hGA
  refine wp_region_tail 21 (by kernel_rfl) (by kernel_rfl) ?_
  simp only [List.take_succ_cons, List.take_zero, List.drop_succ_cons, List.drop_zero]
  unfold wpCalm
  generalize hK : wpCalm Try.prog _ _ _ _ = K
  unfold Oper.calm
  go_simp
  refine ⟨_, fun _ _ => rfl, ?_⟩
  subst hK
  unfold wpCalm
  generalize hK : wpCalm Try.prog _ _ _ _ = K
  unfold Oper.calm
  go_simp
  refine ⟨_, fun _ _ => rfl, ?_⟩
  subst hK
  unfold wpCalm
  generalize hK : wpCalm Try.prog _ _ _ _ = K
  unfold Oper.calm
  go_simp
  refine ⟨_, fun _ _ => rfl, ?_⟩
  subst hK
  unfold wpCalm
  generalize hK : wpCalm Try.prog _ _ _ _ = K
  rw [if_pos (by go_simp)]
  refine calm_loadSE _ _ _ rfl rfl H15.out ?_
  go_simp
  subst hK
  unfold wpCalm
  generalize hK : wpCalm Try.prog _ _ _ _ = K
  unfold Oper.calm
  go_simp
  refine ⟨_, fun _ _ => rfl, ?_⟩
  subst hK
  unfold wpCalm
  generalize hK : wpCalm Try.prog _ _ _ _ = K
  unfold Oper.calm
  go_simp
  refine ⟨_, fun _ _ => rfl, ?_⟩
  subst hK
  unfold wpCalm
  generalize hK : wpCalm Try.prog _ _ _ _ = K
  unfold Oper.calm
  go_simp
  refine ⟨_, fun _ _ => rfl, ?_⟩
  subst hK
  unfold wpCalm
  generalize hK : wpCalm Try.prog _ _ _ _ = K
  unfold Oper.calm
  go_simp
  refine ⟨_, fun _ _ => rfl, ?_⟩
  subst hK
  unfold wpCalm
  generalize hK : wpCalm Try.prog _ _ _ _ = K
  unfold Oper.calm
  go_simp
  refine ⟨_, fun _ _ => rfl, ?_⟩
  subst hK
  unfold wpCalm
  generalize hK : wpCalm Try.prog _ _ _ _ = K
  rw [if_pos (by go_simp)]
  refine calm_load23b _ b s rfl rfl HST.out ?_
  go_simp
  subst hK
  unfold wpCalm
  generalize hK : wpCalm Try.prog _ _ _ _ = K
  unfold Oper.calm
  go_simp
  refine ⟨_, fun _ _ => rfl, ?_⟩
  subst hK
  unfold wpCalm
  generalize hK : wpCalm Try.prog _ _ _ _ = K
  unfold Oper.calm
  go_simp
  refine ⟨_, fun _ _ => rfl, ?_⟩
  subst hK
  unfold wpCalm
  generalize hK : wpCalm Try.prog _ _ _ _ = K
  unfold Oper.calm
  go_simp
  refine ⟨_, fun _ _ => rfl, ?_⟩
  subst hK
  unfold wpCalm
  generalize hK : wpCalm Try.prog _ _ _ _ = K
  rw [if_pos (by go_simp)]
  refine calm_loadSE _ _ _ rfl rfl H15.out ?_
  go_simp
  subst hK
  unfold wpCalm
  generalize hK : wpCalm Try.prog _ _ _ _ = K
  unfold Oper.calm
  go_simp
  refine ⟨_, fun _ _ => rfl, ?_⟩
  subst hK
  unfold wpCalm
  generalize hK : wpCalm Try.prog _ _ _ _ = K
  rw [if_pos (by go_simp)]
  refine calm_ixE _ _ rfl rfl rfl hcl ?_
  go_simp
  subst hK
  unfold wpCalm
  generalize hK : wpCalm Try.prog _ _ _ _ = K
  rw [if_pos (by go_simp)]
  refine calm_loadE _ _ _ a rfl rfl HSP.out ?_
  go_simp
  subst hK
  unfold wpCalm
  generalize hK : wpCalm Try.prog _ _ _ _ = K
  unfold Oper.calm
  go_simp
  refine ⟨_, fun _ _ => rfl, ?_⟩
  subst hK
  unfold wpCalm
  generalize hK : wpCalm Try.prog _ _ _ _ = K
  rw [if_pos (by go_simp)]
  refine calm_load3 _ _ _ rfl rfl HXG.out ?_
  go_simp
  subst hK
  unfold wpCalm
  generalize hK : wpCalm Try.prog _ _ _ _ = K
  unfold Oper.calm
  go_simp
  refine ⟨_, fun w' hw => HNX.out w', ?_⟩
  subst hK
  unfold wpCalm
  generalize hK : wpCalm Try.prog _ _ _ _ = K
  rw [if_pos (by go_simp)]
  refine calm_ixE _ _ rfl rfl rfl hcl ?_
  go_simp
  subst hK
  refine wpCalm_nil ?_
  intro W4 hb4
  have hbd := (Below.refl W3.heap.size W3).drew.trans hb4
  have HG4 := Hid.intro' (HG3.out.below' hbd)
  have HK4 := Hid.intro' (HK3.out.thenBelow hbd)
  clear hbd hb4 H15 HST HSP HXG HG3 HK3 HX3 HNX
  go_wp2_with (refine wpList_storeE rfl _ _ rfl HG4.out HJ.out ⟨g, T, L⟩ rfl rfl ?_)
  intro W5 hk5 hg5
  have HG5 := Hid.intro' hg5
  have HK5 : Hid (Kp (bp b eb mb) W W5) := HK4.out.trans hk5 (fun i _ e => .inr (.inl e))
  have HJ5 : Hid ((es.set c (⟨g, T, L⟩ : RM.Sp))[c]? = some ⟨g, T, L⟩) := List.getElem?_set_self hcl
  rw [← HNE.out] at HG5 HJ5
  clear hk5 hg5 HG4 HK4 HJ
  go_wp2_with fail
  have hGA : ∀ w', Below W5.drew.heap.size W5.drew w' → Bg w' b eb mb s vc vw (es.set c n) (fun j => if j = x then none else f j) co := fun w' hw => HG5.out.drew.below' hw
  have H15 : Hid (∀ w', Below W5.drew.heap.size W5.drew w' → w'.cell? ⟨b, 15, none⟩ = some (.slice (some ⟨eb, 0, none⟩) es.length es.length)) := fun w' hw => by have := (hGA w' hw).c15; rwa [List.length_set] at this
  have H17 : Hid (∀ w', Below W5.drew.heap.size W5.drew w' → w'.cell? ⟨b, 17, none⟩ = some (.int .i64 co)) := fun w' hw => (hGA w' hw).c17
  have HHE : Hid (∀ w', Below W5.drew.heap.size W5.drew w' → w'.cell? ⟨eb, c * 3 + 1, none⟩ = some (.int .i64 T)) := fun w' hw => by have := (hGA w' hw).stop HJ5.out 1 _ rfl; rw [HNE.out] at this; exact this
  clear hGA
  refine wp_region_tail 16 (by kernel_rfl) (by kernel_rfl) ?_
  simp only [List.take_succ_cons, List.take_zero, List.drop_succ_cons, List.drop_zero]
  unfold wpCalm
  generalize hK : wpCalm Try.prog _ _ _ _ = K
  unfold Oper.calm
  go_simp
  refine ⟨_, fun _ _ => rfl, ?_⟩
  subst hK
  unfold wpCalm
  generalize hK : wpCalm Try.prog _ _ _ _ = K
  unfold Oper.calm
  go_simp
  refine ⟨_, fun _ _ => rfl, ?_⟩
  subst hK
  unfold wpCalm
  generalize hK : wpCalm Try.prog _ _ _ _ = K
  unfold Oper.calm
  go_simp
  refine ⟨_, fun _ _ => rfl, ?_⟩
  subst hK
  unfold wpCalm
  generalize hK : wpCalm Try.prog _ _ _ _ = K
  unfold Oper.calm
  go_simp
  refine ⟨_, fun _ _ => rfl, ?_⟩
  subst hK
  unfold wpCalm
  generalize hK : wpCalm Try.prog _ _ _ _ = K
  rw [if_pos (by go_simp)]
  refine calm_load3 _ _ _ rfl rfl H17.out ?_
  go_simp
  subst hK
  unfold wpCalm
  generalize hK : wpCalm Try.prog _ _ _ _ = K
  unfold Oper.calm
  go_simp
  refine ⟨_, fun _ _ => rfl, ?_⟩
  subst hK
  unfold wpCalm
  generalize hK : wpCalm Try.prog _ _ _ _ = K
  unfold Oper.calm
  go_simp
  refine ⟨_, fun _ _ => rfl, ?_⟩
  subst hK
  unfold wpCalm
  generalize hK : wpCalm Try.prog _ _ _ _ = K
  unfold Oper.calm
  go_simp
  refine ⟨_, fun _ _ => rfl, ?_⟩
  subst hK
  unfold wpCalm
  generalize hK : wpCalm Try.prog _ _ _ _ = K
  rw [if_pos (by go_simp)]
  refine calm_loadSE _ _ _ rfl rfl H15.out ?_
  go_simp
  subst hK
  unfold wpCalm
  generalize hK : wpCalm Try.prog _ _ _ _ = K
  unfold Oper.calm
  go_simp
  refine ⟨_, fun _ _ => rfl, ?_⟩
  subst hK
  unfold wpCalm
  generalize hK : wpCalm Try.prog _ _ _ _ = K
  rw [if_pos (by go_simp)]
  refine calm_ixE _ _ rfl rfl rfl hcl ?_
  go_simp
  subst hK
  unfold wpCalm
  generalize hK : wpCalm Try.prog _ _ _ _ = K
  unfold Oper.calm
  go_simp
  refine ⟨_, fun _ _ => rfl, ?_⟩
  subst hK
  unfold wpCalm
  generalize hK : wpCalm Try.prog _ _ _ _ = K
  rw [if_pos (by go_simp)]
  refine calm_load3 _ _ _ rfl rfl HHE.out ?_
  go_simp
  subst hK
  unfold wpCalm
  generalize hK : wpCalm Try.prog _ _ _ _ = K
  unfold Oper.calm
  go_simp
  refine ⟨_, fun w' hw => HAD.out w', ?_⟩
  subst hK
  unfold wpCalm
  generalize hK : wpCalm Try.prog _ _ _ _ = K
  unfold Oper.calm
  go_simp
  refine ⟨_, fun _ _ => rfl, ?_⟩
  subst hK
  unfold wpCalm
  generalize hK : wpCalm Try.prog _ _ _ _ = K
  unfold Oper.calm
  go_simp
  refine ⟨_, fun _ _ => rfl, ?_⟩
  subst hK
  refine wpCalm_nil ?_
  intro W6 hb6
  have hbd := (Below.refl W5.heap.size W5).drew.trans hb6
  have HG6 := Hid.intro' (HG5.out.below' hbd)
  have HK6 := Hid.intro' (HK5.out.thenBelow hbd)
  have c17 := HG6.out.c17
  have f17 := HG6.out.fr 17
  have HE : Hid (Bg (W6.setCell ⟨b, 17, none⟩ (.int .i64 co2)) b eb mb s vc vw (es.set c n) (fun j => if j = x then none else f j) co2 ∧ Kp (bp b eb mb) W (W6.setCell ⟨b, 17, none⟩ (.int .i64 co2))) := ⟨HG6.out.put17 co2, HK6.out.set b 17 _ (fun _ => .inl rfl)⟩
  clear hbd hb6 H15 H17 HHE HG5 HK5 HAD HG6 HK6
  go_wp2
  go_ret
  exact ⟨rfl, HE.out.1, HE.out.2⟩
end
end Go.Proofs.Ytagmidolcdefiah
