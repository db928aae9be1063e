/- All plans: the sequence that the program hands out. -/
import Derived.Test.YtdpfgjipjjkcgafPlK
namespace Go.Proofs.Ytdpfgjipjjkcgaf
open Go.RowKit Go.Shelf

/-- a list is put behind a row of numbers -/
theorem wpList_appendRI {ops : Array Oper} {rest : List Oper} {o : Oper} {a : Act} {w : World} {Q : Exit → Act → World → Prop} (hgd : o.guard = none) (s x : Operand)
    (ho : o.op = .call { callee := .builtin .append, args := #[s, x], argTypes := #[38, 38] })
    (B : Nat) (v u : Value) (l m : List Int) (D : Nat → Prop) (hs : a.eval s = v) (hown : OI w B v l) (hx : a.eval x = u) (hr : RI D w u m)
    (h63 : l.length + m.length ≤ 1000000) (hB : B ≤ w.heap.size)
    (h : ∀ v' w', OI w' B v' (l ++ m) → w.grownBy w' v.ownBlock → wpList Try.prog ops Q rest (a.put o.dst v') w') : wpList Try.prog ops Q (o :: rest) a w := by
  obtain ⟨ao, cap, rfl, hc, hn⟩ := hr.form
  obtain ⟨i0, hi, hz0, hz1, hz2⟩ := info_parts infoI
  cases ao with
  | none =>
    obtain rfl : cap = 0 := hn rfl
    obtain rfl : m = [] := List.length_eq_zero_iff.1 (by omega)
    refine wpList_append_own_none hgd s x 38 ho B 3 i0 1 Try.underlying38 hi v l.length (ic l) hs hown (by rw [hx]; rfl) ?_
    refine h v w ?_ (World.grownBy.refl w _)
    rw [List.append_nil]; exact hown
  | some ad =>
    refine wpList_append_own w hgd s x 38 ho B 3 i0 _ 1 8 Try.underlying38 hi hz0 hz1 hz2 rfl (by decide) v l.length (ic l) hs hown ad m.length cap (ic m) hx (by rw [ic_length, Nat.mul_one]) ?_ (ic_one m) (by unfold maxLen; omega) (by omega) hB ?_
    · intro j u hj
      obtain ⟨y, hy, rfl⟩ := ic_get hj
      obtain ⟨g, o', e, hc'⟩ := hr.at hy
      cases e
      rw [Addr.add_mid]; exact hc'
    · intro v' w' h1 h2 _
      refine h v' w' ?_ h2
      unfold OI
      rw [List.length_append, ic_append]
      exact h1
theorem grown_none {w w' : World} (h : w.grownBy w' none) : Below w.heap.size w w' := ⟨h.os, h.tape, h.output, h.size, fun k hk => h.block k hk (fun e => by cases e)⟩

/-- what holds while a plan is copied: the first k lists are there -/
structure Cp (w W : World) (vs : List Value) (p : List (List Int)) (k : Nat) : Prop where
  hl : W.heap[w.heap.size]? = some (.cells vs.toArray 38 (0, 0))
  vl : vs.length = p.length
  own : ∀ (c : Nat) v l, c < k → vs[c]? = some v → p[c]? = some l → OI W (w.heap.size + 1) v l
  bel : Below w.heap.size w W
  lt : w.heap.size + 1 ≤ W.heap.size
section
variable {w W W' : World} {vs : List Value} {p : List (List Int)} {k : Nat}
theorem Cp.next (h : Cp w W vs p k) (hb : Below W.heap.size W W') : Cp w W' vs p k :=
  ⟨(hb.block _ (by have := h.lt; omega)).trans h.hl, h.vl, fun c v l hc hv hl => (h.own c v l hc hv hl).below' hb, below_class h.bel hb, Nat.le_trans h.lt hb.size⟩
theorem Cp.put (h : Cp w W vs p k) {v : Value} {l : List Int} (hk : p[k]? = some l) (ho : OI W (w.heap.size + 1) v l) : Cp w (W.setCell ⟨w.heap.size, k, none⟩ v) (vs.set k v) p (k + 1) := by
  have keep : ∀ j, j ≠ w.heap.size → (W.setCell ⟨w.heap.size, k, none⟩ v).heap[j]? = W.heap[j]? := fun j hj => Below.heap_setCell W ⟨w.heap.size, k, none⟩ _ j hj
  have hkl : k < vs.length := by rw [h.vl]; exact (List.getElem?_eq_some_iff.1 hk).1
  refine ⟨blk_set h.hl k v, by rw [List.length_set]; exact h.vl, fun c u l' hc hu hl' => ?_, h.bel.setCell (p := ⟨w.heap.size, k, none⟩) (Nat.le_refl _) _, by have := h.lt; simpa [World.setCell] using this⟩
  by_cases e : k = c
  · subst e
    rw [List.getElem?_set_self hkl] at hu
    cases hu
    rw [hk] at hl'
    cases hl'
    exact ho.keep fun g hg => keep g (by have := (ho.lt g hg).1; omega)
  · rw [List.getElem?_set_ne e] at hu
    have ho' := h.own c u l' (by omega) hu hl'
    exact ho'.keep fun g hg => keep g (by have := (ho'.lt g hg).1; omega)
theorem Cp.done (h : Cp w W vs p p.length) : RL (fun g => w.heap.size ≤ g) W (.slice (some ⟨w.heap.size, 0, none⟩) p.length p.length) p := by
  refine ⟨_, _, rfl, Nat.le_refl _, (fun e => by cases e), .inr ⟨w.heap.size, 0, rfl, Nat.le_refl _, by have := h.lt; omega, fun i l hl => ?_⟩⟩
  have hi : i < p.length := (List.getElem?_eq_some_iff.1 hl).1
  obtain ⟨v, hv⟩ : ∃ v, vs[i]? = some v := ⟨_, List.getElem?_eq_getElem (by rw [h.vl]; exact hi)⟩
  have ho := h.own i v l hi hv hl
  exact ⟨v, by rw [Nat.zero_add]; exact (blk_cell h.hl i).trans hv, ho.ri fun g hg => by have := (ho.lt g hg).1; show _ ≤ g; omega⟩
end

set_option maxHeartbeats 4000000 in
theorem copyOf_any (D : Nat → Prop) (v : Value) (p : List (List Int)) (w : World) (hp : RL D w v p) (hs : Sm p) :
    Calls Try.prog 21 #[v] w fun e w' => ∃ v', e = .returned v' ∧ RL (fun g => w.heap.size ≤ g) w' v' p ∧ Below w.heap.size w w' := by
  have HP := Hid.intro' hp
  obtain ⟨a, cap, rfl, _, _⟩ := hp.form
  have HS := Hid.intro' hs
  have hpl : p.length ≤ 1000 := hs.1
  have hmk := mkL p.length hpl
  have HC0 : Hid (Cp w (w.alloc (.cells (List.replicate p.length (Value.slice none 0 0)).toArray 38)) (List.replicate p.length (Value.slice none 0 0)) p 0) :=
    ⟨World.alloc_heap_new w _, by simp, fun c _ _ hc => absurd hc (by omega), (Below.refl _ w).alloc (Nat.le_refl _) _, by simp⟩
  rw [List.toArray_replicate] at HC0
  clear hp hs
  go_enter Try.func21, Try.ntmps21
  go_wp2_with fail
  clear hmk
  generalize (w.alloc (.cells (Array.replicate p.length (Value.slice none 0 0)) 38)) = W0 at HC0 ⊢
  go_loopw [11] (fun i wr => ∃ (k : Nat) (vs : List Value), k ≤ p.length ∧ i = .int .i64 (k : Int) ∧ Hid (Cp w wr vs p k)) (fun i _ => p.length - (intOf i).toNat)
  case atStart => exact ⟨0, _, Nat.zero_le _, rfl, HC0⟩
  case round =>
    clear HC0
    obtain ⟨k, vs, hk, rfl, HC⟩ := hrel
    by_cases hlt : k < p.length
    · have hkz : (k : Int) < (p.length : Int) := by omega
      obtain ⟨l, hl⟩ : ∃ l, p[k]? = some l := ⟨_, List.getElem?_eq_getElem hlt⟩
      obtain ⟨g, o, rfl, u, hcu, hru⟩ := (HP.out.below' HC.out.bel).at hl
      obtain ⟨au, ku, rfl, _, _⟩ := hru.form
      have hll : l.length ≤ 1000 := HS.out.2 l (List.mem_of_getElem? hl)
      have HL := Hid.intro' hl
      have HRU := Hid.intro' hru
      clear hl hru
      go_wp2_with (at_builtin; refine wpList_appendRI rfl _ _ rfl (w.heap.size + 1) _ _ [] l D rfl ?qc1 rfl HRU.out ?qc3 HC.out.lt ?_)
      case qc1 => exact OI.nil _ _
      case qc3 => simp; omega
      intro v2 W2 ho2 hg2
      have hb2 := grown_none hg2
      have HC2 := Hid.intro' (HC.out.next hb2)
      have HO2 := Hid.intro' ho2
      have d1 : ∃ x, W2.cell? ⟨w.heap.size, k, none⟩ = some x := ⟨_, (blk_cell HC2.out.hl k).trans (List.getElem?_eq_getElem (by rw [HC2.out.vl]; exact hlt))⟩
      obtain ⟨x, d1⟩ := d1
      have d2 : W2.frozen? ⟨w.heap.size, k, none⟩ = false := blk_fr HC2.out.hl k
      obtain ⟨a2, c2, rfl⟩ := ho2.slice
      have HC3 := Hid.intro' (HC2.out.put HL.out HO2.out)
      clear ho2 hg2 hb2 HC hcu HC2
      go_wp2
      go_roundw
      case rel => exact ⟨k + 1, _, by omega, by go_num, HC3⟩
      case measure => simp [intOf]; omega
    · have hkz : ¬ (k : Int) < (p.length : Int) := by omega
      have HD : Hid (Cp w wr vs p p.length) := by
        have h := HC.out
        rw [show k = p.length by omega] at h
        exact h
      clear HC
      go_wp2
      go_ret
      exact ⟨_, rfl, HD.out.done, HD.out.bel⟩

end Go.Proofs.Ytdpfgjipjjkcgaf
