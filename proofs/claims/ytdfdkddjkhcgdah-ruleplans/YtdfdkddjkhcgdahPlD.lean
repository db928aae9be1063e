/- A plan on its way, in memory. -/
import Derived.Test.YtdfdkddjkhcgdahPlT
import Derived.Laws.MakeOwn
namespace Go.Proofs.Ytdfdkddjkhcgdah
open Go.RowKit

/-- the cells of marks -/
def bv (st : List Bool) : List Value := st.map Value.bool
theorem bv_length (st : List Bool) : (bv st).length = st.length := by unfold bv; rw [List.length_map]
theorem bv_some {st : List Bool} {i : Nat} {x : Bool} (h : st[i]? = some x) : (bv st)[i]? = some (.bool x) := by
  unfold bv; rw [List.getElem?_map, h]; rfl
theorem bv_set (st : List Bool) (i : Nat) (x : Bool) : (bv st).set i (.bool x) = bv (st.set i x) := by unfold bv; rw [List.map_set]
/-- a store into a block that is known whole -/
theorem blk_set {W : World} {b : Nat} {C : List Value} {t : TypeId} (h : W.heap[b]? = some (.cells C.toArray t (0, 0))) (i : Nat) (v : Value) : (W.setCell ⟨b, i, none⟩ v).heap[b]? = some (.cells (C.set i v).toArray t (0, 0)) := by
  simp only [World.setCell, Array.getElem?_modify, if_true, h]; simp
theorem blk_cell {W : World} {b : Nat} {C : List Value} {t : TypeId} (h : W.heap[b]? = some (.cells C.toArray t (0, 0))) (i : Nat) : W.cell? ⟨b, i, none⟩ = C[i]? := by
  simp [World.cell?, h]
theorem blk_fr {W : World} {b : Nat} {C : List Value} {t : TypeId} (h : W.heap[b]? = some (.cells C.toArray t (0, 0))) (i : Nat) : W.frozen? ⟨b, i, none⟩ = false := by
  simp [World.frozen?, h]

/-- a plan on its way: its block b, its marks sb, its lists lb -/
structure Dq (W : World) (B b sb lb : Nat) (vw : Value) (vs : List Value) (G : Nat → Prop) (ws : List (Int × Int)) (st : List Bool) (ls : List (List Int)) : Prop where
  hb : W.heap[b]? = some (.cells [vw, .slice (some ⟨sb, 0, none⟩) st.length st.length, .slice (some ⟨lb, 0, none⟩) ls.length ls.length].toArray 159 (0, 0))
  hs : W.heap[sb]? = some (.cells (bv st).toArray 4 (0, 0))
  hl : W.heap[lb]? = some (.cells vs.toArray 58 (0, 0))
  vl : vs.length = ls.length
  n1 : b ≠ sb
  n2 : b ≠ lb
  n3 : sb ≠ lb
  own : ∀ (c : Nat) v l, vs[c]? = some v → ls[c]? = some l → OI W B v l
  far : ∀ (c : Nat) v g, vs[c]? = some v → v.ownBlock = some g → g ≠ b ∧ g ≠ sb ∧ g ≠ lb
  dis : ∀ (c d : Nat) v u g, vs[c]? = some v → vs[d]? = some u → v.ownBlock = some g → u.ownBlock = some g → c = d
  l1 : B ≤ b
  l2 : B ≤ sb
  l3 : B ≤ lb
  rw : R2 G W vw ws
  gb : ∀ g, G g → g < B
/-- the blocks of it -/
def fp (b sb lb : Nat) (vs : List Value) (k : Nat) : Prop := k = b ∨ k = sb ∨ k = lb ∨ ∃ (c : Nat) (v : Value), vs[c]? = some v ∧ v.ownBlock = some k
section
variable {W W' : World} {B b sb lb : Nat} {vw : Value} {vs : List Value} {G : Nat → Prop} {ws : List (Int × Int)} {st : List Bool} {ls : List (List Int)}
theorem Dq.list (h : Dq W B b sb lb vw vs G ws st ls) {c : Nat} {v : Value} (hv : vs[c]? = some v) : ∃ l, ls[c]? = some l ∧ OI W B v l := by
  have hc : c < ls.length := by rw [← h.vl]; exact (List.getElem?_eq_some_iff.1 hv).1
  exact ⟨_, List.getElem?_eq_getElem hc, h.own c v _ hv (List.getElem?_eq_getElem hc)⟩
theorem Dq.val (h : Dq W B b sb lb vw vs G ws st ls) {c : Nat} {l : List Int} (hl : ls[c]? = some l) : ∃ v, vs[c]? = some v ∧ OI W B v l := by
  have hc : c < vs.length := by rw [h.vl]; exact (List.getElem?_eq_some_iff.1 hl).1
  exact ⟨_, List.getElem?_eq_getElem hc, h.own c _ _ (List.getElem?_eq_getElem hc) hl⟩
theorem Dq.fp_lo (h : Dq W B b sb lb vw vs G ws st ls) {k : Nat} (hk : fp b sb lb vs k) : B ≤ k ∧ k < W.heap.size := by
  rcases hk with rfl | rfl | rfl | ⟨c, v, hv, hk⟩
  · exact ⟨h.l1, (Array.getElem?_eq_some_iff.1 h.hb).1⟩
  · exact ⟨h.l2, (Array.getElem?_eq_some_iff.1 h.hs).1⟩
  · exact ⟨h.l3, (Array.getElem?_eq_some_iff.1 h.hl).1⟩
  · obtain ⟨l, _, ho⟩ := h.list hv
    exact ho.lt k hk
theorem Dq.keep (h : Dq W B b sb lb vw vs G ws st ls) (hz : W.heap.size ≤ W'.heap.size) (hk : ∀ k, k < W.heap.size → fp b sb lb vs k ∨ G k → W'.heap[k]? = W.heap[k]?) : Dq W' B b sb lb vw vs G ws st ls :=
  ⟨(hk b (h.fp_lo (.inl rfl)).2 (.inl (.inl rfl))).trans h.hb, (hk sb (h.fp_lo (.inr (.inl rfl))).2 (.inl (.inr (.inl rfl)))).trans h.hs, (hk lb (h.fp_lo (.inr (.inr (.inl rfl)))).2 (.inl (.inr (.inr (.inl rfl))))).trans h.hl, h.vl, h.n1, h.n2, h.n3,
    fun c v l hv hl => (h.own c v l hv hl).keep fun g hg => hk g ((h.own c v l hv hl).lt g hg).2 (.inl (.inr (.inr (.inr ⟨c, v, hv, hg⟩)))), h.far, h.dis, h.l1, h.l2, h.l3, h.rw.keep hz fun g hg hlt => hk g hlt (.inr hg), h.gb⟩
theorem Dq.below' (h : Dq W B b sb lb vw vs G ws st ls) (hb : Below W.heap.size W W') : Dq W' B b sb lb vw vs G ws st ls := h.keep hb.size fun k hk _ => hb.block k hk
theorem Dq.alloc (h : Dq W B b sb lb vw vs G ws st ls) (o : Obj) : Dq (W.alloc o) B b sb lb vw vs G ws st ls := h.below' ((Below.refl _ _).alloc (Nat.le_refl _) o)
theorem Dq.drew (h : Dq W B b sb lb vw vs G ws st ls) : Dq W.drew B b sb lb vw vs G ws st ls := h.below' (Below.refl _ _).drew
theorem Dq.drewN (h : Dq W B b sb lb vw vs G ws st ls) (n : Nat) : Dq (W.drewN n) B b sb lb vw vs G ws st ls := h.below' (below_drewN (Below.refl _ _) n)
theorem Dq.c0 (h : Dq W B b sb lb vw vs G ws st ls) : W.cell? ⟨b, 0, none⟩ = some vw := blk_cell h.hb 0
theorem Dq.c1 (h : Dq W B b sb lb vw vs G ws st ls) : W.cell? ⟨b, 1, none⟩ = some (.slice (some ⟨sb, 0, none⟩) st.length st.length) := blk_cell h.hb 1
theorem Dq.c2 (h : Dq W B b sb lb vw vs G ws st ls) : W.cell? ⟨b, 2, none⟩ = some (.slice (some ⟨lb, 0, none⟩) ls.length ls.length) := blk_cell h.hb 2
theorem Dq.cs (h : Dq W B b sb lb vw vs G ws st ls) {i : Nat} {x : Bool} (hi : st[i]? = some x) : W.cell? ⟨sb, i, none⟩ = some (.bool x) := (blk_cell h.hs i).trans (bv_some hi)
theorem Dq.cl (h : Dq W B b sb lb vw vs G ws st ls) {i : Nat} {v : Value} (hi : vs[i]? = some v) : W.cell? ⟨lb, i, none⟩ = some v := (blk_cell h.hl i).trans hi
theorem Dq.fs (h : Dq W B b sb lb vw vs G ws st ls) (i : Nat) : W.frozen? ⟨sb, i, none⟩ = false := blk_fr h.hs i
theorem Dq.fl (h : Dq W B b sb lb vw vs G ws st ls) (i : Nat) : W.frozen? ⟨lb, i, none⟩ = false := blk_fr h.hl i
theorem Dq.fp_b (h : Dq W B b sb lb vw vs G ws st ls) : b < W.heap.size := (h.fp_lo (.inl rfl)).2
theorem Dq.fp_l (h : Dq W B b sb lb vw vs G ws st ls) : lb < W.heap.size := (h.fp_lo (.inr (.inr (.inl rfl)))).2
/-- a mark is set -/
theorem Dq.mark (h : Dq W B b sb lb vw vs G ws st ls) (i : Nat) (x : Bool) : Dq (W.setCell ⟨sb, i, none⟩ (.bool x)) B b sb lb vw vs G ws (st.set i x) ls := by
  have keep : ∀ k, k ≠ sb → (W.setCell ⟨sb, i, none⟩ (.bool x)).heap[k]? = W.heap[k]? := fun k hk => Below.heap_setCell W ⟨sb, i, none⟩ _ k hk
  refine ⟨?_, ?_, (keep lb (Ne.symm h.n3)).trans h.hl, h.vl, h.n1, h.n2, h.n3, fun c v l hv hl => (h.own c v l hv hl).keep fun g hg => keep g (h.far c v g hv hg).2.1, h.far, h.dis, h.l1, h.l2, h.l3, h.rw.keep (by simp [World.setCell]) fun g hg _ => keep g (fun e => by have := h.gb g hg; have := h.l2; omega), h.gb⟩
  · rw [List.length_set]; exact (keep b h.n1).trans h.hb
  · rw [← bv_set]; exact blk_set h.hs i _
/-- a list is put in -/
theorem Dq.store (h : Dq W B b sb lb vw vs G ws st ls) {W1 : World} {c : Nat} {v v' : Value} {l' : List Int} (hv : vs[c]? = some v) (hz : W.heap.size ≤ W1.heap.size) (hW : ∀ k, k < W.heap.size → v.ownBlock ≠ some k → W1.heap[k]? = W.heap[k]?)
    (ho : OI W1 B v' l') (hn : ∀ g, v'.ownBlock = some g → v.ownBlock = some g ∨ W.heap.size ≤ g) : Dq (W1.setCell ⟨lb, c, none⟩ v') B b sb lb vw (vs.set c v') G ws st (ls.set c l') := by
  have keep : ∀ k, k ≠ lb → (W1.setCell ⟨lb, c, none⟩ v').heap[k]? = W1.heap[k]? := fun k hk => Below.heap_setCell W1 ⟨lb, c, none⟩ _ k hk
  have hbl := (h.fp_lo (k := b) (.inl rfl)).2
  have hsl := (h.fp_lo (k := sb) (.inr (.inl rfl))).2
  have hll := (h.fp_lo (k := lb) (.inr (.inr (.inl rfl)))).2
  have hcv : c < vs.length := (List.getElem?_eq_some_iff.1 hv).1
  have hcl : c < ls.length := by rw [← h.vl]; exact hcv
  have farv' : ∀ g, v'.ownBlock = some g → g ≠ b ∧ g ≠ sb ∧ g ≠ lb := fun g hg => by
    rcases hn g hg with e | e
    · exact h.far c v g hv e
    · exact ⟨by omega, by omega, by omega⟩
  refine ⟨?_, ?_, ?_, by rw [List.length_set, List.length_set]; exact h.vl, h.n1, h.n2, h.n3, ?_, ?_, ?_, h.l1, h.l2, h.l3, ?_, h.gb⟩
  · rw [List.length_set, keep b h.n2, hW b hbl (fun e => (h.far c v b hv e).1 rfl)]; exact h.hb
  · rw [keep sb h.n3, hW sb hsl (fun e => (h.far c v sb hv e).2.1 rfl)]; exact h.hs
  · exact blk_set ((hW lb hll (fun e => (h.far c v lb hv e).2.2 rfl)).trans h.hl) c v'
  · intro d u l hu hl
    by_cases e : c = d
    · subst e
      rw [List.getElem?_set_self hcv] at hu
      rw [List.getElem?_set_self hcl] at hl
      cases hu; cases hl
      exact ho.keep fun g hg => keep g (farv' g hg).2.2
    · rw [List.getElem?_set_ne e] at hu hl
      refine (h.own d u l hu hl).keep fun g hg => ?_
      rw [keep g (h.far d u g hu hg).2.2, hW g ((h.own d u l hu hl).lt g hg).2 (fun e2 => e (h.dis c d v u g hv hu e2 hg))]
  · intro d u g hu hg
    by_cases e : c = d
    · subst e
      rw [List.getElem?_set_self hcv] at hu
      cases hu
      exact farv' g hg
    · rw [List.getElem?_set_ne e] at hu
      exact h.far d u g hu hg
  · have key : ∀ (d : Nat) u g, d ≠ c → vs[d]? = some u → u.ownBlock = some g → v'.ownBlock = some g → False := fun d u g hd hu hg hg' => by
      rcases hn g hg' with e | e
      · exact hd (h.dis d c u v g hu hv hg e)
      · obtain ⟨l, _, hol⟩ := h.list hu
        have := (hol.lt g hg).2
        omega
    intro d d' u u' g hu hu' hg hg'
    by_cases e : c = d
    · subst e
      rw [List.getElem?_set_self hcv] at hu
      cases hu
      by_cases e' : c = d'
      · exact e'
      · rw [List.getElem?_set_ne e'] at hu'
        exact (key d' u' g (Ne.symm e') hu' hg' hg).elim
    · rw [List.getElem?_set_ne e] at hu
      by_cases e' : c = d'
      · subst e'
        rw [List.getElem?_set_self hcv] at hu'
        cases hu'
        exact (key d u g (Ne.symm e) hu hg hg').elim
      · rw [List.getElem?_set_ne e'] at hu'
        exact h.dis d d' u u' g hu hu' hg hg'
  · refine h.rw.keep (by simp [World.setCell]; exact hz) fun g hg hlt => ?_
    have hB := h.gb g hg
    have h3 := h.l3
    rw [keep g (by omega), hW g hlt (fun e => by
      obtain ⟨l, _, hol⟩ := h.list hv
      have := (hol.lt g e).1
      omega)]
theorem fp_set {c : Nat} {v' : Value} {k : Nat} (hk : fp b sb lb (vs.set c v') k) : fp b sb lb vs k ∨ v'.ownBlock = some k := by
  rcases hk with rfl | rfl | rfl | ⟨d, u, hu, hk⟩
  · exact .inl (.inl rfl)
  · exact .inl (.inr (.inl rfl))
  · exact .inl (.inr (.inr (.inl rfl)))
  · by_cases e : c = d
    · subst e
      have hc : c < vs.length := by have := (List.getElem?_eq_some_iff.1 hu).1; rwa [List.length_set] at this
      rw [List.getElem?_set_self hc] at hu
      cases hu
      exact .inr hk
    · rw [List.getElem?_set_ne e] at hu
      exact .inl (.inr (.inr (.inr ⟨d, u, hu, hk⟩)))
/-- the lists as a plan -/
theorem Dq.rl (h : Dq W B b sb lb vw vs G ws st ls) : RL (fp b sb lb vs) W (.slice (some ⟨lb, 0, none⟩) ls.length ls.length) ls := by
  refine ⟨_, _, rfl, Nat.le_refl _, (fun e => by cases e), .inr ⟨lb, 0, rfl, .inr (.inr (.inl rfl)), (h.fp_lo (.inr (.inr (.inl rfl)))).2, fun i l hl => ?_⟩⟩
  obtain ⟨v, hv, ho⟩ := h.val hl
  exact ⟨v, by rw [Nat.zero_add]; exact h.cl hv, ho.ri fun g hg => .inr (.inr (.inr ⟨i, v, hv, hg⟩))⟩
end
/-- the masks of wants -/
structure Mk (ws : List (Int × Int)) (ms : List Nat) : Prop where
  len : ms.length = ws.length
  eq : ∀ (i : Nat) y, ws[i]? = some y → ∃ m, ms[i]? = some m ∧ y.2 = (m : Int)

theorem ixB (W : World) {g n cap j : Nat} (hj : j < n) : (Instr.indexAt 157 (.slice (some ⟨g, 0, none⟩) n cap) (.int .i64 (j : Int))).run Try.prog W = .ok (.pointer (some ⟨g, j, none⟩)) W := by
  rw [run_indexAt_slice W 157 _ n cap .i64 j (by kernel_rfl), if_pos ⟨by omega, by omega⟩, show Try.prog.elem 157 = 4 by kernel_rfl, Try.sizeOf4]
  simp only [Result.andThen_ok, Int.toNat_natCast, Addr.add_mid, Nat.mul_one, Nat.zero_add]
theorem ixP0 (W : World) {g n cap j : Nat} (hj : j < n) : (Instr.indexAt 32 (.slice (some ⟨g, 0, none⟩) n cap) (.int .i64 (j : Int))).run Try.prog W = .ok (.pointer (some ⟨g, j, none⟩)) W := by
  have := ixP W (a := some ⟨g, 0, none⟩) (cap := cap) rfl hj
  rwa [Nat.zero_add] at this

end Go.Proofs.Ytdfdkddjkhcgdah
