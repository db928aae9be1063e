/- Several texts in one, each with its own head. -/
import Derived.Test.YtigjbgecdaljkahPk9
/- Each want's time, and the cost, as the document tells them. -/
namespace Go.Proofs.Ytigjbgecdaljkah
open Go.RowKit

namespace RM
variable {s : St} {ws : List (Int × Int)}
theorem pr1_get {r : Int × Int} {l : List Int} {j : Nat} {x : Int} (h : l[j]? = some x) : (pr1 s ws r l)[j]? = some (x, ar s (go s (bg r) ((l.take j).map (wf ws))) (wf ws x)) := by
  have h4 : (l.map (wf ws))[j]? = some (wf ws x) := by rw [List.getElem?_map, h]; rfl
  have h5 := tm_get (s := s) (a := bg r) h4
  rw [← List.map_take] at h5
  unfold pr1
  rw [List.getElem?_zip_eq_some]
  exact ⟨h, h5⟩
theorem pr1_length (r : Int × Int) (l : List Int) : (pr1 s ws r l).length = l.length := by
  unfold pr1
  rw [List.length_zip, tm_length, List.length_map, Nat.min_self]
theorem prs_snoc : ∀ {k : Nat} {cs : List (Int × Int)} {p : List (List Int)} {r : Int × Int} {l : List Int}, cs[k]? = some r → p[k]? = some l → prs s ws (cs.take (k + 1)) (p.take (k + 1)) = prs s ws (cs.take k) (p.take k) ++ pr1 s ws r l
  | _, [], _, _, _, h, _ => by simp at h
  | _, _ :: _, [], _, _, _, h => by simp at h
  | 0, r0 :: cs, l0 :: p, r, l, h1, h2 => by
    simp at h1 h2
    subst h1 h2
    simp [prs]
  | k + 1, r0 :: cs, l0 :: p, r, l, h1, h2 => by
    have := prs_snoc (k := k) (cs := cs) (p := p) (r := r) (l := l) (by simpa using h1) (by simpa using h2)
    rw [List.take_succ_cons, List.take_succ_cons, List.take_succ_cons, List.take_succ_cons]
    show pr1 s ws r0 l0 ++ prs s ws (cs.take (k + 1)) (p.take (k + 1)) = (pr1 s ws r0 l0 ++ prs s ws (cs.take k) (p.take k)) ++ pr1 s ws r l
    rw [this, List.append_assoc]
/-- what is written behind k lists, and j wants of the next one -/
def wto (s : St) (ws cs : List (Int × Int)) (p : List (List Int)) (r : Int × Int) (l : List Int) (k j : Nat) : List Int := put (List.replicate ws.length 0) (prs s ws (cs.take k) (p.take k) ++ (pr1 s ws r l).take j)
def wtk (s : St) (ws cs : List (Int × Int)) (p : List (List Int)) (k : Nat) : List Int := put (List.replicate ws.length 0) (prs s ws (cs.take k) (p.take k))
variable {cs : List (Int × Int)} {p : List (List Int)}
theorem wto_zero (r : Int × Int) (l : List Int) (k : Nat) : wto s ws cs p r l k 0 = wtk s ws cs p k := by unfold wto wtk; rw [List.take_zero, List.append_nil]
theorem wto_succ {r : Int × Int} {l : List Int} {k j : Nat} {x : Int} (h : l[j]? = some x) : wto s ws cs p r l k (j + 1) = (wto s ws cs p r l k j).set x.toNat (ar s (go s (bg r) ((l.take j).map (wf ws))) (wf ws x)) := by
  unfold wto
  rw [take_snoc (pr1_get h), ← List.append_assoc, put_append _ [_]]
  rfl
theorem wto_end {r : Int × Int} {l : List Int} {k : Nat} (h1 : cs[k]? = some r) (h2 : p[k]? = some l) : wto s ws cs p r l k l.length = wtk s ws cs p (k + 1) := by
  unfold wto wtk
  rw [prs_snoc h1 h2, List.take_of_length_le (l := pr1 s ws r l) (by rw [pr1_length]; exact Nat.le_refl _)]
theorem wtk_zero : wtk s ws cs p 0 = List.replicate ws.length 0 := by unfold wtk; simp [prs, put]
theorem wtk_end {k : Nat} (h1 : cs.length ≤ k) (h2 : p.length ≤ k) : wtk s ws cs p k = wts s ws cs p := by
  unfold wtk wts
  rw [List.take_of_length_le h1, List.take_of_length_le h2]
theorem wto_length (r : Int × Int) (l : List Int) (k j : Nat) : (wto s ws cs p r l k j).length = ws.length := by unfold wto; rw [put_length, List.length_replicate]
end RM

/-- what holds while times are written -/
structure Wq (w W : World) (cb : Nat) (s : Sn) (D : Nat → Prop) (vc vw vp : Value) (p : List (List Int)) (o : List Int) : Prop where
  nb : NB W w.heap.size s.st vc vw
  ow : OI W (w.heap.size + 1) (.slice (some ⟨cb, 0, none⟩) s.ws.length s.ws.length) o
  rp : RL D W vp p
  rc : R2 D W vc s.cs
  rw : R2 D W vw s.ws
  dl : ∀ g, D g → g < w.heap.size
  bel : Below w.heap.size w W
section
variable {w W W' : World} {cb : Nat} {s : Sn} {D : Nat → Prop} {vc vw vp : Value} {p : List (List Int)} {o : List Int}
theorem Wq.next (h : Wq w W cb s D vc vw vp p o) (hb : Below W.heap.size W W') : Wq w W' cb s D vc vw vp p o :=
  ⟨h.nb.below' hb, h.ow.keep fun g hg => hb.block g (h.ow.lt g hg).2, h.rp.below' hb, h.rc.below' hb, h.rw.below' hb, h.dl, below_class h.bel hb⟩
theorem Wq.put (h : Wq w W cb s D vc vw vp p o) (i : Nat) (x : Int) : Wq w (W.setCell ⟨cb, i, none⟩ (.int .i64 x)) cb s D vc vw vp p (o.set i x) := by
  have hl := (h.ow.lt cb rfl).1
  have keep : ∀ k, k ≠ cb → (W.setCell ⟨cb, i, none⟩ (.int .i64 x)).heap[k]? = W.heap[k]? := fun k hk => Below.heap_setCell W ⟨cb, i, none⟩ _ k hk
  have kd : ∀ g, D g → g < W.heap.size → (W.setCell ⟨cb, i, none⟩ (.int .i64 x)).heap[g]? = W.heap[g]? := fun g hg _ => keep g (by have := h.dl g hg; omega)
  have hs : W.heap.size ≤ (W.setCell ⟨cb, i, none⟩ (.int .i64 x)).heap.size := by simp [World.setCell]
  exact ⟨(keep _ (by omega)).trans h.nb, h.ow.put i x, h.rp.keep hs kd, h.rc.keep hs kd, h.rw.keep hs kd, h.dl, h.bel.setCell (p := ⟨cb, i, none⟩) (by show _ ≤ cb; omega) _⟩
end
theorem ic_rep (n : Nat) : ic (List.replicate n 0) = List.replicate n (Value.int .i64 0) := by unfold ic; rw [List.map_replicate]

theorem cell_lt {W : World} {g o : Nat} {v : Value} (h : W.cell? ⟨g, o, none⟩ = some v) : g < W.heap.size := by
  obtain ⟨ob, ho, _⟩ := cells_of_cell h
  exact (Array.getElem?_eq_some_iff.1 ho).1
end Go.Proofs.Ytigjbgecdaljkah

/- The cost, as the document tells it; whether two lists are one. -/
namespace Go.Proofs.Ytigjbgecdaljkah
open Go.RowKit

namespace RM
theorem put_mem {t : Int} : ∀ {q : List (Int × Int)} {o : List Int}, t ∈ put o q → t ∈ o ∨ ∃ x ∈ q, x.2 = t
  | [], _, h => .inl h
  | x :: q, o, h => by
    rcases put_mem (q := q) (o := o.set x.1.toNat x.2) h with h | ⟨y, hy, e⟩
    · rcases List.mem_or_eq_of_mem_set h with h | h
      · exact .inl h
      · exact .inr ⟨x, by simp, h.symm⟩
    · exact .inr ⟨y, by simp [hy], e⟩
theorem prs_bd {s : St} {ws cs : List (Int × Int)} {p : List (List Int)} (z : Rz s ws cs) (hp : ∀ x ∈ p.flatten, 0 ≤ x ∧ x < ws.length) (hc : ∀ r ∈ cs, r.2 ≤ 1000000) (hl : ∀ l ∈ p, l.length ≤ 1000) : ∀ x ∈ prs s ws cs p, 0 ≤ x.2 ∧ x.2 ≤ 80000000 := fun x hx => by
  obtain ⟨w, t⟩ := x
  obtain ⟨c, i, r, l, h1, h2, h3, h4⟩ := prs_where hx
  have hall : ∀ x ∈ l, 0 ≤ x ∧ x < ws.length := fun x hx => hp x (List.mem_flatten.2 ⟨l, List.mem_of_getElem? h2, hx⟩)
  have hin := z.inn (l := l.take i) fun x hx => hall x (List.mem_of_mem_take hx)
  have ok0 := z.cr r (List.mem_of_getElem? h1)
  have ok := go_ok z.rt ok0 hin
  have g1 := ar_nn z.rt ok (wf ws w)
  have g2 := ar_le z.rt ok (wf ws w)
  have g3 := go_le z.rt ok0 hin
  have g4 := hc r (List.mem_of_getElem? h1)
  have g5 := hl l (List.mem_of_getElem? h2)
  have g6 := (List.getElem?_eq_some_iff.1 h3).1
  rw [List.length_map, List.length_take] at g3
  have g7 : (bg r).le = r.2 := rfl
  show 0 ≤ t ∧ t ≤ _
  omega
theorem wts_bd {s : St} {ws cs : List (Int × Int)} {p : List (List Int)} (z : Rz s ws cs) (hp : ∀ x ∈ p.flatten, 0 ≤ x ∧ x < ws.length) (hc : ∀ r ∈ cs, r.2 ≤ 1000000) (hl : ∀ l ∈ p, l.length ≤ 1000) : ∀ t ∈ wts s ws cs p, 0 ≤ t ∧ t ≤ 80000000 := fun t ht => by
  rcases put_mem ht with h | ⟨x, hx, e⟩
  · rw [List.mem_replicate] at h; omega
  · rw [← e]; exact prs_bd z hp hc hl x hx
theorem sum_bd {B : Int} : ∀ {l : List Int}, (∀ t ∈ l, 0 ≤ t ∧ t ≤ B) → 0 ≤ l.sum ∧ l.sum ≤ B * (l.length : Int)
  | [], _ => by simp
  | a :: l, h => by
    have h1 := h a (by simp)
    have h2 := sum_bd (l := l) fun t ht => h t (by simp [ht])
    rw [List.sum_cons, List.length_cons, Int.natCast_add, Int.mul_add]
    omega
end RM
/-- what is known of a plan that may be -/
structure Fs (s : Sn) (p : List (List Int)) : Prop where
  rg : rgt s = true
  rz : RM.Rz s.st s.ws s.cs
  fz : PM.Fz (msk s) p
  pc : s.cs.length = p.length
  ml : (msk s).length = s.ws.length
  wl : s.ws.length ≤ 128
  p1 : 1 ≤ p.length
  p8 : p.length ≤ 8
  fr : ∀ x ∈ p.flatten, 0 ≤ x ∧ x < s.ws.length
  af : ∀ r ∈ s.cs, r.2 ≤ 1000000
theorem fsb_fs {s : Sn} {p : List (List Int)} (hf : fsb s p = true) : Fs s p := by
  have hf3 : rgt s = true ∧ p.length = s.cs.length ∧ PM.feas (msk s) p = true := by unfold fsb at hf; simp [Bool.and_eq_true] at hf; exact ⟨hf.1.1, hf.1.2, hf.2⟩
  obtain ⟨n, hrs⟩ := rgt_rs hf3.1
  have h1 := hrs.cl
  have h2 := hrs.n8
  have h3 := hrs.n1
  have h4 := hf3.2.1
  refine ⟨hf3.1, rgt_rz hf3.1, PM.feas_iff.1 hf3.2.2, hf3.2.1.symm, hrs.mm.len, hrs.wl, by omega, by omega, fun x hx => ?_, rgt_after hf3.1⟩
  have := RM.fz_range (PM.feas_iff.1 hf3.2.2) x hx
  rw [show (msk s).length = s.ws.length from hrs.mm.len] at this
  exact this
/-- what a plan costs -/
theorem Fs.sum {s : Sn} {p : List (List Int)} (h : Fs s p) : (RM.wts s.st s.ws s.cs p).sum = RM.cst s.st s.ws s.cs p := RM.wts_sum h.fz h.ml h.pc
theorem Fs.bd {s : Sn} {p : List (List Int)} (h : Fs s p) (hl : ∀ l ∈ p, l.length ≤ 1000) : ∀ t ∈ RM.wts s.st s.ws s.cs p, 0 ≤ t ∧ t ≤ 80000000 := RM.wts_bd h.rz h.fr h.af hl
theorem Fs.cost {s : Sn} {p : List (List Int)} (h : Fs s p) (hl : ∀ l ∈ p, l.length ≤ 1000) : 0 ≤ RM.cst s.st s.ws s.cs p ∧ RM.cst s.st s.ws s.cs p ≤ 10240000000 := by
  have h1 := RM.sum_bd (h.bd hl)
  rw [h.sum, RM.wts_length] at h1
  have := h.wl
  omega

end Go.Proofs.Ytigjbgecdaljkah
