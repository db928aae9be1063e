/- The least cost of a beginning, as the program tells it. -/
import Derived.Test.YtkcppidmbojglagBdZ
import Derived.Test.YtkcppidmbojglagPlY
namespace Go.Proofs.Ytkcppidmbojglag
open Go.RowKit Go.Shelf
attribute [local go_sem] Oper.semAt_some

/-- where Least begins: the snapshot, the car, and room for its answers -/
structure Lz (w W : World) (s : Sn) (vc vw : Value) (car : Int) : Prop where
  nb : NB W w.heap.size s.st vc vw
  cb : W.heap[w.heap.size + 1]? = some (.cells #[.int .i64 car] 3 (0, 0))
  nb2 : W.heap[w.heap.size + 1 + 1]? = some (.cells #[.int .i64 0] 3 (0, 0))
  eb2 : W.heap[w.heap.size + 1 + 1 + 1]? = some (.cells #[.int .i64 0] 33 (0, 0))
  bel : Below w.heap.size w W
section
variable {w W W' : World} {s : Sn} {vc vw : Value} {car : Int}
theorem Lz.next (h : Lz w W s vc vw car) (hb : Below W.heap.size W W') : Lz w W' s vc vw car :=
  ⟨h.nb.below' hb, (hb.block _ (Array.getElem?_eq_some_iff.1 h.cb).1).trans h.cb, (hb.block _ (Array.getElem?_eq_some_iff.1 h.nb2).1).trans h.nb2, (hb.block _ (Array.getElem?_eq_some_iff.1 h.eb2).1).trans h.eb2, below_class h.bel hb⟩
theorem Lz.size (h : Lz w W s vc vw car) : w.heap.size + 1 + 1 + 1 < W.heap.size := (Array.getElem?_eq_some_iff.1 h.eb2).1
theorem Lz.kp {G : Nat → Prop} (h : Lz w W s vc vw car) (hk : Kp G W W') (hG : ∀ k, G k → w.heap.size + 1 + 1 + 1 < k) : Lz w W' s vc vw car := by
  have hz := h.size
  have f : ∀ k, k ≤ w.heap.size + 1 + 1 + 1 → W'.heap[k]? = W.heap[k]? := fun k hk' => hk.block k (by omega) (fun e => by have := hG k e; omega)
  exact ⟨(f _ (by omega)).trans h.nb, (f _ (by omega)).trans h.cb, (f _ (by omega)).trans h.nb2, (f _ (by omega)).trans h.eb2, hk.below h.bel h.bel.size (fun i hi e => by have := hG i e; omega)⟩
theorem Lz.new (w : World) (s : Sn) (vc vw : Value) (car : Int) : Lz w ((((w.alloc (.cells (nv s.st vc vw).toArray 27)).alloc (.cells #[.int .i64 car] 3)).alloc (.cells #[.int .i64 0] 3)).alloc (.cells #[.int .i64 0] 33)) s vc vw car := by
  obtain ⟨p1, p2, p3⟩ := heap3 (w.alloc (.cells (nv s.st vc vw).toArray 27)) (.cells #[.int .i64 car] 3) (.cells #[.int .i64 0] 3) (.cells #[.int .i64 0] 33)
  rw [World.size_alloc] at p1 p2 p3
  have hb : Below (w.alloc (.cells (nv s.st vc vw).toArray 27)).heap.size (w.alloc (.cells (nv s.st vc vw).toArray 27)) ((((w.alloc (.cells (nv s.st vc vw).toArray 27)).alloc (.cells #[.int .i64 car] 3)).alloc (.cells #[.int .i64 0] 3)).alloc (.cells #[.int .i64 0] 33)) :=
    (((Below.refl _ _).alloc (Nat.le_refl _) _).alloc (by simp) _).alloc (by simp) _
  exact ⟨(NB.new w s.st vc vw).below' hb, p1, p2, p3, ((Below.refl _ w).alloc (Nat.le_refl _) _).trans (hb.mono (by simp))⟩
end
/-- the answers are written -/
theorem Lz.put {w W : World} {s : Sn} {vc vw : Value} {car : Int} (h : Lz w W s vc vw car) (x y : Int) :
    ((W.setCell ⟨w.heap.size + 1 + 1, 0, none⟩ (.int .i64 x)).setCell ⟨w.heap.size + 1 + 1 + 1, 0, none⟩ (.int .i64 y)).heap[w.heap.size + 1 + 1]? = some (.cells #[.int .i64 x] 3 (0, 0)) ∧
    ((W.setCell ⟨w.heap.size + 1 + 1, 0, none⟩ (.int .i64 x)).setCell ⟨w.heap.size + 1 + 1 + 1, 0, none⟩ (.int .i64 y)).heap[w.heap.size + 1 + 1 + 1]? = some (.cells #[.int .i64 y] 33 (0, 0)) ∧
    Kp (fun k => k = w.heap.size + 1 + 1 ∨ k = w.heap.size + 1 + 1 + 1) W ((W.setCell ⟨w.heap.size + 1 + 1, 0, none⟩ (.int .i64 x)).setCell ⟨w.heap.size + 1 + 1 + 1, 0, none⟩ (.int .i64 y)) := by
  have hk : Kp (fun k => k = w.heap.size + 1 + 1 ∨ k = w.heap.size + 1 + 1 + 1) W ((W.setCell ⟨w.heap.size + 1 + 1, 0, none⟩ (.int .i64 x)).setCell ⟨w.heap.size + 1 + 1 + 1, 0, none⟩ (.int .i64 y)) := ((Kp.refl _ W).set _ _ _ (fun _ => .inl rfl)).set _ _ _ (fun _ => .inr rfl)
  have h1 := blk_set (C := [.int .i64 0]) h.nb2 0 (.int .i64 x)
  have hz := h.size
  have hk1 : Kp (fun k => k = w.heap.size + 1 + 1) W (W.setCell ⟨w.heap.size + 1 + 1, 0, none⟩ (.int .i64 x)) := (Kp.refl _ W).set _ _ _ (fun _ => rfl)
  have hk2 : Kp (fun k => k = w.heap.size + 1 + 1 + 1) (W.setCell ⟨w.heap.size + 1 + 1, 0, none⟩ (.int .i64 x)) ((W.setCell ⟨w.heap.size + 1 + 1, 0, none⟩ (.int .i64 x)).setCell ⟨w.heap.size + 1 + 1 + 1, 0, none⟩ (.int .i64 y)) := (Kp.refl _ _).set _ _ _ (fun _ => rfl)
  refine ⟨(hk2.block _ (by have := hk1.size; omega) (by omega)).trans h1, ?_, hk⟩
  exact blk_set (C := [.int .i64 0]) ((hk1.block (w.heap.size + 1 + 1 + 1) hz (by omega)).trans h.eb2) 0 (.int .i64 y)
theorem one_cell {W : World} {b : Nat} {v : Value} {t : TypeId} (h : W.heap[b]? = some (.cells #[v] t (0, 0))) : W.cell? ⟨b, 0, none⟩ = some v := by rw [cell_of_row _ _ 0 _ _ _ h]; rfl
theorem one_fr {W : World} {b : Nat} {v : Value} {t : TypeId} (h : W.heap[b]? = some (.cells #[v] t (0, 0))) : W.frozen? ⟨b, 0, none⟩ = false := by simp [World.frozen?, h]
/-- the two answers, read where they lie -/
theorem ret_least {fn : Func} {t u : Tmp} (hf : fn.results = #[.cell t 3, .cell u 33]) {tmps : Array Value} {w : World} {b c : Nat} {x y : Int} (hp : tmps.getD t undef = .pointer (some ⟨b, 0, none⟩)) (hq : tmps.getD u undef = .pointer (some ⟨c, 0, none⟩))
    (h1 : w.cell? ⟨b, 0, none⟩ = some (.int .i64 x)) (h2 : w.cell? ⟨c, 0, none⟩ = some (.int .i64 y)) : (results fn tmps).run Try.prog w = .ok (.tuple #[.int .i64 x, .int .i64 y]) w := by
  rw [Array.getD_eq_getD_getElem?] at hp hq
  simp [results, hf, hp, hq, go_sem, h1, h2]

set_option maxHeartbeats 4000000 in
theorem least_out (s : Sn) (D : Nat → Prop) (vc vw vp : Value) (car : Int) (p : List (List Int)) (w : World) (hc : R2 D w vc s.cs) (hw : R2 D w vw s.ws) (hp : RL D w vp p) (hn : ¬ (rgt s = true ∧ p.length = s.cs.length ∧ 0 ≤ car ∧ car < (p.length : Int))) :
    Calls Try.prog 10 #[.agg (nv s.st vc vw).toArray, .int .i64 car, vp] w fun e w' => e = .returned (.tuple #[.int .i64 0, .int .i64 9]) ∧ Below w.heap.size w w' := by
  have HZ := Hid.intro' (Lz.new w s vc vw car)
  have HR := Hid.intro' (snapRight_any s D vc vw _ (hc.below' HZ.out.bel) (hw.below' HZ.out.bel))
  obtain ⟨ac, kc, rfl, _, _⟩ := hc.form
  obtain ⟨ap, kp, rfl, _, _⟩ := hp.form
  clear hc hw hp
  go_enter Try.func10, Try.ntmps10
  go_wp2_with (refine wpList_load27g rfl _ rfl w.heap.size s.st _ _ rfl HZ.out.nb ?_)
  refine HR.out.mono ?_
  rintro e W1 ⟨rfl, hb1⟩
  have HZ1 := Hid.intro' (HZ.out.next hb1)
  have d2 := one_cell HZ1.out.nb2
  have f2 := one_fr HZ1.out.nb2
  have d3 := one_cell HZ1.out.eb2
  have f3 := one_fr HZ1.out.eb2
  have dc := one_cell HZ1.out.cb
  have c13 : W1.cell? ⟨w.heap.size, 13, none⟩ = some (.slice ac s.cs.length kc) := HZ1.out.nb.cell 13
  have HE : Hid (True ∧ ((W1.setCell ⟨w.heap.size + 1 + 1, 0, none⟩ (.int .i64 0)).setCell ⟨w.heap.size + 1 + 1 + 1, 0, none⟩ (.int .i64 9)).cell? ⟨w.heap.size + 1 + 1, 0, none⟩ = some (.int .i64 0) ∧ ((W1.setCell ⟨w.heap.size + 1 + 1, 0, none⟩ (.int .i64 0)).setCell ⟨w.heap.size + 1 + 1 + 1, 0, none⟩ (.int .i64 9)).cell? ⟨w.heap.size + 1 + 1 + 1, 0, none⟩ = some (.int .i64 9) ∧ Below w.heap.size w ((W1.setCell ⟨w.heap.size + 1 + 1, 0, none⟩ (.int .i64 0)).setCell ⟨w.heap.size + 1 + 1 + 1, 0, none⟩ (.int .i64 9))) := by
    obtain ⟨p1, p2, p3⟩ := HZ1.out.put 0 9
    exact ⟨trivial, one_cell p1, one_cell p2, p3.below HZ1.out.bel HZ1.out.bel.size (fun i hi e => by omega)⟩
  clear hb1 HR HZ
  cases hr : rgt s with
  | false =>
    clear hn
    go_wp2
    exact bodyPost_ret (ret_least Try.results10 rfl rfl HE.out.2.1 HE.out.2.2.1) rfl ⟨rfl, HE.out.2.2.2⟩
  | true =>
    by_cases hl : p.length = s.cs.length
    · have q1 : ((p.length : Int) != (s.cs.length : Int)) = false := by simp; omega
      have hq : (decide (0 ≤ car) && decide (car < (p.length : Int))) = false := by
        have hh : ¬ (0 ≤ car ∧ car < (p.length : Int)) := fun g => hn ⟨hr, hl, g.1, g.2⟩
        rw [Bool.and_eq_false_iff]
        by_cases g : 0 ≤ car
        · right; exact decide_eq_false fun g2 => hh ⟨g, g2⟩
        · left; exact decide_eq_false g
      have HH := Hid.intro' (hasList_any ap p.length kp car W1)
      rw [hq] at HH
      clear hn hl hq hr
      go_wp2_with fail
      refine HH.out.mono ?_
      rintro e w' ⟨rfl, rfl⟩
      go_wp2
      exact bodyPost_ret (ret_least Try.results10 rfl rfl HE.out.2.1 HE.out.2.2.1) rfl ⟨rfl, HE.out.2.2.2⟩
    · have q1 : ((p.length : Int) != (s.cs.length : Int)) = true := by simp; omega
      have q2 : ¬ (p.length : Int) = (s.cs.length : Int) := by omega
      clear hn hl hr
      go_wp2
      exact bodyPost_ret (ret_least Try.results10 rfl rfl HE.out.2.1 HE.out.2.2.1) rfl ⟨rfl, HE.out.2.2.2⟩

end Go.Proofs.Ytkcppidmbojglag
