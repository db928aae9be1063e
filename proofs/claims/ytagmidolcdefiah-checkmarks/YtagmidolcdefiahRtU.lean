/- A plan's stops, gone through by a function that is ranged over. -/
import Derived.Test.YtagmidolcdefiahPk4
import Derived.Test.YtagmidolcdefiahPk7
import Derived.Test.YtagmidolcdefiahPk14
import Derived.Test.YtagmidolcdefiahPk3
import Derived.RangeFuncBound
import Derived.Shelf.RegionOpen
import Derived.TacticsInMore
import Derived.LoopNIn
import Derived.LoopIn
import Derived.OwnWalkIn
namespace Go.Proofs.Ytagmidolcdefiah
open Go.RowKit Go.Shelf
attribute [local go_sem] Oper.semAt_some
namespace RM
/-- a list's wants, each with its stop -/
def st1 (s : St) (ws : List (Int × Int)) : Sp → List Int → List (Int × Sp)
  | _, [] => []
  | a, x :: l => (x, nx s a (wf ws x)) :: st1 s ws (nx s a (wf ws x)) l
/-- a plan's wants, each with its stop -/
def stp (s : St) (ws : List (Int × Int)) : List (Int × Int) → List (List Int) → List (Int × Sp)
  | r :: cs, l :: p => st1 s ws (bg r) l ++ stp s ws cs p
  | _, _ => []
section
variable {s : St} {ws : List (Int × Int)}
theorem nx_he (a : Sp) (f : Int) : (nx s a f).he = ar s a f := by
  unfold nx ar
  split <;> rfl
theorem st1_pr : ∀ (l : List Int) (a : Sp), (st1 s ws a l).map (fun x => (x.1, x.2.he)) = l.zip (tm s a (l.map (wf ws)))
  | [], _ => rfl
  | x :: l, a => by
    show (x, (nx s a (wf ws x)).he) :: (st1 s ws (nx s a (wf ws x)) l).map _ = (x, ar s a (wf ws x)) :: l.zip _
    rw [st1_pr l, nx_he]
theorem stp_prs : ∀ (cs : List (Int × Int)) (p : List (List Int)), (stp s ws cs p).map (fun x => (x.1, x.2.he)) = prs s ws cs p
  | r :: cs, l :: p => by
    show (st1 s ws (bg r) l ++ stp s ws cs p).map _ = pr1 s ws r l ++ prs s ws cs p
    rw [List.map_append, stp_prs cs p, st1_pr]; rfl
  | [], _ => by simp [stp, prs]
  | _ :: _, [] => rfl
theorem st1_snoc : ∀ (l : List Int) (x : Int) (a : Sp), st1 s ws a (l ++ [x]) = st1 s ws a l ++ [(x, nx s (go s a (l.map (wf ws))) (wf ws x))]
  | [], _, _ => rfl
  | y :: l, x, a => by
    show _ :: st1 s ws _ (l ++ [x]) = _ :: (st1 s ws _ l ++ _)
    rw [st1_snoc l x]; rfl
theorem st1_take {l : List Int} {j : Nat} {x : Int} (h : l[j]? = some x) (a : Sp) : st1 s ws a (l.take (j + 1)) = st1 s ws a (l.take j) ++ [(x, nx s (go s a ((l.take j).map (wf ws))) (wf ws x))] := by
  rw [List.take_add_one, h, Option.toList_some, st1_snoc]
theorem st1_pre : ∀ {l : List Int} {j : Nat} (a : Sp), st1 s ws a (l.take j) <+: st1 s ws a l
  | [], j, a => by rw [List.take_nil]; exact List.prefix_rfl
  | x :: l, 0, a => List.nil_prefix
  | x :: l, j + 1, a => by
    show _ :: _ <+: _ :: _
    exact (List.prefix_cons_inj _).2 (st1_pre _)
theorem stp_append : ∀ {cs cs' : List (Int × Int)} {p p' : List (List Int)}, cs.length = p.length → stp s ws (cs ++ cs') (p ++ p') = stp s ws cs p ++ stp s ws cs' p'
  | [], _, [], _, _ => rfl
  | [], _, _ :: _, _, h => by simp at h
  | _ :: _, _, [], _, h => by simp at h
  | r :: cs, cs', l :: p, p', h => by
    show st1 s ws (bg r) l ++ stp s ws (cs ++ cs') (p ++ p') = st1 s ws (bg r) l ++ stp s ws cs p ++ stp s ws cs' p'
    rw [stp_append (by simpa using h), List.append_assoc]
/-- the stops of the first k cars -/
def stk (s : St) (ws cs : List (Int × Int)) (p : List (List Int)) (k : Nat) : List (Int × Sp) := stp s ws (cs.take k) (p.take k)
variable {cs : List (Int × Int)} {p : List (List Int)} {k : Nat} {r : Int × Int} {l : List Int}
theorem stk_succ (hl : cs.length = p.length) (hr : cs[k]? = some r) (hp : p[k]? = some l) : stk s ws cs p (k + 1) = stk s ws cs p k ++ st1 s ws (bg r) l := by
  unfold stk
  rw [List.take_add_one, List.take_add_one, hr, hp, Option.toList_some, Option.toList_some, stp_append (by rw [List.length_take, List.length_take, hl])]
  congr 1
  show st1 s ws (bg r) l ++ [] = _
  rw [List.append_nil]
theorem stk_all (hl : cs.length = p.length) (hk : p.length ≤ k) : stk s ws cs p k = stp s ws cs p := by
  unfold stk
  rw [List.take_of_length_le (by omega), List.take_of_length_le hk]
theorem stk_pre (hl : cs.length = p.length) : stk s ws cs p k <+: stp s ws cs p := by
  have e : stp s ws cs p = stp s ws (cs.take k ++ cs.drop k) (p.take k ++ p.drop k) := by rw [List.take_append_drop, List.take_append_drop]
  rw [e, stp_append (by rw [List.length_take, List.length_take, hl])]
  exact List.prefix_append _ _
end
end RM
/-- what the function that goes through the stops reads -/
structure Sq (W : World) (c1 c2 : Nat) (s : Sn) (vc vw vp : Value) (p : List (List Int)) (G : Nat → Prop) : Prop where
  nb : NB W c2 s.st vc vw
  pc : W.heap[c1]? = some (.cells #[vp] 32 (0, 0))
  rc : R2 G W vc s.cs
  rw : R2 G W vw s.ws
  rp : RL G W vp p
theorem Sq.keep {W W' : World} {c1 c2 : Nat} {s : Sn} {vc vw vp : Value} {p : List (List Int)} {G : Nat → Prop} (h : Sq W c1 c2 s vc vw vp p G) (h1 : G c1) (h2 : G c2) (hz : W.heap.size ≤ W'.heap.size) (hk : ∀ k, G k → k < W.heap.size → W'.heap[k]? = W.heap[k]?) : Sq W' c1 c2 s vc vw vp p G :=
  ⟨(hk c2 h2 h.nb.lt).trans h.nb, (hk c1 h1 (Array.getElem?_eq_some_iff.1 h.pc).1).trans h.pc, h.rc.keep hz hk, h.rw.keep hz hk, h.rp.keep hz hk⟩
theorem Sq.below' {W W' : World} {c1 c2 : Nat} {s : Sn} {vc vw vp : Value} {p : List (List Int)} {G : Nat → Prop} (h : Sq W c1 c2 s vc vw vp p G) (hb : Below W.heap.size W W') : Sq W' c1 c2 s vc vw vp p G :=
  ⟨h.nb.below' hb, (hb.block _ (Array.getElem?_eq_some_iff.1 h.pc).1).trans h.pc, h.rc.below' hb, h.rw.below' hb, h.rp.below' hb⟩
/-- what is handed out: a want and its stop -/
def ES (n : Nat) (x : Int × RM.Sp) (_ : Nat → Prop) (_ : World) (args : Array Value) : Prop := args = #[.int .i64 x.1, .agg #[.int .i64 x.2.fl, .int .i64 x.2.he, .int .i64 x.2.le]] ∧ 0 ≤ x.1 ∧ x.1 < (n : Int)
/-- what holds between two stops -/
structure Sj (w W : World) (c1 c2 : Nat) (s : Sn) (vc vw vp : Value) (p : List (List Int)) (G F : Nat → Prop) (J : List (Int × RM.Sp) → (Nat → Prop) → World → Prop) (pre : List (Int × RM.Sp)) : Prop where
  sq : Sq W c1 c2 s vc vw vp p G
  nw : ∀ k, F k → w.heap.size ≤ k
  jj : J pre F W
  sz : w.heap.size ≤ W.heap.size
section
variable {w W W' : World} {c1 c2 : Nat} {s : Sn} {vc vw vp : Value} {p : List (List Int)} {G F : Nat → Prop} {J : List (Int × RM.Sp) → (Nat → Prop) → World → Prop} {pre : List (Int × RM.Sp)}
theorem Sj.next (h : Sj w W c1 c2 s vc vw vp p G F J pre) (hJ : Stb J) (hb : Below W.heap.size W W') : Sj w W' c1 c2 s vc vw vp p G F J pre :=
  ⟨h.sq.below' hb, h.nw, hJ pre F F W W' h.jj (Kp.ofBelow _ hb) (fun _ h => .inl h), Nat.le_trans h.sz hb.size⟩
/-- a new block is the function's own -/
theorem Sj.new (h : Sj w W c1 c2 s vc vw vp p G F J pre) (hJ : Stb J) (o : Obj) : Sj w (W.alloc o) c1 c2 s vc vw vp p G (fun k => F k ∨ k = W.heap.size) J pre := by
  have hb := (Below.refl W.heap.size W).alloc (Nat.le_refl _) o
  refine ⟨h.sq.below' hb, fun k hk => hk.elim (h.nw k) (fun e => by have := h.sz; omega), hJ pre F _ W _ h.jj (Kp.ofBelow _ hb) (fun k hk => hk.elim .inl fun e => .inr ⟨by omega, by rw [e]; simp⟩), Nat.le_trans h.sz hb.size⟩
/-- a block of its own is written -/
theorem Sj.put (h : Sj w W c1 c2 s vc vw vp p G F J pre) (hJ : Stb J) (hG : ∀ k, G k → k < w.heap.size) (h1 : G c1) (h2 : G c2) {b : Nat} (hF : F b) (hk : Kp (fun k => k = b) W W') : Sj w W' c1 c2 s vc vw vp p G F J pre := by
  refine ⟨h.sq.keep h1 h2 hk.size (fun k hg hlt => hk.block k hlt (fun e => ?_)), h.nw, hJ pre F F W W' h.jj (hk.mono fun i _ e => by rw [e]; exact hF) (fun _ h => .inl h), Nat.le_trans h.sz hk.size⟩
  have e1 := hG k hg
  have e2 := h.nw b hF
  omega
/-- a round -/
theorem Sj.round (h : Sj w W c1 c2 s vc vw vp p G F J pre) (h1 : G c1) (h2 : G c2) {x : Int × RM.Sp} (hk : Kept (fun k => F k ∨ G k) W W') (hj : J (pre ++ [x]) F W') : Sj w W' c1 c2 s vc vw vp p G F J (pre ++ [x]) :=
  ⟨h.sq.keep h1 h2 hk.size (fun k hg hlt => hk.same k hlt (.inr hg)), h.nw, hj, Nat.le_trans h.sz hk.size⟩
end
/- steps of a region's head -/
section
variable {W0 : World} {K : Act → Prop} {o : Oper} {a : Act}
theorem calm_load23n (x : Operand) (b : Nat) (s : St) (vc vw : Value) (ho : o.op = .load 23 x) (hx : a.eval x = .pointer (some ⟨b, 0, none⟩)) (hr : ∀ w, Below W0.heap.size W0 w → NB w b s vc vw)
    (h : K (a.put o.dst (.agg (sv s).toArray))) : Oper.calm Try.prog W0 o a K :=
  calm_val _ (fun w hw => by unfold execOp; simp only [ho, hx, Sem.run_bind, Sem.run_pure, Result.andThen_ok, load23 w b s (hr w hw).site]) h
theorem calm_loadT (x : Operand) (b : Nat) (s : RM.Sp) (ho : o.op = .load 86 x) (hx : a.eval x = .pointer (some ⟨b, 0, none⟩)) (hr : ∀ w, Below W0.heap.size W0 w → TB w b s)
    (h : K (a.put o.dst (.agg #[.int .i64 s.fl, .int .i64 s.he, .int .i64 s.le]))) : Oper.calm Try.prog W0 o a K :=
  calm_val _ (fun w hw => by unfold execOp; simp only [ho, hx, Sem.run_bind, Sem.run_pure, Result.andThen_ok, loadT w b s (hr w hw)]) h
theorem loadWs (w : World) (b o : Nat) (v : Value) (h : w.cell? ⟨b, o, none⟩ = some v) : (Instr.loadAt 25 (.pointer (some ⟨b, o, none⟩))).run Try.prog w = .ok v w := by simp [go_sem, h]
theorem calm_loadWs (x : Operand) (b k : Nat) {v : Value} (ho : o.op = .load 25 x) (hx : a.eval x = .pointer (some ⟨b, k, none⟩)) (hr : ∀ w, Below W0.heap.size W0 w → w.cell? ⟨b, k, none⟩ = some v)
    (h : K (a.put o.dst v)) : Oper.calm Try.prog W0 o a K :=
  calm_val _ (fun w hw => by unfold execOp; simp only [ho, hx, Sem.run_bind, Sem.run_pure, Result.andThen_ok, loadWs w b k v (hr w hw)]) h
theorem calm_ixWs (x y : Operand) {g f n cap j : Nat} (ho : o.op = .indexAddr 25 x y) (hx : a.eval x = .slice (some ⟨g, f, none⟩) n cap) (hy : a.eval y = .int .i64 (j : Int)) (hj : j < n)
    (h : K (a.put o.dst (.pointer (some ⟨g, f + j * 2, none⟩)))) : Oper.calm Try.prog W0 o a K :=
  calm_val _ (fun w hw => by unfold execOp; simp only [ho, hx, hy, Sem.run_bind, Sem.run_pure, Result.andThen_ok, ixW w rfl hj]) h
end
/-- what holds within a car's list -/
structure Si (w W : World) (c1 c2 : Nat) (s : Sn) (vc vw vp vl : Value) (p : List (List Int)) (l : List Int) (G F : Nat → Prop) (J : List (Int × RM.Sp) → (Nat → Prop) → World → Prop) (pre : List (Int × RM.Sp)) (b : Nat) (a : RM.Sp) : Prop where
  sj : Sj w W c1 c2 s vc vw vp p G F J pre
  ri : RI G W vl l
  own : F b
  tb : TB W b a
section
variable {w W W' : World} {c1 c2 b : Nat} {s : Sn} {vc vw vp vl : Value} {p : List (List Int)} {l : List Int} {G F : Nat → Prop} {J : List (Int × RM.Sp) → (Nat → Prop) → World → Prop} {pre : List (Int × RM.Sp)} {a a' : RM.Sp}
theorem Si.next (h : Si w W c1 c2 s vc vw vp vl p l G F J pre b a) (hJ : Stb J) (hb : Below W.heap.size W W') : Si w W' c1 c2 s vc vw vp vl p l G F J pre b a := ⟨h.sj.next hJ hb, h.ri.below' hb, h.own, h.tb.below' hb⟩
theorem Si.put (h : Si w W c1 c2 s vc vw vp vl p l G F J pre b a) (hJ : Stb J) (hG : (∀ k, G k → k < w.heap.size) ∧ G c1 ∧ G c2) (hk : Kp (fun k => k = b) W W') (ht : TB W' b a') : Si w W' c1 c2 s vc vw vp vl p l G F J pre b a' :=
  ⟨h.sj.put hJ hG.1 hG.2.1 hG.2.2 h.own hk, h.ri.keep hk.size (fun k hg hlt => hk.block k hlt (fun e => by have e1 := hG.1 k hg; have e2 := h.sj.nw b h.own; omega)), h.own, ht⟩
theorem Si.round (h : Si w W c1 c2 s vc vw vp vl p l G F J pre b a) (hG : (∀ k, G k → k < w.heap.size) ∧ G c1 ∧ G c2) {x : Int × RM.Sp} (hk : Kept (fun k => F k ∨ G k) W W') (hj : J (pre ++ [x]) F W') : Si w W' c1 c2 s vc vw vp vl p l G F J (pre ++ [x]) b a :=
  ⟨h.sj.round hG.2.1 hG.2.2 hk hj, h.ri.keep hk.size (fun k hg hlt => hk.same k hlt (.inr hg)), h.own, (hk.same b h.tb.lt (.inl h.own)).trans h.tb⟩
end
set_option maxRecDepth 100000 in
set_option maxHeartbeats 8000000 in
theorem stops_seq (s : Sn) (c1 c2 : Nat) (vc vw vp : Value) (p : List (List Int)) (G : Nat → Prop) (w : World) (hq : Sq w c1 c2 s vc vw vp p G) (h1 : G c1) (h2 : G c2) (hG : ∀ k, G k → k < w.heap.size) (hf : Fs s p) (hll : ∀ l ∈ p, l.length ≤ 1000) :
    SeqF Try.prog 81 #[.pointer (some ⟨c1, 0, none⟩), .pointer (some ⟨c2, 0, none⟩)] (ES s.ws.length) (fun _ => False) G (fun xs => xs = RM.stp s.st s.ws s.cs p) (fun pre => pre <+: RM.stp s.st s.ws s.cs p) w := by
  intro nn lo J Jx W hW hJ hJx hY h0
  show CallsIn Fence.wide nn Try.prog 81 #[.func (.yield lo) #[] #[], .pointer (some ⟨c1, 0, none⟩), .pointer (some ⟨c2, 0, none⟩)] W _
  obtain ⟨ac, kc, rfl, _, _⟩ := hq.rc.form
  obtain ⟨aw, kw, rfl, _, _⟩ := hq.rw.form
  obtain ⟨ap, kp, rfl, _, _⟩ := hq.rp.form
  have HQ0 : Hid (Sj w W c1 c2 s (.slice ac s.cs.length kc) (.slice aw s.ws.length kw) (.slice ap p.length kp) p G (fun _ => False) J []) :=
    ⟨hq.keep h1 h2 hW.size (fun k hg hlt => hW.block k hlt), fun _ h => h.elim, h0, hW.size⟩
  have HJ := Hid.intro' hJ
  have HJX := Hid.intro' hJx
  have HY := Hid.intro' hY
  have HG := Hid.intro' (And.intro hG (And.intro h1 h2))
  have HFS := Hid.intro' hf
  have HLL := Hid.intro' hll
  have cp : W.cell? ⟨c1, 0, none⟩ = some (.slice ap p.length kp) := by rw [cell_of_row _ _ 0 _ _ _ HQ0.out.sq.pc]; rfl
  have hp8 : p.length ≤ 8 := hf.p8
  refine callsIn_of_wp Try.func81 rfl trivial ?_ rfl
  simp only [Try.ntmps81, List.size_toArray, List.length_cons, List.length_nil, Nat.reduceAdd, Nat.reduceSub, Array.replicate_succ, Array.replicate_zero, List.push_toArray, List.append_toArray, List.nil_append, List.cons_append]
  have hwf : ∀ k, Fence.wide.fn k := fun _ => trivial
  have hdd : ∀ k : Nat, (Fence.wide.depth.isSome = true → 1 ≤ k) := fun k h => by cases h
  clear hq h1 h2 hG hf hll hW hJ hJx hY h0
  gi_wp2_with fail
  refine wpIn_wide.2 ?_
  apply wp_scope_straight
  refine (wpIn_wide (n := nn)).1 ?_
  gi_wp2_with fail
  refine wpIn_label ?_
  gi_wp2_with fail
  gi_loopw [11] (fun i wr => ∃ (k : Nat) (F : Nat → Prop), k ≤ p.length ∧ i = .int .i64 (k : Int) ∧ Hid (Sj w wr c1 c2 s (.slice ac s.cs.length kc) (.slice aw s.ws.length kw) (.slice ap p.length kp) p G F J (RM.stk s.st s.ws s.cs p k))) (fun i _ => p.length - (intOf i).toNat)
  case atStart => exact ⟨0, _, Nat.zero_le _, rfl, HQ0⟩
  case round =>
    clear HQ0 cp
    rename World => Wr
    obtain ⟨k, F, hk, rfl, HQ⟩ := hrel
    by_cases hlt : k < p.length
    · obtain ⟨l, hl⟩ : ∃ l, p[k]? = some l := ⟨_, List.getElem?_eq_getElem hlt⟩
      have hkc : k < s.cs.length := by have := HFS.out.pc; omega
      obtain ⟨r, hr⟩ : ∃ r, s.cs[k]? = some r := ⟨_, List.getElem?_eq_getElem hkc⟩
      obtain ⟨gp, op, rfl, u, hcu, hru⟩ := HQ.out.sq.rp.at hl
      obtain ⟨gc, oc, rfl, hc0, hc1⟩ := HQ.out.sq.rc.at hr
      obtain ⟨al, kl, rfl, _, _⟩ := hru.form
      have c13 : Wr.cell? ⟨c2, 13, none⟩ = some (.slice (some ⟨gc, oc, none⟩) s.cs.length kc) := HQ.out.sq.nb.cell 13
      have HKL := Hid.intro' (And.intro hl hr)
      have HRU := Hid.intro' hru
      have hlll : l.length ≤ 1000 := HLL.out l (List.mem_of_getElem? hl)
      have HLX : Hid (∀ x ∈ l, 0 ≤ x ∧ x < s.ws.length) := fun x hx => HFS.out.fr x (List.mem_flatten.2 ⟨l, List.mem_of_getElem? hl, hx⟩)
      have HOK := Hid.intro' (HFS.out.rz.cr r (List.mem_of_getElem? hr))
      have HAF := Hid.intro' (HFS.out.af r (List.mem_of_getElem? hr))
      have hkz : (k : Int) < (p.length : Int) := by omega
      have hkz2 : (k : Int) < (s.cs.length : Int) := by omega
      clear hl hr hru
      gi_wp2_with fail
      refine ⟨hdd _, (callsIn_wide.2 (begin_any r.1 r.2 _)).mono ?_⟩
      rintro e W1 ⟨rfl, hb1⟩
      have hsj := (HQ.out.next HJ.out hb1).new HJ.out (.cells #[.int .i64 r.1, .int .i64 (-1), .int .i64 r.2] 86)
      have HI1 : Hid (Si w (W1.alloc (.cells #[.int .i64 r.1, .int .i64 (-1), .int .i64 r.2] 86)) c1 c2 s (.slice (some ⟨gc, oc, none⟩) s.cs.length kc) (.slice aw s.ws.length kw) (.slice (some ⟨gp, op, none⟩) p.length kp) (.slice al l.length kl) p l G (fun k => F k ∨ k = W1.heap.size) J (RM.stk s.st s.ws s.cs p k ++ RM.st1 s.st s.ws (RM.bg r) (l.take 0)) W1.heap.size (RM.go s.st (RM.bg r) ((l.take 0).map (RM.wf s.ws)))) := by
        refine ⟨?_, (HRU.out.below' hb1).alloc _, .inr rfl, TB.new W1 (RM.bg r)⟩
        rw [List.take_zero]
        show Sj _ _ _ _ _ _ _ _ _ _ _ _ (_ ++ [])
        rw [List.append_nil]
        exact hsj
      have hwl : (s.ws.length : Int) ≤ 128 := by have := HFS.out.wl; omega
      clear hb1 hcu hc0 hc1 c13 HQ HRU hsj
      gi_wp2_with fail
      generalize (W1.alloc (.cells #[.int .i64 r.1, .int .i64 (-1), .int .i64 r.2] 86)) = W2 at HI1 ⊢
      generalize W1.heap.size = b6 at HI1 ⊢
      generalize (fun k => F k ∨ k = b6) = F1 at HI1
      gi_loopw [24] (fun i wr => ∃ (j : Nat), j ≤ l.length ∧ i = .int .i64 (j : Int) ∧ Hid (Si w wr c1 c2 s (.slice (some ⟨gc, oc, none⟩) s.cs.length kc) (.slice aw s.ws.length kw) (.slice (some ⟨gp, op, none⟩) p.length kp) (.slice al l.length kl) p l G F1 J (RM.stk s.st s.ws s.cs p k ++ RM.st1 s.st s.ws (RM.bg r) (l.take j)) b6 (RM.go s.st (RM.bg r) ((l.take j).map (RM.wf s.ws))))) (fun i _ => l.length - (intOf i).toNat)
      case atStart => exact ⟨0, Nat.zero_le _, rfl, HI1⟩
      case round =>
        clear HI1
        obtain ⟨j, hj, rfl, HI⟩ := hrel
        by_cases hjl : j < l.length
        · obtain ⟨x, hx⟩ : ∃ x, l[j]? = some x := ⟨_, List.getElem?_eq_getElem hjl⟩
          have hxr := HLX.out x (List.mem_of_getElem? hx)
          obtain ⟨i, rfl⟩ : ∃ i : Nat, x = (i : Int) := ⟨x.toNat, by omega⟩
          have hiw : i < s.ws.length := by omega
          obtain ⟨y, hy⟩ : ∃ y, s.ws[i]? = some y := ⟨_, List.getElem?_eq_getElem hiw⟩
          obtain ⟨gl, ol, rfl, hcx⟩ := HI.out.ri.at hx
          obtain ⟨gw, ow, rfl, hcy, _⟩ := HI.out.sj.sq.rw.at hy
          have hjz : (j : Int) < (l.length : Int) := by omega
          have HCY := Hid.intro' hcy
          have HTK : Hid (RM.st1 s.st s.ws (RM.bg r) (l.take (j + 1)) = RM.st1 s.st s.ws (RM.bg r) (l.take j) ++ [((i : Int), RM.nx s.st (RM.go s.st (RM.bg r) ((l.take j).map (RM.wf s.ws))) y.1)]) := by
            show _ = _
            rw [RM.st1_take hx, RM.wf_get hy]
          have HGO : Hid (RM.go s.st (RM.bg r) ((l.take (j + 1)).map (RM.wf s.ws)) = RM.nx s.st (RM.go s.st (RM.bg r) ((l.take j).map (RM.wf s.ws))) y.1) := by
            show _ = _
            rw [take_snoc hx, List.map_append, RM.go_append, List.map_cons, List.map_nil, RM.wf_get hy]; rfl
          have hin := HFS.out.rz.inn (l := l.take j) fun x hx => HLX.out x (List.mem_of_mem_take hx)
          have hok := RM.go_ok HFS.out.rz.rt HOK.out hin
          have HOA := Hid.intro' hok
          have HLE : Hid ((RM.go s.st (RM.bg r) ((l.take j).map (RM.wf s.ws))).le ≤ 100000000) := by
            have g3 := RM.go_le HFS.out.rz.rt HOK.out hin
            rw [List.length_map, List.length_take] at g3
            have g7 : (RM.bg r).le = r.2 := rfl
            have := HAF.out
            show _ ≤ _
            omega
          have HYR := Hid.intro' (HFS.out.rz.wr y (List.mem_of_getElem? hy))
          clear hin hok hx hy hxr
          generalize RM.go s.st (RM.bg r) ((l.take j).map (RM.wf s.ws)) = a at HI HTK HGO HOA HLE
          have HNE := Hid.intro' (RM.nx_eq HOA.out y.1)
          have HNXT : Hid (∀ w', Calls Try.prog 66 #[.agg (sv s.st).toArray, .agg #[.int .i64 a.fl, .int .i64 a.he, .int .i64 a.le], .int .i64 y.1] w' fun e w'' => e = .returned (.agg #[.int .i64 y.1, .int .i64 (RM.ar s.st a y.1), .int .i64 (RM.ar s.st a y.1 + RM.dw s.st)]) ∧ Below w'.heap.size w' w'') := fun w' => next_any s.st HFS.out.rz.rt a HOA.out HLE.out y.1 HYR.out.1 HYR.out.2 w'
          generalize RM.ar s.st a y.1 = T at HNE HNXT
          generalize T + RM.dw s.st = L at HNE HNXT
          rw [HNE.out] at HTK HGO
          generalize y.1 = fy at HTK HGO HNXT HCY hcy
          clear HNE HOA HLE HYR
          gi_wp2_with fail
          clear hcx hcy
          have HNB : Hid (∀ w', Below wr.drew.heap.size wr.drew w' → NB w' c2 s.st (.slice (some ⟨gc, oc, none⟩) s.cs.length kc) (.slice (some ⟨gw, ow, none⟩) s.ws.length kw)) := fun w' hw => HI.out.sj.sq.nb.drew.below' hw
          have HTB : Hid (∀ w', Below wr.drew.heap.size wr.drew w' → TB w' b6 a) := fun w' hw => (HI.out.next HJ.out ((Below.refl _ wr).drew.trans hw)).tb
          have HC14 : Hid (∀ w', Below wr.drew.heap.size wr.drew w' → w'.cell? ⟨c2, 14, none⟩ = some (.slice (some ⟨gw, ow, none⟩) s.ws.length kw)) := fun w' hw => (HNB.out w' hw).cell 14
          have HCZ : Hid (∀ w', Below wr.drew.heap.size wr.drew w' → w'.cell? ⟨gw, ow + i * 2, none⟩ = some (.int .i64 fy)) := fun w' hw => (hw.cell (p := ⟨gw, ow + i * 2, none⟩) (cell_lt HCY.out)).trans HCY.out
          refine wpIn_wide.2 ?_
          refine wp_region_tail 10 (by kernel_rfl) (by kernel_rfl) ?_
          simp only [List.take_succ_cons, List.take_zero, List.drop_succ_cons, List.drop_zero]
          unfold wpCalm
          generalize hK : wpCalm Try.prog _ _ _ _ = K
          unfold Oper.calm
          go_simp
          refine ⟨_, fun _ _ => rfl, ?_⟩
          subst hK
          unfold wpCalm
          generalize hK : wpCalm Try.prog _ _ _ _ = K
          rw [if_pos (by go_simp)]
          refine calm_load23n _ c2 s.st _ _ rfl rfl HNB.out ?_
          go_simp
          subst hK
          unfold wpCalm
          generalize hK : wpCalm Try.prog _ _ _ _ = K
          rw [if_pos (by go_simp)]
          refine calm_loadT _ b6 a rfl rfl HTB.out ?_
          go_simp
          subst hK
          unfold wpCalm
          generalize hK : wpCalm Try.prog _ _ _ _ = K
          unfold Oper.calm
          go_simp
          refine ⟨_, fun _ _ => rfl, ?_⟩
          subst hK
          unfold wpCalm
          generalize hK : wpCalm Try.prog _ _ _ _ = K
          rw [if_pos (by go_simp)]
          refine calm_loadWs _ _ _ rfl rfl HC14.out ?_
          go_simp
          subst hK
          unfold wpCalm
          generalize hK : wpCalm Try.prog _ _ _ _ = K
          unfold Oper.calm
          go_simp
          refine ⟨_, fun _ _ => rfl, ?_⟩
          subst hK
          unfold wpCalm
          generalize hK : wpCalm Try.prog _ _ _ _ = K
          rw [if_pos (by go_simp)]
          refine calm_ixWs _ _ rfl rfl rfl hiw ?_
          go_simp
          subst hK
          unfold wpCalm
          generalize hK : wpCalm Try.prog _ _ _ _ = K
          unfold Oper.calm
          go_simp
          refine ⟨_, fun _ _ => rfl, ?_⟩
          subst hK
          unfold wpCalm
          generalize hK : wpCalm Try.prog _ _ _ _ = K
          rw [if_pos (by go_simp)]
          refine calm_load3 _ _ _ rfl rfl HCZ.out ?_
          go_simp
          subst hK
          unfold wpCalm
          generalize hK : wpCalm Try.prog _ _ _ _ = K
          unfold Oper.calm
          go_simp
          refine ⟨_, fun w' hw => HNXT.out w', ?_⟩
          subst hK
          refine wpCalm_nil ?_
          intro W4 hb4
          have HI4 := Hid.intro' (HI.out.next HJ.out ((Below.refl _ wr).drew.trans hb4))
          clear hb4 HNB HTB HC14 HCZ HCY HNXT HI
          go_wp2_with (refine wpList_storeT rfl _ _ rfl b6 rfl rfl HI4.out.tb ?_)
          intro W5 hk5 ht5
          have HI5 := Hid.intro' (HI4.out.put HJ.out HG.out hk5 ht5)
          clear hk5 ht5 HI4
          have hcx5 := HI5.out.tb.c0
          have hcy5 := HI5.out.tb.c1
          have hcz5 := HI5.out.tb.c2
          obtain ⟨fn, tmps, assign, body, hy5, hR5⟩ := HY.out (nn - 1) _ ((i : Int), ⟨fy, T, L⟩) F1 W5 #[.int .i64 (i : Int), .agg #[.int .i64 fy, .int .i64 T, .int .i64 L]] HI5.out.sj.jj ⟨rfl, Int.natCast_nonneg _, by show (i : Int) < _; omega⟩
          have HR5 := Hid.intro' hR5
          clear hR5
          have HPR : Hid (RM.stk s.st s.ws s.cs p k ++ RM.st1 s.st s.ws (RM.bg r) (l.take j) ++ [((i : Int), (⟨fy, T, L⟩ : RM.Sp))] <+: RM.stp s.st s.ws s.cs p) := by
            show _ <+: _
            rw [List.append_assoc, ← HTK.out]
            have h1 : RM.stk s.st s.ws s.cs p k ++ RM.st1 s.st s.ws (RM.bg r) (l.take (j + 1)) <+: RM.stk s.st s.ws s.cs p (k + 1) := by
              rw [RM.stk_succ HFS.out.pc HKL.out.2 HKL.out.1]
              exact (List.prefix_append_right_inj _).2 (RM.st1_pre _)
            exact h1.trans (RM.stk_pre HFS.out.pc)
          go_wp2_with fail
          gi_wp2_with fail
          refine ⟨hdd _, HR5.out.mono ?_⟩
          rintro e W6 (⟨rfl, hj6, hk6⟩ | ⟨rfl, hx6, _⟩)
          · have HI6 := Hid.intro' (HI5.out.round HG.out hk6 hj6)
            rw [List.append_assoc, ← HTK.out, ← HGO.out] at HI6
            clear hj6 hk6 HI5 hcx5 hcy5 hcz5 hy5 HR5 HPR
            gi_wp2
            go_roundw
            case rel => exact ⟨j + 1, by omega, by go_num, HI6⟩
            case measure => simp [intOf]; omega
          · have HX6 := Hid.intro' (And.intro HPR.out hx6)
            clear hx6 HI5 hcx5 hcy5 hcz5 hy5 HR5 HPR
            gi_wp2
            rw [Exit.noGoto_normal]
            go_end0
            exact ⟨⟨_, rfl⟩, .inr ⟨_, _, HX6.out.1, HX6.out.2⟩⟩
        · have hjz : ¬ (j : Int) < (l.length : Int) := by omega
          have HS := Hid.intro' HI.out.sj
          rw [show l.take j = l from List.take_of_length_le (by omega), ← RM.stk_succ HFS.out.pc HKL.out.2 HKL.out.1] at HS
          clear HI
          gi_wp2
          go_roundw
          case rel => exact ⟨k + 1, _, by omega, by go_num, HS⟩
          case measure => simp [intOf]; omega
    · have hkz : ¬ (k : Int) < (p.length : Int) := by omega
      have HE := Hid.intro' HQ.out.jj
      rw [RM.stk_all HFS.out.pc (by omega)] at HE
      clear HQ
      gi_wp2
      go_end0
      exact ⟨⟨_, rfl⟩, .inl ⟨_, _, rfl, HE.out⟩⟩
end Go.Proofs.Ytagmidolcdefiah
