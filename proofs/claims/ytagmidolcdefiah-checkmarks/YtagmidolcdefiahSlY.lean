/- A search on its way, in memory. -/
import Derived.Test.YtagmidolcdefiahSlK
import Derived.Test.YtagmidolcdefiahSlQ
import Derived.Test.YtagmidolcdefiahSlV
import Derived.Test.YtagmidolcdefiahSlI
namespace Go.Proofs.Ytagmidolcdefiah
open Go.RowKit Go.Shelf
/-- what is not written any more -/
def Dw (r0 rb : Nat) (vm vo : Value) (g : Nat) : Prop := (g ≠ rb ∧ g ≠ r0) ∧ vm.ownBlock ≠ some g ∧ vo.ownBlock ≠ some g
/-- what a step writes -/
structure Mw (rb : Nat) (vm vo vm' vo' : Value) (w w' : World) : Prop where
  kp : Kp (fun i => i = rb ∨ vm.ownBlock = some i ∨ vo.ownBlock = some i) w w'
  om : vm'.ownBlock = vm.ownBlock ∨ ∀ g, vm'.ownBlock = some g → w.heap.size ≤ g
  oo : vo'.ownBlock = vo.ownBlock ∨ ∀ g, vo'.ownBlock = some g → w.heap.size ≤ g
section
variable {r0 rb : Nat} {vm vo vm' vo' : Value} {w w' : World}
theorem Mw.below (h : Below w.heap.size w w') : Mw rb vm vo vm vo w w' := ⟨Kp.ofBelow _ h, .inl rfl, .inl rfl⟩
theorem Mw.dn (h : Mw rb vm vo vm' vo' w w') {g : Nat} (hg : Dw r0 rb vm vo g) (hlt : g < w.heap.size) : Dw r0 rb vm' vo' g :=
  ⟨hg.1, fun e => by
    rcases h.om with o | o
    · exact hg.2.1 (o.symm.trans e)
    · have := o g e; omega, fun e => by
    rcases h.oo with o | o
    · exact hg.2.2 (o.symm.trans e)
    · have := o g e; omega⟩
theorem Mw.block (h : Mw rb vm vo vm' vo' w w') {g : Nat} (hg : Dw r0 rb vm vo g) (hlt : g < w.heap.size) : w'.heap[g]? = w.heap[g]? := h.kp.block g hlt (fun e => e.elim hg.1.1 (fun e => e.elim hg.2.1 hg.2.2))
theorem Mw.rl (h : Mw rb vm vo vm' vo' w w') {v : Value} {p : List (List Int)} (hp : RL (Dw r0 rb vm vo) w v p) : RL (Dw r0 rb vm' vo') w' v p :=
  RL.keep (hp.mono (D' := fun g => Dw r0 rb vm' vo' g ∧ Dw r0 rb vm vo g) (fun _ hg hlt _ => ⟨h.dn hg hlt, hg⟩)) h.kp.size (fun _ hg hlt => h.block hg.2 hlt) |>.mono fun _ hg _ _ => hg.1
theorem Mw.tr (h : Mw rb vm vo vm' vo' w w') {tb : Nat} {s : Sn} {vc vw vb : Value} (hp : TR (Dw r0 rb vm vo) w tb s vc vw vb) : TR (Dw r0 rb vm' vo') w' tb s vc vw vb :=
  TR.keep (hp.mono (D' := fun g => Dw r0 rb vm' vo' g ∧ Dw r0 rb vm vo g) (fun _ hg hlt => ⟨h.dn hg hlt, hg⟩)) h.kp.size (fun _ hg hlt => h.block hg.2 hlt) |>.mono fun _ hg _ => hg.1
theorem Mw.pth (h : Mw rb vm vo vm' vo' w w') {s : Sn} {pa : Option Addr} {wt : Int} {n : Nn} {d : Nat} (hp : Pth s (Dw r0 rb vm vo) w pa wt n d) : Pth s (Dw r0 rb vm' vo') w' pa wt n d :=
  Pth.mono (Pth.keep (hp.mono (D' := fun g => Dw r0 rb vm' vo' g ∧ Dw r0 rb vm vo g) (fun _ hg hlt => ⟨h.dn hg hlt, hg⟩)) (fun _ hg hlt => h.block hg.2 hlt)) fun _ hg _ => hg.1
end
/-- the cells of a result -/
def rcl (vp : Value) (co : Int) (ok : Bool) (n : Int) (pf : Value) : List Value := [vp, .int .i64 co, .bool ok, .int .i64 n, pf]
/-- a search on its way -/
structure Vi (r0 : Nat) (W wr : World) (rb tb : Nat) (s : Sn) (vc vw vb vp vm vo : Value) (x : Sx) (st : List En) : Prop where
  rs : wr.heap[rb]? = some (.cells (rcl vp x.cost true 0 (.slice none 0 0)).toArray 35 (0, 0))
  rl : RL (Dw r0 rb vm vo) wr vp x.plan
  tr : TR (Dw r0 rb vm vo) wr tb s vc vw vb
  ms : OY wr W.heap.size vm x.marks
  op : ON s wr W.heap.size vo st
  mo : ∀ g, vm.ownBlock = some g → vo.ownBlock ≠ some g
  pt : ∀ e ∈ st, e.nd.ok s ∧ ∃ d, Pth s (Dw r0 rb vm vo) wr e.pa e.wt e.nd d
  kp : Kp (fun k => k = rb) W wr
  lt : rb < W.heap.size
  l0 : r0 < W.heap.size
section
variable {W wr w' : World} {r0 rb tb : Nat} {s : Sn} {vc vw vb vp vm vo : Value} {x : Sx} {st : List En}
theorem Vi.rlt (h : Vi r0 W wr rb tb s vc vw vb vp vm vo x st) : rb < wr.heap.size := (Array.getElem?_eq_some_iff.1 h.rs).1
theorem Vi.next (h : Vi r0 W wr rb tb s vc vw vb vp vm vo x st) (hb : Below wr.heap.size wr w') : Vi r0 W w' rb tb s vc vw vb vp vm vo x st :=
  ⟨(hb.block rb h.rlt).trans h.rs, h.rl.below' hb, h.tr.below' hb, h.ms.below' hb, h.op.below' hb, h.mo, fun e he => ⟨(h.pt e he).1, (h.pt e he).2.imp fun _ hp => hp.below' hb⟩, h.kp.thenBelow hb, h.lt, h.l0⟩
theorem Vi.cell (h : Vi r0 W wr rb tb s vc vw vb vp vm vo x st) (i : Nat) : wr.cell? ⟨rb, i, none⟩ = (rcl vp x.cost true 0 (.slice none 0 0))[i]? := blk_cell h.rs i
theorem Vi.fr (h : Vi r0 W wr rb tb s vc vw vb vp vm vo x st) (i : Nat) : wr.frozen? ⟨rb, i, none⟩ = false := blk_fr h.rs i
/-- the last node is taken off -/
theorem Vi.pop {e : En} {g n cap : Nat} (h : Vi r0 W wr rb tb s vc vw vb vp vm (.slice (some ⟨g, 0, none⟩) n cap) x (st ++ [e])) : Vi r0 W wr rb tb s vc vw vb vp vm (.slice (some ⟨g, 0, none⟩) st.length cap) x st :=
  ⟨h.rs, h.rl, h.tr, h.ms, h.op.pop, h.mo, fun e he => h.pt e (by simp [he]), h.kp, h.lt, h.l0⟩
/-- a mark more -/
theorem Vi.mark (h : Vi r0 W wr rb tb s vc vw vb vp vm vo x st) {vm' : Value} {m n : Nat} (hg : wr.grownBy w' vm.ownBlock) {q : Nat} (hq : vm'.ownBlock = some q) (hor : vm.ownBlock = some q ∨ q = wr.heap.size) (ho : OY w' W.heap.size vm' (x.marks ++ [m])) :
    Vi r0 W w' rb tb s vc vw vb vp vm' vo ⟨n, x.ended, x.plan, x.cost, x.marks ++ [m]⟩ st := by
  have hmr : vm.ownBlock ≠ some rb := fun e => by have := (h.ms.lt rb e).1; have := h.lt; omega
  have hmw : Mw rb vm vo vm' vo wr w' := by
    refine ⟨(Kp.refl _ wr).grown hg (fun k _ e => .inr (.inl e)), ?_, .inl rfl⟩
    rcases hor with e | e
    · exact .inl (hq.trans e.symm)
    · refine .inr fun g eg => ?_
      rw [hq] at eg
      cases eg
      omega
  refine ⟨(hg.block rb h.rlt (fun e => hmr e.symm)).trans h.rs, hmw.rl h.rl, hmw.tr h.tr, ho, h.op.keep fun g hg' => hg.block g (h.op.lt g hg').2 (fun e => h.mo g e.symm hg'), fun g eg e2 => ?_, fun e he => ⟨(h.pt e he).1, (h.pt e he).2.imp fun _ hp => hmw.pth hp⟩, ?_, h.lt, h.l0⟩
  · rw [hq] at eg
    cases eg
    rcases hor with e | e
    · exact h.mo q e e2
    · have := (h.op.lt q e2).2; omega
  · exact h.kp.grown hg (fun k hk e => by have := (h.ms.lt k e).1; omega)
/-- a better plan -/
theorem Vi.better (h : Vi r0 W wr rb tb s vc vw vb vp vm vo x st) {vp' : Value} {p : List (List Int)} {co : Int} (hp : RL (Dw r0 rb vm vo) wr vp' p) :
    Vi r0 W ((wr.setCell ⟨rb, 0, none⟩ vp').setCell ⟨rb, 1, none⟩ (.int .i64 co)) rb tb s vc vw vb vp' vm vo ⟨x.nodes, x.ended, p, co, x.marks⟩ st := by
  have hmr : vm.ownBlock ≠ some rb := fun e => by have := (h.ms.lt rb e).1; have := h.lt; omega
  have hor : vo.ownBlock ≠ some rb := fun e => by have := (h.op.lt rb e).1; have := h.lt; omega
  have hk : Kp (fun k => k = rb) wr ((wr.setCell ⟨rb, 0, none⟩ vp').setCell ⟨rb, 1, none⟩ (.int .i64 co)) := ((Kp.refl (fun k => k = rb) wr).set rb 0 _ (fun _ => rfl)).set rb 1 _ (fun _ => rfl)
  have hmw : Mw rb vm vo vm vo wr ((wr.setCell ⟨rb, 0, none⟩ vp').setCell ⟨rb, 1, none⟩ (.int .i64 co)) := ⟨hk.mono fun _ _ e => .inl e, .inl rfl, .inl rfl⟩
  refine ⟨blk_set (blk_set h.rs 0 vp') 1 (.int .i64 co), hmw.rl hp, hmw.tr h.tr, h.ms.keep fun g hg => hk.block g (h.ms.lt g hg).2 (fun e => hmr (e ▸ hg)), h.op.keep fun g hg => hk.block g (h.op.lt g hg).2 (fun e => hor (e ▸ hg)), h.mo, fun e he => ⟨(h.pt e he).1, (h.pt e he).2.imp fun _ hp => hmw.pth hp⟩, h.kp.trans hk (fun _ _ e => e), h.lt, h.l0⟩
theorem che_pth {D : Nat → Prop} {wr : World} {e : En} {q d : Nat} (ok : e.nd.ok s) (hq : NK wr q (e.c s)) (hd : D q) (h : Pth s D wr e.pa e.wt e.nd d) : ∀ c ∈ che s e q, c.nd.ok s ∧ ∃ d, Pth s D wr c.pa c.wt c.nd d := fun c hc => by
  have hmem : ∀ j, j ≤ s.ws.length → ∀ c ∈ cke s e q j, ∃ w : Nat, w < j ∧ e.nd.st[w]? = some false ∧ mayk s e.nd.k (w : Int) = true ∧ c = e.grw q w := by
    intro j
    induction j with
    | zero => intro _ c hc; simp [cke] at hc
    | succ j ih =>
      intro hj c hc
      rw [cke, List.mem_append] at hc
      rcases hc with hc | hc
      · obtain ⟨w, h1, h2⟩ := ih (by omega) c hc
        exact ⟨w, by omega, h2⟩
      · split at hc
        · rename_i hh
          rw [List.mem_singleton] at hc
          exact ⟨j, by omega, hh.1, hh.2, hc⟩
        · cases hc
  unfold che at hc
  rw [List.mem_append] at hc
  rcases hc with hc | hc
  · obtain ⟨w, h1, h2, h3, rfl⟩ := hmem _ (Nat.le_refl _) c hc
    exact ⟨ok.grw h1 h2 h3, d + 1, .grow hd hq h ok.kl h2⟩
  · split at hc
    · rename_i hk
      rw [List.mem_singleton] at hc
      subst hc
      exact ⟨ok.nxc (by rw [ok.bl]; exact hk), d + 1, .next hd hq h (by rw [ok.bl]; exact hk)⟩
    · cases hc
/-- the children are put onto the nodes that wait -/
theorem Vi.push (h : Vi r0 W wr rb tb s vc vw vb vp vm vo x st) {e : En} {d : Nat} (ok : e.nd.ok s) (hp : Pth s (Dw r0 rb vm vo) wr e.pa e.wt e.nd d) {vo' : Value} {q : Nat} (h1 : wr.heap.size ≤ q) (h2 : NK w' q (e.c s)) (h3 : ON s w' W.heap.size vo' (st ++ (che s e q).reverse)) (h4 : vo'.ownBlock = vo.ownBlock ∨ ∀ g, vo'.ownBlock = some g → wr.heap.size ≤ g) (h5 : vo'.ownBlock ≠ some q) (h6 : Kp (fun k => vo.ownBlock = some k) wr w') :
    Vi r0 W w' rb tb s vc vw vb vp vm vo' x (st ++ (che s e q).reverse) := by
  have hmr : vm.ownBlock ≠ some rb := fun e => by have := (h.ms.lt rb e).1; have := h.lt; omega
  have hor : vo.ownBlock ≠ some rb := fun e => by have := (h.op.lt rb e).1; have := h.lt; omega
  have hmw : Mw rb vm vo vm vo' wr w' := ⟨h6.mono fun _ _ e => .inr (.inr e), .inl rfl, h4⟩
  have hdq : Dw r0 rb vm vo' q := ⟨⟨by have := h.rlt; omega, by have := h.l0; have := h.kp.size; omega⟩, fun e => by have := (h.ms.lt q e).2; omega, h5⟩
  refine ⟨(h6.block rb h.rlt hor).trans h.rs, hmw.rl h.rl, hmw.tr h.tr, h.ms.keep fun g hg => h6.block g (h.ms.lt g hg).2 (fun e => h.mo g hg e), h3, fun g hg e2 => ?_, fun c hc => ?_, h.kp.trans h6 (fun k hk e => by have := (h.op.lt k e).1; omega), h.lt, h.l0⟩
  · rcases h4 with e | e
    · exact h.mo g hg (e.symm.trans e2)
    · have := e g e2; have := (h.ms.lt g hg).2; omega
  · rw [List.mem_append, List.mem_reverse] at hc
    rcases hc with hc | hc
    · exact ⟨(h.pt c hc).1, (h.pt c hc).2.imp fun _ hp => hmw.pth hp⟩
    · exact che_pth ok h2 hdq (hmw.pth hp) c hc
end
/-- what is still to be visited gives what is found in the end -/
def Tgt (s : Sn) (B : Nat) (x : Sx) (st : List En) : Prop := (st.reverse.map (·.nd)).foldl (vm s B) x = fnd s B ∧ x.ended = false ∧ x.marks.length = x.nodes ∧ x.nodes ≤ B
section
variable {s : Sn} {B : Nat} {x : Sx} {st : List En} {e : En}
theorem Tgt.top (h : Tgt s B x (st ++ [e])) : (st.reverse.map (·.nd)).foldl (vm s B) (vm s B x e.nd) = fnd s B := by
  have := h.1
  rw [List.reverse_append, List.reverse_singleton, List.singleton_append, List.map_cons, List.foldl_cons] at this
  exact this
theorem Tgt.full (h : Tgt s B x (st ++ [e])) (ok : e.nd.ok s) (hn : x.marks.length = B) : fnd s B = ⟨x.nodes, true, x.plan, x.cost, x.marks⟩ := by
  rw [← h.top, vm_full ok h.2.1 (by have := h.2.2.1; omega)]
  exact vms_ended rfl _
theorem Tgt.better (h : Tgt s B x (st ++ [e])) (ok : e.nd.ok s) (hn : x.marks.length ≠ B) (hl : PM.lf e.nd.st = 0) (hc : RM.cst s.st s.ws s.cs e.nd.b < x.cost) : Tgt s B ⟨x.nodes + 1, false, e.nd.b, RM.cst s.st s.ws s.cs e.nd.b, x.marks ++ [2]⟩ st := by
  have h2 := h.2.2
  refine ⟨?_, rfl, by simp; omega, by show x.nodes + 1 ≤ B; omega⟩
  rw [← h.top, vm_better ok h.2.1 (by omega) ((left_nil ok).2 hl) hc]
theorem Tgt.leaf (h : Tgt s B x (st ++ [e])) (ok : e.nd.ok s) (hn : x.marks.length ≠ B) (hl : PM.lf e.nd.st = 0) (hc : ¬ RM.cst s.st s.ws s.cs e.nd.b < x.cost) : Tgt s B ⟨x.nodes + 1, false, x.plan, x.cost, x.marks ++ [2]⟩ st := by
  have h2 := h.2.2
  refine ⟨?_, rfl, by simp; omega, by show x.nodes + 1 ≤ B; omega⟩
  rw [← h.top, vm_leaf ok h.2.1 (by omega) ((left_nil ok).2 hl) hc]
theorem Tgt.cut (h : Tgt s B x (st ++ [e])) (ok : e.nd.ok s) (hn : x.marks.length ≠ B) (hl : PM.lf e.nd.st ≠ 0) (hc : x.cost ≤ lsv s e.nd.k e.nd.b e.nd.st) : Tgt s B ⟨x.nodes + 1, false, x.plan, x.cost, x.marks ++ [0]⟩ st := by
  have h2 := h.2.2
  refine ⟨?_, rfl, by simp; omega, by show x.nodes + 1 ≤ B; omega⟩
  rw [← h.top, vm_cut ok h.2.1 (by omega) (fun e => hl ((left_nil ok).1 e)) hc]
theorem Tgt.branch (h : Tgt s B x (st ++ [e])) (ok : e.nd.ok s) (hn : x.marks.length ≠ B) (hl : PM.lf e.nd.st ≠ 0) (hc : ¬ x.cost ≤ lsv s e.nd.k e.nd.b e.nd.st) (q : Nat) : Tgt s B ⟨x.nodes + 1, false, x.plan, x.cost, x.marks ++ [1]⟩ (st ++ (che s e q).reverse) := by
  have h2 := h.2.2
  refine ⟨?_, rfl, by simp; omega, by show x.nodes + 1 ≤ B; omega⟩
  rw [← h.top, vm_branch ok h.2.1 (by omega) (fun e => hl ((left_nil ok).1 e)) hc, List.reverse_append, List.reverse_reverse, List.map_append, List.foldl_append, che_nd ok]
end
end Go.Proofs.Ytagmidolcdefiah
