/- A search's tree in memory: what a node's children are. -/
import Derived.Test.YtagmidolcdefiahPk9
import Derived.Test.YtagmidolcdefiahRtU
namespace Go.Proofs.Ytagmidolcdefiah
open Go.RowKit Go.Shelf
/-- a node's cells, one by one -/
def gnc (pa : Option Addr) (k wt : Int) (a : RM.Sp) (co le : Int) (st : List Bool) : List Value := [.pointer pa, .int .i64 k, .int .i64 wt, .int .i64 a.fl, .int .i64 a.he, .int .i64 a.le, .int .i64 co, .int .i64 le] ++ st.map Value.bool
theorem ncl_gnc (s : Sn) (pa : Option Addr) (wt : Int) (n : Nn) : ncl s pa wt n = gnc pa (n.k : Int) wt (sat s n) (RM.cst s.st s.ws s.cs n.b) ((PM.lf n.st : Nat) : Int) (pad n.st) := rfl
theorem gnc_st (pa : Option Addr) (k wt : Int) (a : RM.Sp) (co le : Int) (st : List Bool) (w : Nat) : (gnc pa k wt a co le st).set (8 + w) (.bool true) = gnc pa k wt a co le (st.set w true) := by
  unfold gnc
  rw [List.set_append_right _ _ (by simp), List.map_set]
  simp
theorem gnc_one (pa : Option Addr) (k wt : Int) (a : RM.Sp) (co le : Int) (st : List Bool) : ∀ u ∈ gnc pa k wt a co le st, u.oneCell' = true := fun u hu => by
  unfold gnc at hu
  rcases List.mem_append.1 hu with hu | hu
  · simp only [List.mem_cons, List.not_mem_nil, or_false] at hu
    rcases hu with rfl | rfl | rfl | rfl | rfl | rfl | rfl | rfl <;> rfl
  · obtain ⟨b, _, rfl⟩ := List.mem_map.1 hu
    rfl
/-- a stop is written into a node -/
theorem wpList_storeA {ops : Array Oper} {rest : List Oper} {op : Oper} {a : Act} {w : World} {Q : Exit → Act → World → Prop} (hgd : op.guard = none) (x y : Operand) (ho : op.op = .store 86 x y)
    (b : Nat) {pa : Option Addr} {k wt : Int} {z : RM.Sp} {co le : Int} {st : List Bool} (c : RM.Sp) (hL : NK w b (gnc pa k wt z co le st)) (hx : a.eval x = .pointer (some ⟨b, 3, none⟩)) (hy : a.eval y = .agg #[.int .i64 c.fl, .int .i64 c.he, .int .i64 c.le])
    (hn : ∀ W', Kp (fun k => k = b) w W' → NK W' b (gnc pa k wt c co le st) → wpList Try.prog ops Q rest (a.put op.dst undef) W') : wpList Try.prog ops Q (op :: rest) a w := by
  refine wpList_store_mid hgd 86 x y ho b 3 #[.int .i64 c.fl, .int .i64 c.he, .int .i64 c.le] hx hy (fun j hj => ?_) infoT (by simp [Value.oneCell']) ?_
  · refine ⟨?_, hL.fr _⟩
    rw [hL.cell]
    have : j = 0 ∨ j = 1 ∨ j = 2 := by simp at hj; omega
    rcases this with rfl | rfl | rfl <;> rfl
  · refine hn _ ((((Kp.refl (fun k => k = b) w).set b _ _ (fun _ => rfl)).set b _ _ (fun _ => rfl)).set b _ _ (fun _ => rfl)) ?_
    exact ((hL.put 3 (.int .i64 c.fl)).put 4 (.int .i64 c.he)).put 5 (.int .i64 c.le)
/-- a tree in memory -/
def tcl (s : St) (vc vw vb : Value) : List Value := nv s vc vw ++ [vb]
structure TR (D : Nat → Prop) (W : World) (tb : Nat) (s : Sn) (vc vw vb : Value) : Prop where
  hl : W.heap[tb]? = some (.cells (tcl s.st vc vw vb).toArray 104 (0, 0))
  td : D tb
  cs : R2 D W vc s.cs
  ws : R2 D W vw s.ws
  bh : RL D W vb (bhd s)
  rg : rgt s = true
section
variable {D D' : Nat → Prop} {W W' : World} {tb : Nat} {s : Sn} {vc vw vb : Value}
theorem TR.lt (h : TR D W tb s vc vw vb) : tb < W.heap.size := (Array.getElem?_eq_some_iff.1 h.hl).1
theorem TR.keep (h : TR D W tb s vc vw vb) (hs : W.heap.size ≤ W'.heap.size) (hk : ∀ g, D g → g < W.heap.size → W'.heap[g]? = W.heap[g]?) : TR D W' tb s vc vw vb :=
  ⟨(hk tb h.td h.lt).trans h.hl, h.td, h.cs.keep hs hk, h.ws.keep hs hk, h.bh.keep hs hk, h.rg⟩
theorem TR.mono (h : TR D W tb s vc vw vb) (hD : ∀ g, D g → g < W.heap.size → D' g) : TR D' W tb s vc vw vb :=
  ⟨h.hl, hD tb h.td h.lt, h.cs.mono fun g hg hl _ => hD g hg hl, h.ws.mono fun g hg hl _ => hD g hg hl, h.bh.mono fun g hg hl _ => hD g hg hl, h.rg⟩
theorem TR.below' (h : TR D W tb s vc vw vb) (hb : Below W.heap.size W W') : TR D W' tb s vc vw vb := h.keep hb.size fun g _ hl => hb.block g hl
theorem TR.drew (h : TR D W tb s vc vw vb) : TR D W.drew tb s vc vw vb := h.below' (Below.refl _ _).drew
theorem TR.cell (h : TR D W tb s vc vw vb) (i : Nat) : W.cell? ⟨tb, i, none⟩ = (tcl s.st vc vw vb)[i]? := blk_cell h.hl i
theorem TR.c13 (h : TR D W tb s vc vw vb) : W.cell? ⟨tb, 13, none⟩ = some vc := h.cell 13
theorem TR.c14 (h : TR D W tb s vc vw vb) : W.cell? ⟨tb, 14, none⟩ = some vw := h.cell 14
theorem TR.c15 (h : TR D W tb s vc vw vb) : W.cell? ⟨tb, 15, none⟩ = some vb := h.cell 15
theorem TR.site (h : TR D W tb s vc vw vb) : W.rangeAt tb 0 (sv s.st) := fun j v hv => by
  rw [Nat.zero_add, h.cell, ← hv]
  have hj : j < 13 := by have := (List.getElem?_eq_some_iff.1 hv).1; rwa [sv_length] at this
  show (sv s.st ++ [vc, vw, vb])[j]? = _
  rw [List.getElem?_append_left (by rw [sv_length]; exact hj)]
end
section
variable {W0 : World} {K : Act → Prop} {o : Oper} {a : Act}
theorem loadRs (w : World) (b k : Nat) (v : Value) (h : w.cell? ⟨b, k, none⟩ = some v) : (Instr.loadAt 24 (.pointer (some ⟨b, k, none⟩))).run Try.prog w = .ok v w := by simp [go_sem, h]
theorem calm_loadRs (x : Operand) (b k : Nat) {v : Value} (ho : o.op = .load 24 x) (hx : a.eval x = .pointer (some ⟨b, k, none⟩)) (hr : ∀ w, Below W0.heap.size W0 w → w.cell? ⟨b, k, none⟩ = some v)
    (h : K (a.put o.dst v)) : Oper.calm Try.prog W0 o a K :=
  calm_val _ (fun w hw => by unfold execOp; simp only [ho, hx, Sem.run_bind, Sem.run_pure, Result.andThen_ok, loadRs w b k v (hr w hw)]) h
theorem calm_ixRs (x y : Operand) {g f n cap j : Nat} (ho : o.op = .indexAddr 24 x y) (hx : a.eval x = .slice (some ⟨g, f, none⟩) n cap) (hy : a.eval y = .int .i64 (j : Int)) (hj : j < n)
    (h : K (a.put o.dst (.pointer (some ⟨g, f + j * 2, none⟩)))) : Oper.calm Try.prog W0 o a K :=
  calm_val _ (fun w hw => by unfold execOp; simp only [ho, hx, hy, Sem.run_bind, Sem.run_pure, Result.andThen_ok, ixR w rfl hj]) h
theorem loadR2 (w : World) (b k : Nat) (y : Int × Int) (h0 : w.cell? ⟨b, k, none⟩ = some (.int .i64 y.1)) (h1 : w.cell? ⟨b, k + 1, none⟩ = some (.int .i64 y.2)) : (Instr.loadAt 40 (.pointer (some ⟨b, k, none⟩))).run Try.prog w = .ok (.agg #[.int .i64 y.1, .int .i64 y.2]) w := by
  simp [go_sem, h0, h1]
theorem calm_loadR2 (x : Operand) (b k : Nat) (y : Int × Int) (ho : o.op = .load 40 x) (hx : a.eval x = .pointer (some ⟨b, k, none⟩)) (hr : ∀ w, Below W0.heap.size W0 w → w.cell? ⟨b, k, none⟩ = some (.int .i64 y.1) ∧ w.cell? ⟨b, k + 1, none⟩ = some (.int .i64 y.2))
    (h : K (a.put o.dst (.agg #[.int .i64 y.1, .int .i64 y.2]))) : Oper.calm Try.prog W0 o a K :=
  calm_val _ (fun w hw => by unfold execOp; simp only [ho, hx, Sem.run_bind, Sem.run_pure, Result.andThen_ok, loadR2 w b k y (hr w hw).1 (hr w hw).2]) h
end
/-- may a car serve a want? -/
theorem shas_any (f : Int) (m c : Nat) (hc : c ≤ 64) (w : World) : Calls Try.prog 65 #[.agg #[.int .i64 f, .int .i64 (m : Int)], .int .i64 (c : Int)] w fun e w' => e = .returned (.bool (PM.bt m c)) ∧ Below w.heap.size w w' := by
  have hb := (Below.refl w.heap.size w).alloc (Nat.le_refl _) (.cells #[.int .i64 f, .int .i64 (m : Int)] 58)
  have hsh := shr_any m c hc
  have HE := Hid.intro' (bt_bits m c)
  go_enter Try.func65, Try.ntmps65
  go_wp2
  go_ret
  exact ⟨ret_bool HE.out, hb⟩
/-- what a node is told by, with a want more -/
def En.grw (e : En) (q w : Nat) : En := ⟨some ⟨q, 0, none⟩, (w : Int), Go.Proofs.Ytagmidolcdefiah.grw e.nd w⟩
def En.nxc (e : En) (q : Nat) : En := ⟨some ⟨q, 0, none⟩, -1, Go.Proofs.Ytagmidolcdefiah.nxc e.nd⟩
section
variable {D : Nat → Prop} {W : World} {tb q : Nat} {s : Sn} {vc vw vb : Value} {e : En}
set_option maxRecDepth 100000 in
set_option maxHeartbeats 4000000 in
theorem grown_any (ht : TR D W tb s vc vw vb) (hq : NK W q (e.c s)) (ok : e.nd.ok s) {j : Nat} (hj : j < s.ws.length) (hs : e.nd.st[j]? = some false) :
    Calls Try.prog 84 #[.pointer (some ⟨tb, 0, none⟩), .pointer (some ⟨q, 0, none⟩), .int .i64 (j : Int)] W fun r w' => r = .returned (.agg ((e.grw q j).c s).toArray) ∧ Below W.heap.size W w' := by
  obtain ⟨y, hy⟩ : ∃ y, s.ws[j]? = some y := ⟨_, List.getElem?_eq_getElem hj⟩
  have nb := ok.nb
  have hwr := nb.bs.rz.wr y (List.mem_of_getElem? hy)
  have HNX : Hid (∀ w', Calls Try.prog 66 #[.agg (sv s.st).toArray, .agg #[.int .i64 (sat s e.nd).fl, .int .i64 (sat s e.nd).he, .int .i64 (sat s e.nd).le], .int .i64 y.1] w' fun r w'' => r = .returned (.agg #[.int .i64 y.1, .int .i64 (RM.ar s.st (sat s e.nd) y.1), .int .i64 (RM.ar s.st (sat s e.nd) y.1 + RM.dw s.st)]) ∧ Below w'.heap.size w' w'') := fun w' => next_any s.st nb.bs.rz.rt (sat s e.nd) nb.sk nb.sl y.1 hwr.1 hwr.2 w'
  have hnn := RM.ar_nn nb.bs.rz.rt nb.sk y.1
  have hll := RM.ar_le nb.bs.rz.rt nb.sk y.1
  have HAD : Hid (∀ w', Calls Try.prog 68 #[.int .i64 (RM.cst s.st s.ws s.cs e.nd.b), .int .i64 (RM.ar s.st (sat s e.nd) y.1)] w' fun r w'' => r = .returned (.int .i64 (RM.cst s.st s.ws s.cs e.nd.b + RM.ar s.st (sat s e.nd) y.1)) ∧ w'' = w') := fun w' => (add_any _ _ w').mono fun r w'' hh => by
    obtain ⟨he, rfl⟩ := hh
    refine ⟨?_, rfl⟩
    rw [he, SM.addC nb.c0 hnn (by have := nb.c1; have := nb.sl; omega)]
  have hlf := PM.lf_set hs
  have hjs : j < e.nd.st.length := (List.getElem?_eq_some_iff.1 hs).1
  have HEQ : Hid ((e.grw q j).c s = gnc (some ⟨q, 0, none⟩) (e.nd.k : Int) (j : Int) ⟨y.1, RM.ar s.st (sat s e.nd) y.1, RM.ar s.st (sat s e.nd) y.1 + RM.dw s.st⟩ (RM.cst s.st s.ws s.cs e.nd.b + RM.ar s.st (sat s e.nd) y.1) (((PM.lf e.nd.st : Nat) : Int) - 1) ((pad e.nd.st).set j true)) := by
    show ncl s _ _ _ = _
    rw [ncl_gnc]
    show gnc _ _ _ (sat s (grw e.nd j)) (RM.cst s.st s.ws s.cs (grw e.nd j).b) ((PM.lf (e.nd.st.set j true) : Nat) : Int) (pad (e.nd.st.set j true)) = _
    rw [sat_grw ok.kl, cst_grw ok, RM.wf_get hy, RM.nx_eq nb.sk, pad_set hjs]
    congr 1
    omega
  have hq' : NK W q (gnc e.pa (e.nd.k : Int) e.wt (sat s e.nd) (RM.cst s.st s.ws s.cs e.nd.b) ((PM.lf e.nd.st : Nat) : Int) (pad e.nd.st)) := hq
  obtain ⟨lf, HLF⟩ : ∃ l : Nat, Hid (PM.lf e.nd.st = l + 1) := ⟨PM.lf e.nd.st - 1, by show _ = _; omega⟩
  have HPL := Hid.intro' (pad_length e.nd.st)
  have HJ8 : Hid (j < 128) := by have := nb.bs.wl; show _ < _; omega
  rw [HEQ.out]
  rw [HLF.out] at hq' ⊢
  have hcast : ((lf + 1 : Nat) : Int) - 1 = (lf : Int) := by omega
  rw [hcast]
  obtain ⟨ac, kc, rfl, _, _⟩ := ht.cs.form
  obtain ⟨aw, kw, rfl, _, _⟩ := ht.ws.form
  obtain ⟨gw, ow, rfl, w0, w1⟩ := ht.ws.at hy
  have hl128 : lf ≤ 128 := by have : PM.lf e.nd.st ≤ e.nd.st.length := List.count_le_length; have := ok.sl; have := nb.bs.wl; have := HLF.out; omega
  generalize RM.ar s.st (sat s e.nd) y.1 = T at HNX HAD ⊢
  generalize T + RM.dw s.st = L at HNX ⊢
  generalize RM.cst s.st s.ws s.cs e.nd.b = co at hq' HAD ⊢
  generalize co + T = co2 at HAD ⊢
  generalize sat s e.nd = a0 at hq' HNX ⊢
  generalize pad e.nd.st = st at hq' HPL ⊢
  generalize (e.nd.k : Int) = k at hq' ⊢
  generalize e.pa = pa at hq'
  generalize e.wt = wt at hq'
  have HT := Hid.intro' ht
  have HQ := Hid.intro' hq'
  have HWC : Hid (∀ w', Below W.heap.size W w' → w'.cell? ⟨gw, ow + j * 2, none⟩ = some (.int .i64 y.1)) := fun w' hw => (Below.cell hw (p := ⟨gw, ow + j * 2, none⟩) (World.block_lt_of_cell? W _ w0)).trans w0
  have hx1 := (Below.refl W.heap.size W).alloc (Nat.le_refl _) (.cells zn.toArray 97)
  have HQ1 := Hid.intro' (hq'.below' hx1)
  have HZ1 := Hid.intro' (NK.new W zn_length)
  have HB1 := Hid.intro' hx1
  have HS1 : Hid ((W.alloc (.cells zn.toArray 97)).heap.size = W.heap.size + 1) := by show _ = _; simp
  have HZ2 := Hid.intro' (NK.new (W.alloc (.cells zn.toArray 97)) zn_length)
  have HG1 := Hid.intro' (gnc_one pa k wt a0 co ((lf + 1 : Nat) : Int) st)
  clear hq hq' ht hlf hs HEQ HLF nb hnn hll w0 w1 hwr hcast hx1 HQ
  go_enter Try.func84, Try.ntmps84
  go_wp2_with (first | (refine wpList_loadN rfl _ rfl q 0 _ HQ1.out.1 rfl HQ1.out.range ?_) | (refine wpList_storeN rfl _ _ rfl _ rfl rfl HZ2.out HQ1.out.1 HG1.out ?_) | (refine wpList_allocN rfl rfl ?_))
  intro W2 hk2 hz2 hn2
  have hb2 : Below W.heap.size W W2 := hk2.below ((HB1.out).alloc (by rw [HS1.out]; omega) _) (by simp; omega) (fun i hi e => by omega)
  have HZ := Hid.intro' ((HZ1.out.below' ((Below.refl _ _).alloc (Nat.le_refl _) (.cells zn.toArray 97))).kp hk2 (by simp))
  have HB2 := Hid.intro' hb2
  have HN2 := Hid.intro' hn2
  have c0 : W2.cell? ⟨W.heap.size + 1, 0, none⟩ = some (.pointer pa) := hn2.cell 0
  have f0 := hn2.fr 0
  have c2 : W2.cell? ⟨W.heap.size + 1, 2, none⟩ = some (.int .i64 wt) := hn2.cell 2
  have f2 := hn2.fr 2
  have HS2 : Hid (W.heap.size + 2 ≤ W2.heap.size) := by show _ ≤ _; omega
  clear hk2 hz2 hn2 hb2 HQ1 HZ1 HZ2 HB1 HS1 HG1
  go_wp2_with fail
  clear c0 f0 c2 f2
  have HN3 := Hid.intro' ((HN2.out.put 0 (.pointer (some ⟨q, 0, none⟩))).put 2 (.int .i64 (j : Int)))
  have hk3 : Kp (fun i => i = W.heap.size + 1) W2 ((W2.setCell ⟨W.heap.size + 1, 0, none⟩ (.pointer (some ⟨q, 0, none⟩))).setCell ⟨W.heap.size + 1, 2, none⟩ (.int .i64 (j : Int))) := ((Kp.refl (fun i => i = W.heap.size + 1) W2).set _ _ _ (fun _ => rfl)).set _ _ _ (fun _ => rfl)
  have HB3 := Hid.intro' (hk3.below HB2.out (by have := HS2.out; omega) (fun i hi e => by omega))
  have HZ3 := Hid.intro' (HZ.out.kp hk3 (by simp))
  have HN3' : Hid (NK ((W2.setCell ⟨W.heap.size + 1, 0, none⟩ (.pointer (some ⟨q, 0, none⟩))).setCell ⟨W.heap.size + 1, 2, none⟩ (.int .i64 (j : Int))) (W.heap.size + 1) (gnc (some ⟨q, 0, none⟩) k (j : Int) a0 co ((lf : Int) + 1) st)) := HN3.out
  clear HN3 hk3 HZ HN2 HB2
  generalize (W2.setCell ⟨W.heap.size + 1, 0, none⟩ (.pointer (some ⟨q, 0, none⟩))).setCell ⟨W.heap.size + 1, 2, none⟩ (.int .i64 (j : Int)) = W3 at HN3' HB3 HZ3 ⊢
  have HT3 := Hid.intro' (HT.out.below' HB3.out)
  have HST : Hid (∀ w', Below W3.drew.heap.size W3.drew w' → w'.rangeAt tb 0 (sv s.st)) := fun w' hw => (HT3.out.drew.below' hw).site
  have HWS : Hid (∀ w', Below W3.drew.heap.size W3.drew w' → w'.cell? ⟨tb, 14, none⟩ = some (.slice (some ⟨gw, ow, none⟩) s.ws.length kw)) := fun w' hw => (HT3.out.drew.below' hw).c14
  have HAT : Hid (∀ w', Below W3.drew.heap.size W3.drew w' → w'.rangeAt (W.heap.size + 1) 3 [.int .i64 a0.fl, .int .i64 a0.he, .int .i64 a0.le]) := fun w' hw => fun i v hv => by
    rw [(HN3'.out.below' ((Below.refl W3.heap.size W3).drew.trans hw)).cell]
    match i, hv with
    | 0, hv => cases hv; rfl
    | 1, hv => cases hv; rfl
    | 2, hv => cases hv; rfl
    | i + 3, hv => simp at hv
  have HXG : Hid (∀ w', Below W3.drew.heap.size W3.drew w' → w'.cell? ⟨gw, ow + j * 2, none⟩ = some (.int .i64 y.1)) := fun w' hw => HWC.out w' (below_class HB3.out ((Below.refl W3.heap.size W3).drew.trans hw))
  refine wp_region_tail 18 (by kernel_rfl) (by kernel_rfl) ?_
  simp only [List.take_succ_cons, List.take_zero, List.drop_succ_cons, List.drop_zero]
  unfold wpCalm
  generalize hK : wpCalm Try.prog _ _ _ _ = K
  unfold Oper.calm
  go_simp
  refine ⟨_, fun _ _ => rfl, ?_⟩
  subst hK
  unfold wpCalm
  generalize hK : wpCalm Try.prog _ _ _ _ = K
  unfold Oper.calm
  go_simp
  refine ⟨_, fun _ _ => rfl, ?_⟩
  subst hK
  unfold wpCalm
  generalize hK : wpCalm Try.prog _ _ _ _ = K
  unfold Oper.calm
  go_simp
  refine ⟨_, fun _ _ => rfl, ?_⟩
  subst hK
  unfold wpCalm
  generalize hK : wpCalm Try.prog _ _ _ _ = K
  unfold Oper.calm
  go_simp
  refine ⟨_, fun _ _ => rfl, ?_⟩
  subst hK
  unfold wpCalm
  generalize hK : wpCalm Try.prog _ _ _ _ = K
  rw [if_pos (by go_simp)]
  refine calm_load23b _ tb s.st rfl rfl HST.out ?_
  go_simp
  subst hK
  unfold wpCalm
  generalize hK : wpCalm Try.prog _ _ _ _ = K
  unfold Oper.calm
  go_simp
  refine ⟨_, fun _ _ => rfl, ?_⟩
  subst hK
  unfold wpCalm
  generalize hK : wpCalm Try.prog _ _ _ _ = K
  rw [if_pos (by go_simp)]
  refine calm_loadE _ _ _ a0 rfl rfl HAT.out ?_
  go_simp
  subst hK
  unfold wpCalm
  generalize hK : wpCalm Try.prog _ _ _ _ = K
  unfold Oper.calm
  go_simp
  refine ⟨_, fun _ _ => rfl, ?_⟩
  subst hK
  unfold wpCalm
  generalize hK : wpCalm Try.prog _ _ _ _ = K
  unfold Oper.calm
  go_simp
  refine ⟨_, fun _ _ => rfl, ?_⟩
  subst hK
  unfold wpCalm
  generalize hK : wpCalm Try.prog _ _ _ _ = K
  unfold Oper.calm
  go_simp
  refine ⟨_, fun _ _ => rfl, ?_⟩
  subst hK
  unfold wpCalm
  generalize hK : wpCalm Try.prog _ _ _ _ = K
  unfold Oper.calm
  go_simp
  refine ⟨_, fun _ _ => rfl, ?_⟩
  subst hK
  unfold wpCalm
  generalize hK : wpCalm Try.prog _ _ _ _ = K
  rw [if_pos (by go_simp)]
  refine calm_loadWs _ _ _ rfl rfl HWS.out ?_
  go_simp
  subst hK
  unfold wpCalm
  generalize hK : wpCalm Try.prog _ _ _ _ = K
  unfold Oper.calm
  go_simp
  refine ⟨_, fun _ _ => rfl, ?_⟩
  subst hK
  unfold wpCalm
  generalize hK : wpCalm Try.prog _ _ _ _ = K
  rw [if_pos (by go_simp)]
  refine calm_ixWs _ _ rfl rfl rfl hj ?_
  go_simp
  subst hK
  unfold wpCalm
  generalize hK : wpCalm Try.prog _ _ _ _ = K
  unfold Oper.calm
  go_simp
  refine ⟨_, fun _ _ => rfl, ?_⟩
  subst hK
  unfold wpCalm
  generalize hK : wpCalm Try.prog _ _ _ _ = K
  rw [if_pos (by go_simp)]
  refine calm_load3 _ _ _ rfl rfl HXG.out ?_
  go_simp
  subst hK
  unfold wpCalm
  generalize hK : wpCalm Try.prog _ _ _ _ = K
  unfold Oper.calm
  go_simp
  refine ⟨_, fun w' hw => HNX.out w', ?_⟩
  subst hK
  unfold wpCalm
  generalize hK : wpCalm Try.prog _ _ _ _ = K
  unfold Oper.calm
  go_simp
  refine ⟨_, fun _ _ => rfl, ?_⟩
  subst hK
  refine wpCalm_nil ?_
  intro W4 hb4
  have hbd := (Below.refl W3.heap.size W3).drew.trans hb4
  have HN4 := Hid.intro' (HN3'.out.below' hbd)
  have HB4 := Hid.intro' (below_class HB3.out hbd)
  have HZ4 := Hid.intro' (HZ3.out.below' hbd)
  clear hbd hb4 HST HWS HAT HXG HN3' HB3 HZ3 HT3 HNX HWC
  go_wp2_with (refine wpList_storeA rfl _ _ rfl (W.heap.size + 1) ⟨y.1, T, L⟩ HN4.out rfl rfl ?_)
  intro W5 hk5 hn5
  have HB5 := Hid.intro' (hk5.below HB4.out (by have := HN4.out.lt; omega) (fun i hi e => by omega))
  have HZ5 := Hid.intro' (HZ4.out.kp hk5 (by simp))
  have HN5 := Hid.intro' hn5
  have c4 : W5.cell? ⟨W.heap.size + 1, 4, none⟩ = some (.int .i64 T) := hn5.cell 4
  have c6 : W5.cell? ⟨W.heap.size + 1, 6, none⟩ = some (.int .i64 co) := hn5.cell 6
  have f6 := hn5.fr 6
  have c7 : W5.cell? ⟨W.heap.size + 1, 7, none⟩ = some (.int .i64 ((lf : Int) + 1)) := hn5.cell 7
  have f7 := hn5.fr 7
  obtain ⟨q8, hq8⟩ : ∃ q8, st[j]? = some q8 := ⟨_, List.getElem?_eq_getElem (by rw [HPL.out]; exact HJ8.out)⟩
  have c8 : W5.cell? ⟨W.heap.size + 1, 8 + j, none⟩ = some (.bool q8) := by
    rw [hn5.cell]
    unfold gnc
    rw [List.getElem?_append_right (by simp)]
    simp [hq8]
  have f8 := hn5.fr (8 + j)
  have hj8 : (j : Int) < 128 := by have := HJ8.out; omega
  clear hk5 hn5 HB4 HZ4 HN4 hq8
  have hkF : Kp (fun i => i = W.heap.size + 1) W5 (((W5.setCell ⟨W.heap.size + 1, 6, none⟩ (.int .i64 co2)).setCell ⟨W.heap.size + 1, 7, none⟩ (.int .i64 (lf : Int))).setCell ⟨W.heap.size + 1, 8 + j, none⟩ (.bool true)) := (((Kp.refl (fun i => i = W.heap.size + 1) W5).set _ _ _ (fun _ => rfl)).set _ _ _ (fun _ => rfl)).set _ _ _ (fun _ => rfl)
  have HNF : Hid (NK (((W5.setCell ⟨W.heap.size + 1, 6, none⟩ (.int .i64 co2)).setCell ⟨W.heap.size + 1, 7, none⟩ (.int .i64 (lf : Int))).setCell ⟨W.heap.size + 1, 8 + j, none⟩ (.bool true)) (W.heap.size + 1) (gnc (some ⟨q, 0, none⟩) k (j : Int) ⟨y.1, T, L⟩ co2 (lf : Int) (st.set j true))) := by
    have h1 := ((HN5.out.put 6 (.int .i64 co2)).put 7 (.int .i64 (lf : Int))).put (8 + j) (.bool true)
    have h2 : ((gnc (some ⟨q, 0, none⟩) k (j : Int) ⟨y.1, T, L⟩ co ((lf : Int) + 1) st).set 6 (.int .i64 co2)).set 7 (.int .i64 (lf : Int)) = gnc (some ⟨q, 0, none⟩) k (j : Int) ⟨y.1, T, L⟩ co2 (lf : Int) st := rfl
    rw [h2, gnc_st] at h1
    exact h1
  have HBF := Hid.intro' (hkF.below HB5.out (by have := HN5.out.lt; omega) (fun i hi e => by omega))
  have HZF := Hid.intro' (HZ5.out.kp hkF (by simp))
  have HG1 := Hid.intro' (gnc_one (some ⟨q, 0, none⟩) k (j : Int) ⟨y.1, T, L⟩ co2 (lf : Int) (st.set j true))
  clear hkF HN5 HB5 HZ5
  go_wp2_with (first | (go_at_call 68; refine (HAD.out _).mono ?_; rintro r w' ⟨rfl, rfl⟩) | (refine wpList_loadN rfl _ rfl (W.heap.size + 1) 0 _ HNF.out.1 rfl HNF.out.range ?_) | (refine wpList_storeN rfl _ _ rfl W.heap.size rfl rfl HZF.out HNF.out.1 HG1.out ?_))
  intro W6 hk6 _ hn6
  go_wp2
  refine bodyPost_ret (retN Try.results84 rfl hn6) rfl ⟨rfl, ?_⟩
  exact hk6.below HBF.out (by have := HZF.out.lt; omega) (fun i hi e => by omega)
end
end Go.Proofs.Ytagmidolcdefiah
