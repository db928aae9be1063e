/- A node's children, gone through by a function that is ranged over. -/
import Derived.Test.YtagmidolcdefiahPk15
namespace Go.Proofs.Ytagmidolcdefiah
open Go.RowKit Go.Shelf
attribute [local go_sem] Oper.semAt_some
/-- a node's children, as they are handed out; of the first j wants -/
def cke (s : Sn) (e : En) (q : Nat) : Nat → List En
  | 0 => []
  | j + 1 => cke s e q j ++ if e.nd.st[j]? = some false ∧ mayk s e.nd.k (j : Int) = true then [e.grw q j] else []
def che (s : Sn) (e : En) (q : Nat) : List En := cke s e q s.ws.length ++ if e.nd.k + 1 < s.cs.length then [e.nxc q] else []
section
variable {s : Sn} {e : En} {q : Nat}
theorem cke_yes {j : Nat} (h1 : e.nd.st[j]? = some false) (h2 : mayk s e.nd.k (j : Int) = true) : cke s e q (j + 1) = cke s e q j ++ [e.grw q j] := by rw [cke, if_pos ⟨h1, h2⟩]
theorem cke_no {j : Nat} (h : ¬ (e.nd.st[j]? = some false ∧ mayk s e.nd.k (j : Int) = true)) : cke s e q (j + 1) = cke s e q j := by rw [cke, if_neg h, List.append_nil]
theorem cke_pre {i j : Nat} (h : i ≤ j) : cke s e q i <+: cke s e q j := by
  induction j with
  | zero => rw [Nat.le_zero.1 h]; exact List.prefix_rfl
  | succ j ih =>
    rcases Nat.lt_or_ge i (j + 1) with h1 | h1
    · refine (ih (by omega)).trans ?_
      rw [cke]; exact List.prefix_append _ _
    · rw [show i = j + 1 by omega]; exact List.prefix_rfl
theorem cke_len : ∀ (j : Nat), (cke s e q j).length ≤ j
  | 0 => Nat.le_refl _
  | j + 1 => by
    rw [cke, List.length_append]
    have := cke_len j
    split <;> simp <;> omega
theorem che_len (hw : s.ws.length ≤ 128) : (che s e q).length ≤ 129 := by
  unfold che
  rw [List.length_append]
  have := cke_len (s := s) (e := e) (q := q) s.ws.length
  split <;> simp <;> omega
theorem cke_nd : ∀ (j : Nat), (cke s e q j).map (·.nd) = chk s e.nd j
  | 0 => rfl
  | j + 1 => by
    rw [cke, List.map_append, cke_nd j, chk]
    split <;> rfl
theorem che_nd (h : e.nd.ok s) : (che s e q).map (·.nd) = chd s e.nd := by
  unfold che chd
  rw [List.map_append, cke_nd, h.bl]
  split <;> rfl
end
/-- what the function that goes through the children reads -/
structure Cq (W : World) (c1 c2 tb q : Nat) (s : Sn) (vc vw vb : Value) (e : En) (G : Nat → Prop) : Prop where
  t1 : W.heap[c1]? = some (.cells #[.pointer (some ⟨tb, 0, none⟩)] 64 (0, 0))
  t2 : W.heap[c2]? = some (.cells #[.pointer (some ⟨q, 0, none⟩)] 94 (0, 0))
  tr : TR G W tb s vc vw vb
  nk : NK W q (e.c s)
  g1 : G c1
  g2 : G c2
  gq : G q
section
variable {w W W' : World} {c1 c2 tb q : Nat} {s : Sn} {vc vw vb : Value} {e : En} {G : Nat → Prop}
theorem Cq.keep (h : Cq W c1 c2 tb q s vc vw vb e G) (hz : W.heap.size ≤ W'.heap.size) (hk : ∀ k, G k → k < W.heap.size → W'.heap[k]? = W.heap[k]?) : Cq W' c1 c2 tb q s vc vw vb e G :=
  ⟨(hk c1 h.g1 (Array.getElem?_eq_some_iff.1 h.t1).1).trans h.t1, (hk c2 h.g2 (Array.getElem?_eq_some_iff.1 h.t2).1).trans h.t2, h.tr.keep hz hk, h.nk.keep (hk q h.gq h.nk.lt), h.g1, h.g2, h.gq⟩
theorem Cq.below' (h : Cq W c1 c2 tb q s vc vw vb e G) (hb : Below W.heap.size W W') : Cq W' c1 c2 tb q s vc vw vb e G := h.keep hb.size fun k _ hl => hb.block k hl
end
/-- what is handed out: a node -/
def EN (s : Sn) (x : En) (_ : Nat → Prop) (_ : World) (args : Array Value) : Prop := args = #[.agg (x.c s).toArray]
/-- what holds between two children -/
structure Cj (W : World) (c1 c2 tb q : Nat) (s : Sn) (vc vw vb : Value) (e : En) (G : Nat → Prop) (J : List En → (Nat → Prop) → World → Prop) (pre : List En) : Prop where
  sq : Cq W c1 c2 tb q s vc vw vb e G
  jj : J pre (fun _ => False) W
section
variable {W W' : World} {c1 c2 tb q : Nat} {s : Sn} {vc vw vb : Value} {e : En} {G : Nat → Prop} {J : List En → (Nat → Prop) → World → Prop} {pre : List En}
theorem Cj.next (h : Cj W c1 c2 tb q s vc vw vb e G J pre) (hJ : Stb J) (hb : Below W.heap.size W W') : Cj W' c1 c2 tb q s vc vw vb e G J pre :=
  ⟨h.sq.below' hb, hJ pre _ _ W W' h.jj (Kp.ofBelow _ hb) (fun _ h => .inl h)⟩
theorem Cj.round (h : Cj W c1 c2 tb q s vc vw vb e G J pre) {x : En} (hk : Kept (fun k => False ∨ G k) W W') (hj : J (pre ++ [x]) (fun _ => False) W') : Cj W' c1 c2 tb q s vc vw vb e G J (pre ++ [x]) :=
  ⟨h.sq.keep hk.size (fun k hg hlt => hk.same k hlt (.inr hg)), hj⟩
end
section
variable {W0 : World} {K : Act → Prop} {o : Oper} {a : Act}
theorem loadPN (w : World) (b k : Nat) (v : Value) (h : w.cell? ⟨b, k, none⟩ = some v) : (Instr.loadAt 94 (.pointer (some ⟨b, k, none⟩))).run Try.prog w = .ok v w := by simp [go_sem, h]
theorem calm_loadPN (x : Operand) (b k : Nat) {v : Value} (ho : o.op = .load 94 x) (hx : a.eval x = .pointer (some ⟨b, k, none⟩)) (hr : ∀ w, Below W0.heap.size W0 w → w.cell? ⟨b, k, none⟩ = some v)
    (h : K (a.put o.dst v)) : Oper.calm Try.prog W0 o a K :=
  calm_val _ (fun w hw => by unfold execOp; simp only [ho, hx, Sem.run_bind, Sem.run_pure, Result.andThen_ok, loadPN w b k v (hr w hw)]) h
theorem loadPT (w : World) (b k : Nat) (v : Value) (h : w.cell? ⟨b, k, none⟩ = some v) : (Instr.loadAt 64 (.pointer (some ⟨b, k, none⟩))).run Try.prog w = .ok v w := by simp [go_sem, h]
theorem calm_loadPT (x : Operand) (b k : Nat) {v : Value} (ho : o.op = .load 64 x) (hx : a.eval x = .pointer (some ⟨b, k, none⟩)) (hr : ∀ w, Below W0.heap.size W0 w → w.cell? ⟨b, k, none⟩ = some v)
    (h : K (a.put o.dst v)) : Oper.calm Try.prog W0 o a K :=
  calm_val _ (fun w hw => by unfold execOp; simp only [ho, hx, Sem.run_bind, Sem.run_pure, Result.andThen_ok, loadPT w b k v (hr w hw)]) h
theorem loadB4 (w : World) (b k : Nat) (v : Value) (h : w.cell? ⟨b, k, none⟩ = some v) : (Instr.loadAt 4 (.pointer (some ⟨b, k, none⟩))).run Try.prog w = .ok v w := by simp [go_sem, h]
theorem calm_loadB4 (x : Operand) (b k : Nat) {v : Value} (ho : o.op = .load 4 x) (hx : a.eval x = .pointer (some ⟨b, k, none⟩)) (hr : ∀ w, Below W0.heap.size W0 w → w.cell? ⟨b, k, none⟩ = some v)
    (h : K (a.put o.dst v)) : Oper.calm Try.prog W0 o a K :=
  calm_val _ (fun w hw => by unfold execOp; simp only [ho, hx, Sem.run_bind, Sem.run_pure, Result.andThen_ok, loadB4 w b k v (hr w hw)]) h
end
set_option maxRecDepth 100000 in
set_option maxHeartbeats 8000000 in
theorem children_seq (s : Sn) (c1 c2 tb q : Nat) (vc vw vb : Value) (e : En) (G : Nat → Prop) (w : World) (hq : Cq w c1 c2 tb q s vc vw vb e G) (ok : e.nd.ok s) :
    SeqG Try.prog 83 #[.pointer (some ⟨c1, 0, none⟩), .pointer (some ⟨c2, 0, none⟩)] (EN s) (fun _ => False) G (fun xs => xs = che s e q) (fun pre => pre <+: che s e q) w := by
  intro nn lo J Jx W hW hJ hJx hY h0
  show CallsIn Fence.wide nn Try.prog 83 #[.func (.yield lo) #[] #[], .pointer (some ⟨c1, 0, none⟩), .pointer (some ⟨c2, 0, none⟩)] W _
  obtain ⟨ac, kc, rfl, _, _⟩ := hq.tr.cs.form
  obtain ⟨aw, kw, rfl, _, _⟩ := hq.tr.ws.form
  have HQ0 : Hid (Cj W c1 c2 tb q s (.slice ac s.cs.length kc) (.slice aw s.ws.length kw) vb e G J []) := ⟨hq.keep hW.size (fun k _ hlt => hW.block k hlt), h0⟩
  have HJ := Hid.intro' hJ
  have HY := Hid.intro' hY
  have HOK := Hid.intro' ok
  obtain ⟨n8, hrs⟩ := rgt_rs hq.tr.rg
  have HRS := Hid.intro' hrs
  have hwl : s.ws.length ≤ 128 := hrs.wl
  have hkc : e.nd.k < s.cs.length := by have := ok.kl; have := ok.bl; omega
  have hk8 : e.nd.k ≤ 8 := by have := hrs.cl; have := hrs.n8; omega
  have d1 : W.cell? ⟨c1, 0, none⟩ = some (.pointer (some ⟨tb, 0, none⟩)) := by rw [cell_of_row _ _ 0 _ _ _ HQ0.out.sq.t1]; rfl
  have d14 : W.cell? ⟨tb, 14, none⟩ = some (.slice aw s.ws.length kw) := HQ0.out.sq.tr.c14
  refine callsIn_of_wp Try.func83 rfl trivial ?_ rfl
  simp only [Try.ntmps83, List.size_toArray, List.length_cons, List.length_nil, Nat.reduceAdd, Nat.reduceSub, Array.replicate_succ, Array.replicate_zero, List.push_toArray, List.append_toArray, List.nil_append, List.cons_append]
  have hwf : ∀ k, Fence.wide.fn k := fun _ => trivial
  have hdd : ∀ k : Nat, (Fence.wide.depth.isSome = true → 1 ≤ k) := fun k h => by cases h
  clear hq ok hW hJ hJx hY h0 hrs
  gi_wp2_with fail
  clear d1 d14
  gi_loopw [12] (fun i wr => ∃ (j : Nat), j ≤ s.ws.length ∧ i = .int .i64 (j : Int) ∧ Hid (Cj wr c1 c2 tb q s (.slice ac s.cs.length kc) (.slice aw s.ws.length kw) vb e G J (cke s e q j))) (fun i _ => s.ws.length - (intOf i).toNat)
  case atStart => exact ⟨0, Nat.zero_le _, rfl, HQ0⟩
  case round =>
    clear HQ0
    rename World => Wr
    obtain ⟨j, hj, rfl, HQ⟩ := hrel
    by_cases hlt : j < s.ws.length
    · have hjz : (j : Int) < (s.ws.length : Int) := by omega
      obtain ⟨y, hy⟩ : ∃ y, s.ws[j]? = some y := ⟨_, List.getElem?_eq_getElem hlt⟩
      obtain ⟨st, hst⟩ : ∃ st, e.nd.st[j]? = some st := ⟨_, List.getElem?_eq_getElem (by rw [HOK.out.sl]; exact hlt)⟩
      obtain ⟨gw, ow, haw, w0, w1⟩ := HQ.out.sq.tr.ws.at hy
      subst haw
      have hja : j < 128 := by omega
      have hjb : (j : Int) < 128 := by omega
      obtain ⟨m, hm, hym⟩ := HRS.out.mm.eq j y hy
      have HMY : Hid (mayk s e.nd.k (j : Int) = PM.bt m e.nd.k) := by show _ = _; unfold mayk; rw [Int.toNat_natCast, hm]; rfl
      obtain ⟨y1, y2⟩ := y
      simp only at hym
      subst hym
      have HQ1 := Hid.intro' (HQ.out.next HJ.out ((Below.refl Wr.heap.size Wr).alloc (Nat.le_refl _) (.cells #[.int .i64 y1, .int .i64 (m : Int)] 58)))
      have HY2 : Hid ((Wr.alloc (.cells #[.int .i64 y1, .int .i64 (m : Int)] 58)).heap[Wr.heap.size]? = some (.cells #[.int .i64 y1, .int .i64 (m : Int)] 58 (0, 0))) := World.alloc_heap_new Wr _
      have HST := Hid.intro' hst
      clear hy hst hm HQ
      gi_wp2_with fail
      clear w0 w1
      generalize Wr.alloc (.cells #[.int .i64 y1, .int .i64 (m : Int)] 58) = V at HQ1 HY2 ⊢
      generalize Wr.heap.size = wb at HY2 ⊢
      have hcell : ∀ {w' : World} {p : Addr} {v : Value}, Below V.drew.heap.size V.drew w' → V.cell? p = some v → w'.cell? p = some v := fun hw h => (Below.cell ((Below.refl V.heap.size V).drew.trans hw) (World.block_lt_of_cell? V _ h)).trans h
      have HC2 : Hid (∀ w', Below V.drew.heap.size V.drew w' → w'.cell? ⟨c2, 0, none⟩ = some (.pointer (some ⟨q, 0, none⟩))) := fun w' hw => hcell hw (by rw [cell_of_row _ _ 0 _ _ _ HQ1.out.sq.t2]; rfl)
      have HC1 : Hid (∀ w', Below V.drew.heap.size V.drew w' → w'.cell? ⟨c1, 0, none⟩ = some (.pointer (some ⟨tb, 0, none⟩))) := fun w' hw => hcell hw (by rw [cell_of_row _ _ 0 _ _ _ HQ1.out.sq.t1]; rfl)
      have HC8 : Hid (∀ w', Below V.drew.heap.size V.drew w' → w'.cell? ⟨q, 8 + j, none⟩ = some (.bool st)) := fun w' hw => hcell hw ((HQ1.out.sq.nk.cell (8 + j)).trans (ncl_st (by rw [HOK.out.sl]; exact hwl) HST.out))
      have HKK : Hid (∀ w', Below V.drew.heap.size V.drew w' → w'.cell? ⟨q, 1, none⟩ = some (.int .i64 (e.nd.k : Int))) := fun w' hw => hcell hw (HQ1.out.sq.nk.cell 1)
      have HWV : Hid (∀ w', Below V.drew.heap.size V.drew w' → w'.heap[wb]? = some (.cells #[.int .i64 (y1, (m : Int)).1, .int .i64 (y1, (m : Int)).2] 58 (0, 0))) := fun w' hw => (((Below.refl V.heap.size V).drew.trans hw).block wb (Array.getElem?_eq_some_iff.1 HY2.out).1).trans HY2.out
      clear hcell
      cases st with
      | true =>
        have HE : Hid (cke s e q (j + 1) = cke s e q j) := cke_no (fun h => by rw [HST.out] at h; cases h.1)
        refine wpIn_region_tail 23 (by kernel_rfl) (by kernel_rfl) ?_
        simp only [List.take_succ_cons, List.take_zero, List.drop_succ_cons, List.drop_zero]
        unfold wpCalm
        generalize hK : wpCalm Try.prog _ _ _ _ = K
        rw [if_pos (by go_simp)]
        refine calm_loadPN _ _ _ rfl rfl HC2.out ?_
        go_simp
        subst hK
        unfold wpCalm
        generalize hK : wpCalm Try.prog _ _ _ _ = K
        unfold Oper.calm
        go_simp
        refine ⟨_, fun _ _ => rfl, ?_⟩
        subst hK
        unfold wpCalm
        generalize hK : wpCalm Try.prog _ _ _ _ = K
        unfold Oper.calm
        go_simp
        refine ⟨_, fun _ _ => rfl, ?_⟩
        subst hK
        unfold wpCalm
        generalize hK : wpCalm Try.prog _ _ _ _ = K
        unfold Oper.calm
        go_simp
        refine ⟨_, fun _ _ => rfl, ?_⟩
        subst hK
        unfold wpCalm
        generalize hK : wpCalm Try.prog _ _ _ _ = K
        unfold Oper.calm
        go_simp
        refine ⟨_, fun _ _ => rfl, ?_⟩
        subst hK
        unfold wpCalm
        generalize hK : wpCalm Try.prog _ _ _ _ = K
        rw [if_pos (by go_simp)]
        refine calm_loadB4 _ _ _ rfl rfl HC8.out ?_
        go_simp
        subst hK
        unfold wpCalm
        generalize hK : wpCalm Try.prog _ _ _ _ = K
        unfold Oper.calm
        go_simp
        refine ⟨_, fun _ _ => rfl, ?_⟩
        subst hK
        unfold wpCalm
        generalize hK : wpCalm Try.prog _ _ _ _ = K
        unfold Oper.calm
        go_simp
        refine ⟨_, fun _ _ => rfl, ?_⟩
        subst hK
        unfold wpCalm
        generalize hK : wpCalm Try.prog _ _ _ _ = K
        go_simp
        subst hK
        unfold wpCalm
        generalize hK : wpCalm Try.prog _ _ _ _ = K
        go_simp
        subst hK
        unfold wpCalm
        generalize hK : wpCalm Try.prog _ _ _ _ = K
        go_simp
        subst hK
        unfold wpCalm
        generalize hK : wpCalm Try.prog _ _ _ _ = K
        go_simp
        subst hK
        unfold wpCalm
        generalize hK : wpCalm Try.prog _ _ _ _ = K
        go_simp
        subst hK
        unfold wpCalm
        generalize hK : wpCalm Try.prog _ _ _ _ = K
        go_simp
        subst hK
        unfold wpCalm
        generalize hK : wpCalm Try.prog _ _ _ _ = K
        unfold Oper.calm
        go_simp
        refine ⟨_, fun _ _ => rfl, ?_⟩
        subst hK
        unfold wpCalm
        generalize hK : wpCalm Try.prog _ _ _ _ = K
        unfold Oper.calm
        go_simp
        refine ⟨_, fun _ _ => rfl, ?_⟩
        subst hK
        unfold wpCalm
        generalize hK : wpCalm Try.prog _ _ _ _ = K
        go_simp
        subst hK
        unfold wpCalm
        generalize hK : wpCalm Try.prog _ _ _ _ = K
        go_simp
        subst hK
        unfold wpCalm
        generalize hK : wpCalm Try.prog _ _ _ _ = K
        go_simp
        subst hK
        unfold wpCalm
        generalize hK : wpCalm Try.prog _ _ _ _ = K
        go_simp
        subst hK
        unfold wpCalm
        generalize hK : wpCalm Try.prog _ _ _ _ = K
        go_simp
        subst hK
        unfold wpCalm
        generalize hK : wpCalm Try.prog _ _ _ _ = K
        go_simp
        subst hK
        unfold wpCalm
        generalize hK : wpCalm Try.prog _ _ _ _ = K
        go_simp
        subst hK
        refine wpCalm_nil ?_
        intro V2 hb2
        have HQ2 := Hid.intro' (HQ1.out.next HJ.out ((Below.refl V.heap.size V).drew.trans hb2))
        rw [← HE.out] at HQ2
        clear hb2 HC1 HC2 HC8 HKK HWV HQ1 HY2
        gi_wp2
        go_roundw
        case rel => exact ⟨j + 1, by omega, by go_num, HQ2⟩
        case measure => simp [intOf]; omega
      | false =>
        have HH := Hid.intro' (shas_any y1 m e.nd.k (by omega))
        cases hbt : PM.bt m e.nd.k with
        | false =>
          rw [hbt] at HH
          have HE : Hid (cke s e q (j + 1) = cke s e q j) := cke_no (fun h => by rw [HMY.out, hbt] at h; cases h.2)
          clear hbt
          refine wpIn_region_tail 23 (by kernel_rfl) (by kernel_rfl) ?_
          simp only [List.take_succ_cons, List.take_zero, List.drop_succ_cons, List.drop_zero]
          unfold wpCalm
          generalize hK : wpCalm Try.prog _ _ _ _ = K
          rw [if_pos (by go_simp)]
          refine calm_loadPN _ _ _ rfl rfl HC2.out ?_
          go_simp
          subst hK
          unfold wpCalm
          generalize hK : wpCalm Try.prog _ _ _ _ = K
          unfold Oper.calm
          go_simp
          refine ⟨_, fun _ _ => rfl, ?_⟩
          subst hK
          unfold wpCalm
          generalize hK : wpCalm Try.prog _ _ _ _ = K
          unfold Oper.calm
          go_simp
          refine ⟨_, fun _ _ => rfl, ?_⟩
          subst hK
          unfold wpCalm
          generalize hK : wpCalm Try.prog _ _ _ _ = K
          unfold Oper.calm
          go_simp
          refine ⟨_, fun _ _ => rfl, ?_⟩
          subst hK
          unfold wpCalm
          generalize hK : wpCalm Try.prog _ _ _ _ = K
          unfold Oper.calm
          go_simp
          refine ⟨_, fun _ _ => rfl, ?_⟩
          subst hK
          unfold wpCalm
          generalize hK : wpCalm Try.prog _ _ _ _ = K
          rw [if_pos (by go_simp)]
          refine calm_loadB4 _ _ _ rfl rfl HC8.out ?_
          go_simp
          subst hK
          unfold wpCalm
          generalize hK : wpCalm Try.prog _ _ _ _ = K
          unfold Oper.calm
          go_simp
          refine ⟨_, fun _ _ => rfl, ?_⟩
          subst hK
          unfold wpCalm
          generalize hK : wpCalm Try.prog _ _ _ _ = K
          unfold Oper.calm
          go_simp
          refine ⟨_, fun _ _ => rfl, ?_⟩
          subst hK
          unfold wpCalm
          generalize hK : wpCalm Try.prog _ _ _ _ = K
          rw [if_pos (by go_simp)]
          refine calm_loadWV _ wb (y1, (m : Int)) rfl rfl HWV.out ?_
          go_simp
          subst hK
          unfold wpCalm
          generalize hK : wpCalm Try.prog _ _ _ _ = K
          rw [if_pos (by go_simp)]
          refine calm_loadPN _ _ _ rfl rfl HC2.out ?_
          go_simp
          subst hK
          unfold wpCalm
          generalize hK : wpCalm Try.prog _ _ _ _ = K
          unfold Oper.calm
          go_simp
          refine ⟨_, fun _ _ => rfl, ?_⟩
          subst hK
          unfold wpCalm
          generalize hK : wpCalm Try.prog _ _ _ _ = K
          unfold Oper.calm
          go_simp
          refine ⟨_, fun _ _ => rfl, ?_⟩
          subst hK
          unfold wpCalm
          generalize hK : wpCalm Try.prog _ _ _ _ = K
          rw [if_pos (by go_simp)]
          refine calm_load3 _ _ _ rfl rfl HKK.out ?_
          go_simp
          subst hK
          unfold wpCalm
          generalize hK : wpCalm Try.prog _ _ _ _ = K
          unfold Oper.calm
          go_simp
          refine ⟨_, fun w' hw => HH.out w', ?_⟩
          subst hK
          unfold wpCalm
          generalize hK : wpCalm Try.prog _ _ _ _ = K
          unfold Oper.calm
          go_simp
          refine ⟨_, fun _ _ => rfl, ?_⟩
          subst hK
          unfold wpCalm
          generalize hK : wpCalm Try.prog _ _ _ _ = K
          unfold Oper.calm
          go_simp
          refine ⟨_, fun _ _ => rfl, ?_⟩
          subst hK
          unfold wpCalm
          generalize hK : wpCalm Try.prog _ _ _ _ = K
          go_simp
          subst hK
          unfold wpCalm
          generalize hK : wpCalm Try.prog _ _ _ _ = K
          go_simp
          subst hK
          unfold wpCalm
          generalize hK : wpCalm Try.prog _ _ _ _ = K
          go_simp
          subst hK
          unfold wpCalm
          generalize hK : wpCalm Try.prog _ _ _ _ = K
          go_simp
          subst hK
          unfold wpCalm
          generalize hK : wpCalm Try.prog _ _ _ _ = K
          go_simp
          subst hK
          unfold wpCalm
          generalize hK : wpCalm Try.prog _ _ _ _ = K
          go_simp
          subst hK
          unfold wpCalm
          generalize hK : wpCalm Try.prog _ _ _ _ = K
          go_simp
          subst hK
          refine wpCalm_nil ?_
          intro V2 hb2
          have HQ2 := Hid.intro' (HQ1.out.next HJ.out ((Below.refl V.heap.size V).drew.trans hb2))
          rw [← HE.out] at HQ2
          clear hb2 HC1 HC2 HC8 HKK HWV HQ1 HY2
          gi_wp2
          go_roundw
          case rel => exact ⟨j + 1, by omega, by go_num, HQ2⟩
          case measure => simp [intOf]; omega
        | true =>
          rw [hbt] at HH
          have HE : Hid (cke s e q (j + 1) = cke s e q j ++ [e.grw q j]) := cke_yes HST.out (HMY.out.trans hbt)
          have HGR : Hid (∀ w', Below V.drew.heap.size V.drew w' → Calls Try.prog 84 #[.pointer (some ⟨tb, 0, none⟩), .pointer (some ⟨q, 0, none⟩), .int .i64 (j : Int)] w' fun r w'' => r = .returned (.agg ((e.grw q j).c s).toArray) ∧ Below w'.heap.size w' w'') := fun w' hw =>
            have h := HQ1.out.next HJ.out ((Below.refl V.heap.size V).drew.trans hw)
            grown_any h.sq.tr h.sq.nk HOK.out hlt HST.out
          clear hbt
          refine wpIn_region_tail 21 (by kernel_rfl) (by kernel_rfl) ?_
          simp only [List.take_succ_cons, List.take_zero, List.drop_succ_cons, List.drop_zero]
          unfold wpCalm
          generalize hK : wpCalm Try.prog _ _ _ _ = K
          rw [if_pos (by go_simp)]
          refine calm_loadPN _ _ _ rfl rfl HC2.out ?_
          go_simp
          subst hK
          unfold wpCalm
          generalize hK : wpCalm Try.prog _ _ _ _ = K
          unfold Oper.calm
          go_simp
          refine ⟨_, fun _ _ => rfl, ?_⟩
          subst hK
          unfold wpCalm
          generalize hK : wpCalm Try.prog _ _ _ _ = K
          unfold Oper.calm
          go_simp
          refine ⟨_, fun _ _ => rfl, ?_⟩
          subst hK
          unfold wpCalm
          generalize hK : wpCalm Try.prog _ _ _ _ = K
          unfold Oper.calm
          go_simp
          refine ⟨_, fun _ _ => rfl, ?_⟩
          subst hK
          unfold wpCalm
          generalize hK : wpCalm Try.prog _ _ _ _ = K
          unfold Oper.calm
          go_simp
          refine ⟨_, fun _ _ => rfl, ?_⟩
          subst hK
          unfold wpCalm
          generalize hK : wpCalm Try.prog _ _ _ _ = K
          rw [if_pos (by go_simp)]
          refine calm_loadB4 _ _ _ rfl rfl HC8.out ?_
          go_simp
          subst hK
          unfold wpCalm
          generalize hK : wpCalm Try.prog _ _ _ _ = K
          unfold Oper.calm
          go_simp
          refine ⟨_, fun _ _ => rfl, ?_⟩
          subst hK
          unfold wpCalm
          generalize hK : wpCalm Try.prog _ _ _ _ = K
          unfold Oper.calm
          go_simp
          refine ⟨_, fun _ _ => rfl, ?_⟩
          subst hK
          unfold wpCalm
          generalize hK : wpCalm Try.prog _ _ _ _ = K
          rw [if_pos (by go_simp)]
          refine calm_loadWV _ wb (y1, (m : Int)) rfl rfl HWV.out ?_
          go_simp
          subst hK
          unfold wpCalm
          generalize hK : wpCalm Try.prog _ _ _ _ = K
          rw [if_pos (by go_simp)]
          refine calm_loadPN _ _ _ rfl rfl HC2.out ?_
          go_simp
          subst hK
          unfold wpCalm
          generalize hK : wpCalm Try.prog _ _ _ _ = K
          unfold Oper.calm
          go_simp
          refine ⟨_, fun _ _ => rfl, ?_⟩
          subst hK
          unfold wpCalm
          generalize hK : wpCalm Try.prog _ _ _ _ = K
          unfold Oper.calm
          go_simp
          refine ⟨_, fun _ _ => rfl, ?_⟩
          subst hK
          unfold wpCalm
          generalize hK : wpCalm Try.prog _ _ _ _ = K
          rw [if_pos (by go_simp)]
          refine calm_load3 _ _ _ rfl rfl HKK.out ?_
          go_simp
          subst hK
          unfold wpCalm
          generalize hK : wpCalm Try.prog _ _ _ _ = K
          unfold Oper.calm
          go_simp
          refine ⟨_, fun w' hw => HH.out w', ?_⟩
          subst hK
          unfold wpCalm
          generalize hK : wpCalm Try.prog _ _ _ _ = K
          unfold Oper.calm
          go_simp
          refine ⟨_, fun _ _ => rfl, ?_⟩
          subst hK
          unfold wpCalm
          generalize hK : wpCalm Try.prog _ _ _ _ = K
          unfold Oper.calm
          go_simp
          refine ⟨_, fun _ _ => rfl, ?_⟩
          subst hK
          unfold wpCalm
          generalize hK : wpCalm Try.prog _ _ _ _ = K
          unfold Oper.calm
          go_simp
          refine ⟨_, fun _ _ => rfl, ?_⟩
          subst hK
          unfold wpCalm
          generalize hK : wpCalm Try.prog _ _ _ _ = K
          rw [if_pos (by go_simp)]
          refine calm_loadPT _ _ _ rfl rfl HC1.out ?_
          go_simp
          subst hK
          unfold wpCalm
          generalize hK : wpCalm Try.prog _ _ _ _ = K
          rw [if_pos (by go_simp)]
          refine calm_loadPN _ _ _ rfl rfl HC2.out ?_
          go_simp
          subst hK
          unfold wpCalm
          generalize hK : wpCalm Try.prog _ _ _ _ = K
          unfold Oper.calm
          go_simp
          refine ⟨_, fun _ _ => rfl, ?_⟩
          subst hK
          unfold wpCalm
          generalize hK : wpCalm Try.prog _ _ _ _ = K
          unfold Oper.calm
          go_simp
          refine ⟨_, fun w' hw => HGR.out w' hw, ?_⟩
          subst hK
          refine wpCalm_nil ?_
          intro V2 hb2
          have HQ2 := Hid.intro' (HQ1.out.next HJ.out ((Below.refl V.heap.size V).drew.trans hb2))
          clear hb2 HC1 HC2 HC8 HKK HWV HQ1 HY2 HGR HH
          have HPR : Hid (cke s e q j ++ [e.grw q j] <+: che s e q) := by
            show _ <+: _
            rw [← HE.out]
            exact (cke_pre (by omega)).trans (List.prefix_append _ _)
          obtain ⟨fn, tmps, assign, body, hy5, hR5⟩ := HY.out (nn - 1) _ (e.grw q j) (fun _ => False) V2 #[.agg ((e.grw q j).c s).toArray] HPR.out HQ2.out.jj rfl
          have HR5 := Hid.intro' hR5
          clear hR5
          gi_wp2_with fail
          refine ⟨hdd _, HR5.out.mono ?_⟩
          rintro r W6 (⟨rfl, hj6, hk6⟩ | ⟨rfl, hx6, _⟩)
          · have HQ6 := Hid.intro' (HQ2.out.round hk6 hj6)
            rw [← HE.out] at HQ6
            clear hj6 hk6 HQ2 hy5 HR5
            gi_wp2
            go_roundw
            case rel => exact ⟨j + 1, by omega, by go_num, HQ6⟩
            case measure => simp [intOf]; omega
          · have HX6 := Hid.intro' hx6
            clear hx6 HQ2 hy5 HR5
            gi_wp2
            refine bodyPost_ret (results_none rfl _ _ _) rfl ?_
            exact ⟨⟨_, rfl⟩, .inr ⟨_, _, HPR.out, HX6.out⟩⟩
    · have hjz : ¬ (j : Int) < (s.ws.length : Int) := by omega
      rw [show j = s.ws.length by omega] at HQ
      have hw1 : IntKind.i64.wrap ((e.nd.k : Int) + 1) = ((e.nd.k + 1 : Nat) : Int) := by rw [IntWalk.i64_in _ (by omega)]; omega
      gi_wp2_with fail
      have hcell : ∀ {w' : World} {p : Addr} {v : Value}, Below Wr.drew.heap.size Wr.drew w' → Wr.cell? p = some v → w'.cell? p = some v := fun hw h => (Below.cell ((Below.refl Wr.heap.size Wr).drew.trans hw) (World.block_lt_of_cell? Wr _ h)).trans h
      have HC2 : Hid (∀ w', Below Wr.drew.heap.size Wr.drew w' → w'.cell? ⟨c2, 0, none⟩ = some (.pointer (some ⟨q, 0, none⟩))) := fun w' hw => hcell hw (by rw [cell_of_row _ _ 0 _ _ _ HQ.out.sq.t2]; rfl)
      have HC1 : Hid (∀ w', Below Wr.drew.heap.size Wr.drew w' → w'.cell? ⟨c1, 0, none⟩ = some (.pointer (some ⟨tb, 0, none⟩))) := fun w' hw => hcell hw (by rw [cell_of_row _ _ 0 _ _ _ HQ.out.sq.t1]; rfl)
      have HKK : Hid (∀ w', Below Wr.drew.heap.size Wr.drew w' → w'.cell? ⟨q, 1, none⟩ = some (.int .i64 (e.nd.k : Int))) := fun w' hw => hcell hw (HQ.out.sq.nk.cell 1)
      have H13 : Hid (∀ w', Below Wr.drew.heap.size Wr.drew w' → w'.cell? ⟨tb, 13, none⟩ = some (.slice ac s.cs.length kc)) := fun w' hw => hcell hw HQ.out.sq.tr.c13
      clear hcell
      refine wpIn_region_tail 11 (by kernel_rfl) (by kernel_rfl) ?_
      simp only [List.take_succ_cons, List.take_zero, List.drop_succ_cons, List.drop_zero]
      unfold wpCalm
      generalize hK : wpCalm Try.prog _ _ _ _ = K
      rw [if_pos (by go_simp)]
      refine calm_loadPN _ _ _ rfl rfl HC2.out ?_
      go_simp
      subst hK
      unfold wpCalm
      generalize hK : wpCalm Try.prog _ _ _ _ = K
      unfold Oper.calm
      go_simp
      refine ⟨_, fun _ _ => rfl, ?_⟩
      subst hK
      unfold wpCalm
      generalize hK : wpCalm Try.prog _ _ _ _ = K
      unfold Oper.calm
      go_simp
      refine ⟨_, fun _ _ => rfl, ?_⟩
      subst hK
      unfold wpCalm
      generalize hK : wpCalm Try.prog _ _ _ _ = K
      rw [if_pos (by go_simp)]
      refine calm_load3 _ _ _ rfl rfl HKK.out ?_
      go_simp
      subst hK
      unfold wpCalm
      generalize hK : wpCalm Try.prog _ _ _ _ = K
      unfold Oper.calm
      go_simp
      refine ⟨_, fun _ _ => rfl, ?_⟩
      subst hK
      unfold wpCalm
      generalize hK : wpCalm Try.prog _ _ _ _ = K
      rw [if_pos (by go_simp)]
      refine calm_loadPT _ _ _ rfl rfl HC1.out ?_
      go_simp
      subst hK
      unfold wpCalm
      generalize hK : wpCalm Try.prog _ _ _ _ = K
      unfold Oper.calm
      go_simp
      refine ⟨_, fun _ _ => rfl, ?_⟩
      subst hK
      unfold wpCalm
      generalize hK : wpCalm Try.prog _ _ _ _ = K
      unfold Oper.calm
      go_simp
      refine ⟨_, fun _ _ => rfl, ?_⟩
      subst hK
      unfold wpCalm
      generalize hK : wpCalm Try.prog _ _ _ _ = K
      unfold Oper.calm
      go_simp
      refine ⟨_, fun _ _ => rfl, ?_⟩
      subst hK
      unfold wpCalm
      generalize hK : wpCalm Try.prog _ _ _ _ = K
      rw [if_pos (by go_simp)]
      refine calm_loadRs _ _ _ rfl rfl H13.out ?_
      go_simp
      subst hK
      unfold wpCalm
      generalize hK : wpCalm Try.prog _ _ _ _ = K
      unfold Oper.calm
      go_simp
      refine ⟨_, fun _ _ => rfl, ?_⟩
      subst hK
      refine wpCalm_nil ?_
      intro V2 hb2
      have HQ2 := Hid.intro' (HQ.out.next HJ.out ((Below.refl Wr.heap.size Wr).drew.trans hb2))
      clear hb2 HC1 HC2 HKK H13 HQ
      by_cases hkn : e.nd.k + 1 < s.cs.length
      · have hkz : ((e.nd.k : Int) + 1) < (s.cs.length : Int) := by omega
        have HE : Hid (cke s e q s.ws.length ++ [e.nxc q] = che s e q) := by show _ = _; unfold che; rw [if_pos hkn]
        have HNC := Hid.intro' (nextCar_any HQ2.out.sq.tr HQ2.out.sq.nk HOK.out hkn)
        have d1 : V2.cell? ⟨c1, 0, none⟩ = some (.pointer (some ⟨tb, 0, none⟩)) := by rw [cell_of_row _ _ 0 _ _ _ HQ2.out.sq.t1]; rfl
        have d2 : V2.cell? ⟨c2, 0, none⟩ = some (.pointer (some ⟨q, 0, none⟩)) := by rw [cell_of_row _ _ 0 _ _ _ HQ2.out.sq.t2]; rfl
        gi_wp2_with fail
        refine ⟨hdd _, (callsIn_wide.2 HNC.out).mono ?_⟩
        rintro r V3 ⟨rfl, hb3⟩
        have HQ3 := Hid.intro' (HQ2.out.next HJ.out hb3)
        clear hb3 HQ2 HNC d1 d2
        obtain ⟨fn, tmps, assign, body, hy5, hR5⟩ := HY.out (nn - 1) _ (e.nxc q) (fun _ => False) V3 #[.agg ((e.nxc q).c s).toArray] (by rw [HE.out]; exact List.prefix_rfl) HQ3.out.jj rfl
        have HR5 := Hid.intro' hR5
        clear hR5
        gi_wp2_with fail
        refine ⟨hdd _, HR5.out.mono ?_⟩
        rintro r W6 (⟨rfl, hj6, hk6⟩ | ⟨rfl, hx6, _⟩)
        · rw [HE.out] at hj6
          have HJ6 := Hid.intro' hj6
          clear hj6 hk6 HQ3 hy5 HR5
          gi_wp2
          go_end0
          exact ⟨⟨_, rfl⟩, .inl ⟨_, _, rfl, HJ6.out⟩⟩
        · have HX6 := Hid.intro' hx6
          clear hx6 HQ3 hy5 HR5
          gi_wp2
          go_end0
          exact ⟨⟨_, rfl⟩, .inr ⟨_, _, by rw [HE.out]; exact List.prefix_rfl, HX6.out⟩⟩
      · have hkz : ¬ ((e.nd.k : Int) + 1) < (s.cs.length : Int) := by omega
        have HE : Hid (cke s e q s.ws.length = che s e q) := by show _ = _; unfold che; rw [if_neg hkn, List.append_nil]
        have hj2 := HQ2.out.jj
        rw [HE.out] at hj2
        have HJ2 := Hid.intro' hj2
        clear hj2 HQ2
        gi_wp2
        go_end0
        first | exact ⟨⟨_, rfl⟩, .inl ⟨_, _, rfl, HJ2.out⟩⟩ | exact ⟨⟨_, rfl⟩, .inl ⟨_, HJ2.out⟩⟩ | (trace_state; fail)
end Go.Proofs.Ytagmidolcdefiah
