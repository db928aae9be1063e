/- Several texts in one, each with its own head. -/
import Derived.Test.YtagmidolcdefiahSlT
import Derived.Test.YtagmidolcdefiahPk3
import Derived.OrdersIn
import Derived.TacticsIn
import Derived.Test.YtagmidolcdefiahPk14
/- A search's tree: the next car, and the first node. -/
namespace Go.Proofs.Ytagmidolcdefiah
open Go.RowKit Go.Shelf
section
variable {D : Nat → Prop} {W : World} {tb q : Nat} {s : Sn} {vc vw vb : Value} {e : En}
set_option maxRecDepth 100000 in
set_option maxHeartbeats 4000000 in
theorem nextCar_any (ht : TR D W tb s vc vw vb) (hq : NK W q (e.c s)) (ok : e.nd.ok s) (hk : e.nd.k + 1 < s.cs.length) :
    Calls Try.prog 85 #[.pointer (some ⟨tb, 0, none⟩), .pointer (some ⟨q, 0, none⟩)] W fun r w' => r = .returned (.agg ((e.nxc q).c s).toArray) ∧ Below W.heap.size W w' := by
  obtain ⟨y, hy⟩ : ∃ y, s.cs[e.nd.k + 1]? = some y := ⟨_, List.getElem?_eq_getElem hk⟩
  have HBG : Hid (∀ w', Calls Try.prog 36 #[.agg #[.int .i64 y.1, .int .i64 y.2]] w' fun r w'' => r = .returned (.agg #[.int .i64 y.1, .int .i64 (-1), .int .i64 y.2]) ∧ Below w'.heap.size w' w'') := fun w' => begin_any y.1 y.2 w'
  have HEQ : Hid ((e.nxc q).c s = gnc (some ⟨q, 0, none⟩) ((e.nd.k + 1 : Nat) : Int) (-1) ⟨y.1, -1, y.2⟩ (RM.cst s.st s.ws s.cs e.nd.b) ((PM.lf e.nd.st : Nat) : Int) (pad e.nd.st)) := by
    show ncl s _ _ _ = _
    rw [ncl_gnc]
    show gnc _ _ _ (sat s (nxc e.nd)) _ _ _ = _
    rw [sat_nxc ok hy]; rfl
  have hq' : NK W q (gnc e.pa (e.nd.k : Int) e.wt (sat s e.nd) (RM.cst s.st s.ws s.cs e.nd.b) ((PM.lf e.nd.st : Nat) : Int) (pad e.nd.st)) := hq
  rw [HEQ.out]
  obtain ⟨ac, kc, rfl, _, _⟩ := ht.cs.form
  obtain ⟨gc, oc, rfl, w0, w1⟩ := ht.cs.at hy
  have HK8 : Hid (e.nd.k ≤ 100) := by
    obtain ⟨n8, hrs⟩ := rgt_rs ht.rg
    have := hrs.cl; have := hrs.n8
    show _ ≤ _; omega
  have hk8 : e.nd.k ≤ 100 := HK8.out
  have hks : e.nd.k + 1 < s.cs.length := hk
  generalize RM.cst s.st s.ws s.cs e.nd.b = co at hq' ⊢
  generalize ((PM.lf e.nd.st : Nat) : Int) = lf at hq' ⊢
  generalize sat s e.nd = a0 at hq' ⊢
  generalize pad e.nd.st = st at hq' ⊢
  generalize e.nd.k = k at hq' hk8 hks w0 w1 hk ⊢
  generalize e.pa = pa at hq'
  generalize e.wt = wt at hq'
  have HT := Hid.intro' ht
  have HWC : Hid (∀ w', Below W.heap.size W w' → w'.cell? ⟨gc, oc + (k + 1) * 2, none⟩ = some (.int .i64 y.1) ∧ w'.cell? ⟨gc, oc + (k + 1) * 2 + 1, none⟩ = some (.int .i64 y.2)) := fun w' hw => ⟨(Below.cell hw (p := ⟨gc, oc + (k + 1) * 2, none⟩) (World.block_lt_of_cell? W _ w0)).trans w0, (Below.cell hw (p := ⟨gc, oc + (k + 1) * 2 + 1, none⟩) (World.block_lt_of_cell? W _ w1)).trans w1⟩
  have hx1 := (Below.refl W.heap.size W).alloc (Nat.le_refl _) (.cells zn.toArray 97)
  have HQ1 := Hid.intro' (hq'.below' hx1)
  have HZ1 := Hid.intro' (NK.new W zn_length)
  have HB1 := Hid.intro' hx1
  have HS1 : Hid ((W.alloc (.cells zn.toArray 97)).heap.size = W.heap.size + 1) := by show _ = _; simp
  have HZ2 := Hid.intro' (NK.new (W.alloc (.cells zn.toArray 97)) zn_length)
  have HG1 := Hid.intro' (gnc_one pa (k : Int) wt a0 co lf st)
  clear hq hq' ht HEQ w0 w1 hx1 HK8 hk hy
  go_enter Try.func85, Try.ntmps85
  go_wp2_with (first | (refine wpList_loadN rfl _ rfl q 0 _ HQ1.out.1 rfl HQ1.out.range ?_) | (refine wpList_storeN rfl _ _ rfl _ rfl rfl HZ2.out HQ1.out.1 HG1.out ?_) | (refine wpList_allocN rfl rfl ?_))
  intro W2 hk2 hz2 hn2
  have hb2 : Below W.heap.size W W2 := hk2.below ((HB1.out).alloc (by rw [HS1.out]; omega) _) (by simp; omega) (fun i hi e => by omega)
  have HZ := Hid.intro' ((HZ1.out.below' ((Below.refl _ _).alloc (Nat.le_refl _) (.cells zn.toArray 97))).kp hk2 (by simp))
  have HB2 := Hid.intro' hb2
  have HN2 := Hid.intro' hn2
  have c0 : W2.cell? ⟨W.heap.size + 1, 0, none⟩ = some (.pointer pa) := hn2.cell 0
  have f0 := hn2.fr 0
  have c1 : W2.cell? ⟨W.heap.size + 1, 1, none⟩ = some (.int .i64 (k : Int)) := hn2.cell 1
  have f1 := hn2.fr 1
  have c2 : W2.cell? ⟨W.heap.size + 1, 2, none⟩ = some (.int .i64 wt) := hn2.cell 2
  have f2 := hn2.fr 2
  have HS2 : Hid (W.heap.size + 2 ≤ W2.heap.size) := by show _ ≤ _; omega
  have hw1 : IntKind.i64.wrap ((k : Int) + 1) = ((k + 1 : Nat) : Int) := by rw [IntWalk.i64_in _ (by omega)]; omega
  clear hk2 hz2 hn2 hb2 HQ1 HZ1 HZ2 HB1 HS1 HG1
  go_wp2_with fail
  clear c0 f0 c2 f2 c1 f1
  have hk3 : Kp (fun i => i = W.heap.size + 1) W2 (((W2.setCell ⟨W.heap.size + 1, 0, none⟩ (.pointer (some ⟨q, 0, none⟩))).setCell ⟨W.heap.size + 1, 2, none⟩ (.int .i64 (-1))).setCell ⟨W.heap.size + 1, 1, none⟩ (.int .i64 ((k : Int) + 1))) := (((Kp.refl (fun i => i = W.heap.size + 1) W2).set _ _ _ (fun _ => rfl)).set _ _ _ (fun _ => rfl)).set _ _ _ (fun _ => rfl)
  have HB3 := Hid.intro' (hk3.below HB2.out (by have := HS2.out; omega) (fun i hi e => by omega))
  have HZ3 := Hid.intro' (HZ.out.kp hk3 (by simp))
  have HN3 : Hid (NK (((W2.setCell ⟨W.heap.size + 1, 0, none⟩ (.pointer (some ⟨q, 0, none⟩))).setCell ⟨W.heap.size + 1, 2, none⟩ (.int .i64 (-1))).setCell ⟨W.heap.size + 1, 1, none⟩ (.int .i64 ((k : Int) + 1))) (W.heap.size + 1) (gnc (some ⟨q, 0, none⟩) ((k : Int) + 1) (-1) a0 co lf st)) := ((HN2.out.put 0 (.pointer (some ⟨q, 0, none⟩))).put 2 (.int .i64 (-1))).put 1 (.int .i64 ((k : Int) + 1))
  clear hk3 HZ HN2 HB2 hw1
  generalize ((W2.setCell ⟨W.heap.size + 1, 0, none⟩ (.pointer (some ⟨q, 0, none⟩))).setCell ⟨W.heap.size + 1, 2, none⟩ (.int .i64 (-1))).setCell ⟨W.heap.size + 1, 1, none⟩ (.int .i64 ((k : Int) + 1)) = W3 at HN3 HB3 HZ3 ⊢
  have HT3 := Hid.intro' (HT.out.below' HB3.out)
  have HWS : Hid (∀ w', Below W3.drew.heap.size W3.drew w' → w'.cell? ⟨tb, 13, none⟩ = some (.slice (some ⟨gc, oc, none⟩) s.cs.length kc)) := fun w' hw => (HT3.out.drew.below' hw).c13
  have HKC : Hid (∀ w', Below W3.drew.heap.size W3.drew w' → w'.cell? ⟨W.heap.size + 1, 1, none⟩ = some (.int .i64 ((k + 1 : Nat) : Int))) := fun w' hw => by
    rw [(HN3.out.below' ((Below.refl W3.heap.size W3).drew.trans hw)).cell]; rfl
  have HXG : Hid (∀ w', Below W3.drew.heap.size W3.drew w' → w'.cell? ⟨gc, oc + (k + 1) * 2, none⟩ = some (.int .i64 y.1) ∧ w'.cell? ⟨gc, oc + (k + 1) * 2 + 1, none⟩ = some (.int .i64 y.2)) := fun w' hw => HWC.out w' (below_class HB3.out ((Below.refl W3.heap.size W3).drew.trans hw))
  refine wp_region_tail 11 (by kernel_rfl) (by kernel_rfl) ?_
  simp only [List.take_succ_cons, List.take_zero, List.drop_succ_cons, List.drop_zero]
  unfold wpCalm
  generalize hK : wpCalm Try.prog _ _ _ _ = K
  unfold Oper.calm
  go_simp
  refine ⟨_, fun _ _ => rfl, ?_⟩
  subst hK
  unfold wpCalm
  generalize hK : wpCalm Try.prog _ _ _ _ = K
  unfold Oper.calm
  go_simp
  refine ⟨_, fun _ _ => rfl, ?_⟩
  subst hK
  unfold wpCalm
  generalize hK : wpCalm Try.prog _ _ _ _ = K
  unfold Oper.calm
  go_simp
  refine ⟨_, fun _ _ => rfl, ?_⟩
  subst hK
  unfold wpCalm
  generalize hK : wpCalm Try.prog _ _ _ _ = K
  unfold Oper.calm
  go_simp
  refine ⟨_, fun _ _ => rfl, ?_⟩
  subst hK
  unfold wpCalm
  generalize hK : wpCalm Try.prog _ _ _ _ = K
  rw [if_pos (by go_simp)]
  refine calm_loadRs _ _ _ rfl rfl HWS.out ?_
  go_simp
  subst hK
  unfold wpCalm
  generalize hK : wpCalm Try.prog _ _ _ _ = K
  unfold Oper.calm
  go_simp
  refine ⟨_, fun _ _ => rfl, ?_⟩
  subst hK
  unfold wpCalm
  generalize hK : wpCalm Try.prog _ _ _ _ = K
  rw [if_pos (by go_simp)]
  refine calm_load3 _ _ _ rfl rfl HKC.out ?_
  go_simp
  subst hK
  unfold wpCalm
  generalize hK : wpCalm Try.prog _ _ _ _ = K
  rw [if_pos (by go_simp)]
  refine calm_ixRs _ _ rfl rfl rfl hks ?_
  go_simp
  subst hK
  unfold wpCalm
  generalize hK : wpCalm Try.prog _ _ _ _ = K
  rw [if_pos (by go_simp)]
  refine calm_loadR2 _ _ _ y rfl rfl HXG.out ?_
  go_simp
  subst hK
  unfold wpCalm
  generalize hK : wpCalm Try.prog _ _ _ _ = K
  unfold Oper.calm
  go_simp
  refine ⟨_, fun w' hw => HBG.out w', ?_⟩
  subst hK
  unfold wpCalm
  generalize hK : wpCalm Try.prog _ _ _ _ = K
  unfold Oper.calm
  go_simp
  refine ⟨_, fun _ _ => rfl, ?_⟩
  subst hK
  refine wpCalm_nil ?_
  intro W4 hb4
  have hbd := (Below.refl W3.heap.size W3).drew.trans hb4
  have HN4 := Hid.intro' (HN3.out.below' hbd)
  have HB4 := Hid.intro' (below_class HB3.out hbd)
  have HZ4 := Hid.intro' (HZ3.out.below' hbd)
  clear hbd hb4 HWS HKC HXG HN3 HB3 HZ3 HT3 HBG HWC
  go_wp2_with (refine wpList_storeA rfl _ _ rfl (W.heap.size + 1) ⟨y.1, -1, y.2⟩ HN4.out rfl rfl ?_)
  intro W5 hk5 hn5
  have HB5 := Hid.intro' (hk5.below HB4.out (by have := HN4.out.lt; omega) (fun i hi e => by omega))
  have HZ5 := Hid.intro' (HZ4.out.kp hk5 (by simp))
  have HN5 := Hid.intro' hn5
  have HG1 := Hid.intro' (gnc_one (some ⟨q, 0, none⟩) ((k : Int) + 1) (-1) ⟨y.1, -1, y.2⟩ co lf st)
  clear hk5 hn5 HB4 HZ4 HN4
  go_wp2_with (first | (refine wpList_loadN rfl _ rfl (W.heap.size + 1) 0 _ HN5.out.1 rfl HN5.out.range ?_) | (refine wpList_storeN rfl _ _ rfl W.heap.size rfl rfl HZ5.out HN5.out.1 HG1.out ?_))
  intro W6 hk6 _ hn6
  go_wp2
  refine bodyPost_ret (retN Try.results85 rfl hn6) rfl ⟨rfl, ?_⟩
  exact hk6.below HB5.out (by have := HZ5.out.lt; omega) (fun i hi e => by omega)
/-- the first node as it is made -/
theorem built_first (a : RM.Sp) (n : Int) : Try.prog.built 97 [(2, .int .i64 (-1)), (3, .agg #[.int .i64 a.fl, .int .i64 a.he, .int .i64 a.le]), (5, .int .i64 n)] = some (gnc none 0 (-1) a 0 n (List.replicate 128 false)).toArray := by kernel_rfl
theorem calm_build {W0 : World} {K : Act → Prop} {o : Oper} {a : Act} (t : TypeId) (parts : Array (Nat × Operand)) (ho : o.op = .build t parts) (ps : List (Nat × Value)) (hp : (parts.map fun (i, x) => (i, a.eval x)).toList = ps) (cells : Array Value) (hb : Try.prog.built t ps = some cells)
    (h : K (a.put o.dst (.agg cells))) : Oper.calm Try.prog W0 o a K :=
  calm_val _ (fun w hw => by
    subst hp
    unfold execOp
    simp only [ho, Sem.run_bind, Sem.run_pure, run_build w t _ cells hb, Result.andThen_ok]) h
/-- the first node -/
def En.z (s : Sn) : En := ⟨none, -1, nd0 s⟩
set_option maxRecDepth 100000 in
set_option maxHeartbeats 4000000 in
theorem tfirst_any (ht : TR D W tb s vc vw vb) :
    Calls Try.prog 40 #[.pointer (some ⟨tb, 0, none⟩)] W fun r w' => r = .returned (.agg ((En.z s).c s).toArray) ∧ Below W.heap.size W w' := by
  obtain ⟨n8, hrs⟩ := rgt_rs ht.rg
  have hc0 : 0 < s.cs.length := by
    have h1 := hrs.cl
    have h2 := hrs.n1
    omega
  obtain ⟨y, hy⟩ : ∃ y, s.cs[0]? = some y := ⟨_, List.getElem?_eq_getElem hc0⟩
  have HBG : Hid (∀ w', Calls Try.prog 36 #[.agg #[.int .i64 y.1, .int .i64 y.2]] w' fun r w'' => r = .returned (.agg #[.int .i64 y.1, .int .i64 (-1), .int .i64 y.2]) ∧ Below w'.heap.size w' w'') := fun w' => begin_any y.1 y.2 w'
  have HEQ : Hid ((En.z s).c s = gnc none 0 (-1) ⟨y.1, -1, y.2⟩ 0 (s.ws.length : Int) (List.replicate 128 false)) := by
    show ncl s _ _ _ = _
    rw [ncl_gnc]
    show gnc _ _ _ (sat s (nd0 s)) (RM.cst s.st s.ws s.cs (List.replicate s.cs.length [])) ((PM.lf (List.replicate s.ws.length false) : Nat) : Int) (pad (List.replicate s.ws.length false)) = _
    rw [sat_nd0 hy, cst_nil0, pad_rep _ hrs.wl]
    unfold PM.lf
    rw [List.count_replicate]
    simp; rfl
  rw [HEQ.out]
  obtain ⟨ac, kc, rfl, _, _⟩ := ht.cs.form
  obtain ⟨aw, kw, rfl, _, _⟩ := ht.ws.form
  obtain ⟨gc, oc, rfl, w0, w1⟩ := ht.cs.at hy
  have HT := Hid.intro' ht
  have HWC : Hid (∀ w', Below W.heap.size W w' → w'.cell? ⟨gc, oc + 0 * 2, none⟩ = some (.int .i64 y.1) ∧ w'.cell? ⟨gc, oc + 0 * 2 + 1, none⟩ = some (.int .i64 y.2)) := fun w' hw => ⟨(Below.cell hw (p := ⟨gc, oc + 0 * 2, none⟩) (World.block_lt_of_cell? W _ w0)).trans w0, (Below.cell hw (p := ⟨gc, oc + 0 * 2 + 1, none⟩) (World.block_lt_of_cell? W _ w1)).trans w1⟩
  have hwl : s.ws.length ≤ 128 := hrs.wl
  have hx1 := (Below.refl W.heap.size W).alloc (Nat.le_refl _) (.cells zn.toArray 97)
  have HZ1 := Hid.intro' (NK.new W zn_length)
  have HB1 := Hid.intro' hx1
  clear ht HEQ w0 w1 hx1 hy hrs
  go_enter Try.func40, Try.ntmps40
  go_wp2_with (refine wpList_allocN rfl rfl ?_)
  generalize W.alloc (.cells zn.toArray 97) = W3 at HZ1 HB1 ⊢
  have HT3 := Hid.intro' (HT.out.below' HB1.out)
  have HWS : Hid (∀ w', Below W3.drew.heap.size W3.drew w' → w'.cell? ⟨tb, 13, none⟩ = some (.slice (some ⟨gc, oc, none⟩) s.cs.length kc)) := fun w' hw => (HT3.out.drew.below' hw).c13
  have HWV : Hid (∀ w', Below W3.drew.heap.size W3.drew w' → w'.cell? ⟨tb, 14, none⟩ = some (.slice aw s.ws.length kw)) := fun w' hw => (HT3.out.drew.below' hw).c14
  have HXG : Hid (∀ w', Below W3.drew.heap.size W3.drew w' → w'.cell? ⟨gc, oc + 0 * 2, none⟩ = some (.int .i64 y.1) ∧ w'.cell? ⟨gc, oc + 0 * 2 + 1, none⟩ = some (.int .i64 y.2)) := fun w' hw => HWC.out w' (below_class HB1.out ((Below.refl W3.heap.size W3).drew.trans hw))
  refine wp_region_tail 15 (by kernel_rfl) (by kernel_rfl) ?_
  simp only [List.take_succ_cons, List.take_zero, List.drop_succ_cons, List.drop_zero]
  unfold wpCalm
  generalize hK : wpCalm Try.prog _ _ _ _ = K
  unfold Oper.calm
  go_simp
  refine ⟨_, fun _ _ => rfl, ?_⟩
  subst hK
  unfold wpCalm
  generalize hK : wpCalm Try.prog _ _ _ _ = K
  unfold Oper.calm
  go_simp
  refine ⟨_, fun _ _ => rfl, ?_⟩
  subst hK
  unfold wpCalm
  generalize hK : wpCalm Try.prog _ _ _ _ = K
  unfold Oper.calm
  go_simp
  refine ⟨_, fun _ _ => rfl, ?_⟩
  subst hK
  unfold wpCalm
  generalize hK : wpCalm Try.prog _ _ _ _ = K
  unfold Oper.calm
  go_simp
  refine ⟨_, fun _ _ => rfl, ?_⟩
  subst hK
  unfold wpCalm
  generalize hK : wpCalm Try.prog _ _ _ _ = K
  rw [if_pos (by go_simp)]
  refine calm_loadRs _ _ _ rfl rfl HWS.out ?_
  go_simp
  subst hK
  unfold wpCalm
  generalize hK : wpCalm Try.prog _ _ _ _ = K
  rw [if_pos (by go_simp)]
  refine calm_ixRs _ _ (j := 0) rfl rfl rfl hc0 ?_
  go_simp
  subst hK
  unfold wpCalm
  generalize hK : wpCalm Try.prog _ _ _ _ = K
  rw [if_pos (by go_simp)]
  refine calm_loadR2 _ _ _ y rfl rfl HXG.out ?_
  go_simp
  subst hK
  unfold wpCalm
  generalize hK : wpCalm Try.prog _ _ _ _ = K
  unfold Oper.calm
  go_simp
  refine ⟨_, fun w' hw => HBG.out w', ?_⟩
  subst hK
  unfold wpCalm
  generalize hK : wpCalm Try.prog _ _ _ _ = K
  unfold Oper.calm
  go_simp
  refine ⟨_, fun _ _ => rfl, ?_⟩
  subst hK
  unfold wpCalm
  generalize hK : wpCalm Try.prog _ _ _ _ = K
  unfold Oper.calm
  go_simp
  refine ⟨_, fun _ _ => rfl, ?_⟩
  subst hK
  unfold wpCalm
  generalize hK : wpCalm Try.prog _ _ _ _ = K
  unfold Oper.calm
  go_simp
  refine ⟨_, fun _ _ => rfl, ?_⟩
  subst hK
  unfold wpCalm
  generalize hK : wpCalm Try.prog _ _ _ _ = K
  unfold Oper.calm
  go_simp
  refine ⟨_, fun _ _ => rfl, ?_⟩
  subst hK
  unfold wpCalm
  generalize hK : wpCalm Try.prog _ _ _ _ = K
  rw [if_pos (by go_simp)]
  refine calm_loadWs _ _ _ rfl rfl HWV.out ?_
  go_simp
  subst hK
  unfold wpCalm
  generalize hK : wpCalm Try.prog _ _ _ _ = K
  unfold Oper.calm
  go_simp
  refine ⟨_, fun _ _ => rfl, ?_⟩
  subst hK
  unfold wpCalm
  generalize hK : wpCalm Try.prog _ _ _ _ = K
  rw [if_pos (by go_simp)]
  refine calm_build _ _ rfl [(2, .int .i64 (-1)), (3, .agg #[.int .i64 y.1, .int .i64 (-1), .int .i64 y.2]), (5, .int .i64 (s.ws.length : Int))] (by simp only [List.map_toArray, List.map_cons, List.map_nil]; rfl) _ (built_first ⟨y.1, -1, y.2⟩ (s.ws.length : Int)) ?_
  go_simp
  subst hK
  refine wpCalm_nil ?_
  intro W4 hb4
  have hbd := (Below.refl W3.heap.size W3).drew.trans hb4
  have HB4 := Hid.intro' (below_class HB1.out hbd)
  have HZ4 := Hid.intro' (HZ1.out.below' hbd)
  have HG1 := Hid.intro' (gnc_one none 0 (-1) ⟨y.1, -1, y.2⟩ 0 (s.ws.length : Int) (List.replicate 128 false))
  clear hbd hb4 HWS HXG HWV HB1 HZ1 HT3 HBG HWC
  go_wp2_with (refine wpList_storeN rfl _ _ rfl W.heap.size rfl rfl HZ4.out (by unfold gnc; simp) HG1.out ?_)
  intro W6 hk6 _ hn6
  go_wp2
  refine bodyPost_ret (retN Try.results40 rfl hn6) rfl ⟨rfl, ?_⟩
  exact hk6.below HB4.out (by have := HZ4.out.lt; omega) (fun i hi e => by omega)
end
end Go.Proofs.Ytagmidolcdefiah

/- A region that draws its order, reads and calls, and then calls the function of a loop: NewT's law inside a fence. No program is named here. -/
namespace Go.Proofs.Ytagmidolcdefiah
open Go.RowKit
section
variable {P : Program} {ops : Array Oper} {W0 : World} {md : Region.Mode}
theorem wpIn_of_calm {nn : Nat} {o : Oper} {a : Act} {w : World} {v : Value} {K : Act → World → Prop} {Q : Exit → Act → World → Prop} (h : o.quietAt P a (fun w2 => Below w.heap.size w w2) w v)
    (hk : ∀ w2, Below w.heap.size w w2 → K (a.put o.dst v) w2) : o.wpIn Fence.wide nn P a w K Q := by
  unfold Oper.quietAt at h
  refine ⟨fun _ _ => trivial, ?_⟩
  rw [show Fence.wide.round = none from rfl, Oper.semAt_none]
  generalize (execOp a.eval o).run P w = r at *
  cases r with
  | ok x w' =>
    cases x <;> simp only [Oper.quietUpon] at h <;> simp only [Oper.uponIn]
    case value u => obtain ⟨rfl, rfl⟩ := h; exact hk _ (Below.refl _ _)
    case skip => obtain ⟨rfl, rfl⟩ := h; exact hk _ (Below.refl _ _)
    case enter f args =>
      obtain ⟨rfl, hc⟩ := h
      exact ⟨fun e => (by cases e), (callsIn_wide.2 hc).mono fun e w2 hh => by obtain ⟨rfl, hb⟩ := hh; exact hk w2 hb⟩
  | halt x w' => simp only [Oper.quietUpon] at h
theorem wpAnyIn_of_seq {nn : Nat} {Q' : Exit → Act → World → Prop} : ∀ (l : List Oper) (k : Nat) (listed : Array Bool) (a : Act) (w : World), (∀ j, l[j]? = ops[k + j]?) →
    Region.seqB md ops l.length k listed = true → wpListIn Fence.wide nn P ops Q' l a w → wpAnyIn Fence.wide nn P md ops Q' l.length listed a w
  | [], _, _, _, _, _, hB, h => ⟨by simpa [Region.seqB] using hB, h⟩
  | o :: l, k, listed, a, w, hl, hB, h => by
    have h0 : ops[k]? = some o := by simpa using (hl 0).symm
    simp only [List.length_cons, Region.seqB, Bool.and_eq_true, decide_eq_true_eq] at hB
    refine ⟨fun h1 => (by rw [hB.1] at h1; cases h1), fun i hi => ?_⟩
    rw [hB.1] at hi
    have hik : i = k := by simpa using hi
    subst hik
    have hw : wpOpIn Fence.wide nn P ops Q' i (wpListIn Fence.wide nn P ops Q' l) a w := by unfold wpOpIn; simp only [h0]; exact h
    exact wpOpIn_mono (fun a' w' h' => wpAnyIn_of_seq l (i + 1) _ a' w' (fun j => by have := hl (j + 1); simpa [Nat.add_assoc, Nat.add_comm 1 j] using this) hB.2 h') hw
theorem any_tailIn {Q : Act → Prop} {Q' : Exit → Act → World → Prop} {m g nn : Nat} (hB : headB md ops m = true) (hmo : m < ops.size)
    (hsink : Region.sinkB md ops m = true) (hchain : Region.chainB md ops m = true)
    (hend : ∀ a w, Below W0.heap.size W0 w → Q a → wpAnyIn Fence.wide nn P md ops Q' g (upto ops m) a w) :
    ∀ (c : Nat) (ls : Array Bool) (done : Nat → Bool) (a : Act) (w : World) (f : Nat), left ls m = c → (∀ i, i < m → ls.getD i false = done i) → HeadInv md ops m ls → ls.size = ops.size → (∀ t, m ≤ t → ls.getD t false = false) → Below W0.heap.size W0 w →
      AnyF P md ops W0 m Q f done a → wpAnyIn Fence.wide nn P md ops Q' (c + g) ls a w := by
  intro c
  induction c with
  | zero =>
    intro ls done a w f hc hd _ hsz htl hb hF
    have hall := left_none hc
    obtain rfl := upto_of hsz hall htl
    cases f with
    | zero => rw [Nat.zero_add]; exact hend a w hb hF.2
    | succ f =>
      obtain ⟨i, hi, hf, _⟩ := hF.1
      rw [← hd i hi, hall i hi] at hf
      cases hf
  | succ c ih =>
    intro ls done a w f hc hd inv hsz htl hb hF
    obtain ⟨i0, hi0, hu0⟩ := left_some (ls := ls) (m := m) (by omega)
    have hsz0 : i0 < ls.size := by rw [hsz]; omega
    have notail : ∀ i ∈ Region.ready md ops ls, i < m := fun i hi => by
      rcases Nat.lt_or_ge i m with h | h
      · exact h
      · exact absurd hi (tail_waits hsink hchain hmo inv _ i0 rfl hi0 (getD_in hsz0 hu0) i h)
    rw [show c + 1 + g = (c + g) + 1 by omega]
    refine ⟨fun hnil => ?_, fun i hi => ?_⟩
    · exfalso
      cases f with
      | zero =>
        have := hF.1 i0 hi0
        rw [← hd i0 hi0, hu0] at this
        cases this
      | succ f =>
        obtain ⟨i, hi, hf, o, ho, hall⟩ := hF.1
        have : i ∈ Region.ready md ops ls := mem_ready.2 ⟨getD_in (by rw [hsz]; exact (Array.getElem?_eq_some_iff.1 ho).1) (by rw [hd i hi]; exact hf), o, ho, fun e he hb => by
          rw [hd e.on (by have := headB_on hB hi ho e he hb; omega)]; exact hall e he hb⟩
        rw [hnil] at this
        cases this
    · have him := notail i hi
      obtain ⟨hun, o, ho, hall⟩ := mem_ready.1 hi
      have hu := getD_both hun
      have hszi : i < ls.size := by rw [hsz]; omega
      have hc' : left (ls.setIfInBounds i true) m = c := by have := left_set hszi hu him; omega
      have hr : rdy md ops m done i := ⟨him, by rw [← hd i him]; exact hu, o, ho, fun e he hb => by
        rw [← hd e.on (by have := headB_on hB him ho e he hb; omega)]; exact hall e he hb⟩
      cases f with
      | zero =>
        have := hF.1 i him
        rw [hr.2.1] at this
        cases this
      | succ f =>
        obtain ⟨v, hy, hn⟩ := hF.2 i o ho hr
        have hd' : ∀ k, k < m → (ls.setIfInBounds i true).getD k false = more done i k := fun k hk => by
          by_cases hki : k = i
          · subst hki; rw [getD_set_self hszi]; unfold more; rw [if_pos rfl]
          · rw [getD_set_ne false (Ne.symm hki), more_ne hki]; exact hd k hk
        have go : ∀ w2, Below w.heap.size w w2 → wpAnyIn Fence.wide nn P md ops Q' (c + g) (ls.setIfInBounds i true) (a.put o.dst v) w2 := fun w2 hb2 =>
          ih _ _ _ w2 f hc' hd' (inv.set hi him) (by simp [hsz]) (fun t ht => by rw [getD_set_ne false (by omega)]; exact htl t ht) (below_class hb hb2) hn
        unfold wpOpIn
        rw [ho]
        simp only
        rcases hy with ⟨hw, hq⟩ | ⟨hw, rfl⟩
        · rw [if_pos hw]
          exact wpIn_of_calm (v := v) (hq w hb) go
        · rw [if_neg (by rw [hw]; simp)]
          exact ⟨fun _ _ => trivial, go w (Below.refl _ _)⟩
end
/-- its head (the first n operations) reads and calls (callees may make memory); what is behind it waits for all of it -/
theorem wpIn_region_tail {nn : Nat} {P : Program} {id : Nat} {Q : Exit → Act → World → Prop} {a : Act} {w : World} {l : List Oper} (m : Nat) (hm : P.follows .mixedOrders = true) (hB : shapeB .any l.toArray m m = true)
    (h : wpCalm P l.toArray w.drew (fun a' => ∀ w', Below w.drew.heap.size w.drew w' → wpListIn Fence.wide nn P l.toArray Q (l.drop m) a' w') (l.take m) a) :
    (Code.region id l.toArray true).wpIn Fence.wide nn P Q a w := by
  simp only [shapeB, Bool.and_eq_true, decide_eq_true_eq] at hB
  obtain ⟨⟨⟨⟨⟨⟨⟨hsel, hhead⟩, _⟩, _⟩, hmo⟩, hsink⟩, hchain⟩, hseq⟩ := hB
  have hmo' : m < l.length := by simpa using hmo
  have htl : (l.take m).length = m := by simp; omega
  have hdl : (l.drop m).length = l.toArray.size - m := by simp
  have inv0 : HeadInv .any l.toArray m (Array.replicate l.toArray.size false) :=
    ⟨by simp, fun j oj _ hl => (by rw [getD_replicate_false] at hl; cases hl), fun t _ ht => getD_in (by simpa using ht) (getD_replicate_false _ _)⟩
  have H := anyF_lex (md := .any) (n := m) hsel hhead (l.take m) 0 a (fun j hj => by
    have hj' : j < m := by rw [htl] at hj; exact hj
    simp [hj']) (by simpa using htl) h
  rw [htl] at H
  have hl0 : left (Array.replicate l.toArray.size false) m = m := by
    have : ∀ k, left (Array.replicate l.toArray.size false) k = k := fun k => by
      induction k with
      | zero => rfl
      | succ k ih => unfold left; rw [ih, getD_replicate_false]; simp
    exact this m
  refine wpIn_region_any hm ?_
  have := any_tailIn (md := .any) (W0 := w.drew) (Q' := Q) (g := l.toArray.size - m) (nn := nn) hhead hmo hsink hchain (fun a' w' hs hQ => by
    have := wpAnyIn_of_seq (md := .any) (nn := nn) (Q' := Q) (l.drop m) m (upto l.toArray m) a' w' (fun j => by simp [List.getElem?_drop]) (by rw [hdl]; exact hseq) (hQ w' hs)
    rwa [hdl] at this) m (Array.replicate l.toArray.size false) (fun j => decide (j < 0)) a w.drew m hl0 (fun i _ => by rw [getD_replicate_false]; simp) inv0 (by simp) (fun t _ => getD_replicate_false _ _) (Below.refl _ _) H
  rw [show m + (l.toArray.size - m) = l.toArray.size by omega] at this
  exact this
end Go.Proofs.Ytagmidolcdefiah

/-
  A range over a function that keeps memory of its own between the rounds, where the round's variables lie in memory (RgF's law, with what is assigned to them).
  No program is named here.
-/
namespace Go.Proofs.Ytagmidolcdefiah
open Go.RowKit
/-- what a loop keeps: all that lay there but P; nothing of it is the iterator's -/
def KB (Wz : World) (P F : Nat → Prop) (A : World) : Prop := Kp P Wz A ∧ ∀ k, k < Wz.heap.size → ¬ F k
theorem KB.stb {Wz : World} {P F F' : Nat → Prop} {A B : World} (h : KB Wz P F A) (hk : Kp F A B) (hF : ∀ k, F' k → F k ∨ (A.heap.size ≤ k ∧ k < B.heap.size)) : KB Wz P F' B :=
  ⟨h.1.trans hk (fun i hi hf => absurd hf (h.2 i hi)), fun k hk' hf => (hF k hf).elim (h.2 k hk') (fun e => by have := h.1.size; omega)⟩
theorem wpIn_rangeFunc_B {α : Type} {n : Nat} {P : Program} {g : Operand} {ps : Array Tmp} {assign body : Code} {Q : Exit → Act → World → Prop} {a : Act} {w : World}
    {gf : Nat} {lb : Array Value} (hg : a.eval g = .func (.func gf) #[] lb) (eg : ∀ args w, (callFunc gf args).run P w = .ok (.enter gf args) w)
    {Enc : α → (Nat → Prop) → World → Array Value → Prop} {F0 G : Nat → Prop} {S Sp : List α → Prop} {w0 : World} (hseq : SeqF P gf lb Enc F0 G S Sp w0) (hb0 : Below w0.heap.size w0 w)
    (hps : ∀ x F W args, Enc x F W args → args.size = ps.size) (hG : ∀ k, G k → k < w.heap.size) (hF0 : ∀ k, F0 k → k < w.heap.size)
    (I : List α → (Nat → Prop) → World → Prop) (Ix : Code → List α → (Nat → Prop) → World → Prop) (hI : Stb I) (hIx : ∀ c, Stb (Ix c)) (h0 : I [] F0 w) (B : α → Act → World → Prop)
    (hB : ∀ x a' W W', B x a' W → W.heap.size ≤ W'.heap.size → (∀ k, k < W.heap.size → (∃ o : Obj, W.heap[k]? = some o ∧ o.isCells = true) → W'.heap[k]? = W.heap[k]?) → B x a' W')
    (hassign : ∀ (l : Nat) (x : α) (F : Nat → Prop) (W : World) (args : Array Value) (K : Act → World → Prop), Enc x F W args → (∀ a' W', Below W.heap.size W W' → B x a' W' → K a' W') →
      assign.wpIn (Fence.wide.inRound l) n P (Exit.then K (fun _ _ _ => False)) { tmps := (ps.zip args).foldl (fun t (p, v) => t.setIfInBounds p v) a.tmps, defers := [] } W)
    (hbody : ∀ (l : Nat) (pre : List α) (x : α) (F : Nat → Prop) (W : World) (a' : Act), I pre F W → B x a' W → body.wpIn (Fence.wide.inRound l) n P (postF G I Ix (pre ++ [x]) F W) a' W)
    (hdone : ∀ (D : Nat) (xs : List α) (F : Nat → Prop) (W : World), w.heap.size ≤ D → F D → S xs → I xs F W → W.heap[D]? = some (.deferred (some [])) → Q .normal { a with defers := { target := .collected D, args := #[] } :: a.defers } W)
    (hstop : ∀ (D : Nat) (c : Code) (pre : List α) (F : Nat → Prop) (W : World), w.heap.size ≤ D → F D → Sp pre → Ix c pre F W → W.heap[D]? = some (.deferred (some [])) → c.wpIn Fence.wide n P Q { a with defers := { target := .collected D, args := #[] } :: a.defers } W) :
    (Code.rangeFunc g ps assign body).wpIn Fence.wide n P Q a w := by
  refine wpIn_rangeFunc ?_
  intro fn hfn
  rw [show Fence.wide.round = none from rfl]
  obtain ⟨rec, hrec⟩ : ∃ rec : LoopState → Option Code → Loop, rec = fun st pe => { state := st, pending := pe, fn, tmps := a.tmps, params := ps, assign, body, defers := w.heap.size } := ⟨_, rfl⟩
  obtain ⟨W1, hW1⟩ : ∃ W1, (w.alloc (.deferred (some []))).alloc (.loop (rec .ready none)) = W1 := ⟨_, rfl⟩
  generalize hD : w.heap.size = D at *
  have hL1 : W1.heap[D + 1]? = some (.loop (rec .ready none)) := by
    rw [← hW1, ← hD]; have := World.alloc_heap_new (w.alloc (.deferred (some []))) (.loop (rec .ready none)); rwa [World.size_alloc] at this
  have hK1 : W1.heap[D]? = some (.deferred (some [])) := by
    rw [← hW1, ← hD]; exact (Below.heap_alloc _ _ _ (by simp)).trans (World.alloc_heap_new w _)
  have hbel : Below w.heap.size w W1 := by rw [← hW1]; exact ((Below.refl _ w).alloc (Nat.le_refl _) _).alloc (by simp) _
  -- the two blocks of the loop are the iterator's, as the caller sees it
  obtain ⟨U, hU⟩ : ∃ U : (Nat → Prop) → Nat → Prop, U = fun F k => F k ∨ k = D ∨ k = D + 1 := ⟨_, rfl⟩
  have hUF : ∀ F k, F k → U F k := fun F k h => by rw [hU]; exact .inl h
  have hU1 : ∀ F, U F (D + 1) := fun F => by rw [hU]; exact .inr (.inr rfl)
  have hU0 : ∀ F, U F D := fun F => by rw [hU]; exact .inr (.inl rfl)
  refine ⟨D + 1, [{ target := .collected D, args := #[] }], W1, { target := .fn (.func gf) lb, args := #[.func (.yield (D + 1)) #[] #[]] }, W1, gf, #[.func (.yield (D + 1)) #[] #[]] ++ lb, W1, ?_, ?_, fun _ _ => trivial, ?_, fun h => (by cases h), ?_⟩
  · rw [← hW1, hrec, ← hD]; exact run_enterLoop_outer _ _ _ _ _
  · simp only [resolve, hg]
    simp [go_sem]
  · simp [invoke, go_sem, eg]
  have stab : ∀ {β : Type} (X : β → (Nat → Prop) → World → Prop) (o : β → Obj), Stb X → Stb (fun s F W => X s (U F) W ∧ W.heap[D + 1]? = some (o s) ∧ W.heap[D]? = some (.deferred (some [])) ∧ ¬ F (D + 1) ∧ ¬ F D) := by
    intro β X o hX s F F' A B h hk hF
    obtain ⟨h1, h2, h3, h4, h5⟩ := h
    have l2 := (Array.getElem?_eq_some_iff.1 h2).1
    have l3 := (Array.getElem?_eq_some_iff.1 h3).1
    refine ⟨hX s (U F) (U F') A B h1 (hk.mono fun i _ hi => hUF F i hi) (fun k hk' => ?_), (hk.block _ l2 h4).trans h2, (hk.block _ l3 h5).trans h3, fun h => ?_, fun h => ?_⟩
    · rw [hU] at hk' ⊢
      rcases hk' with e | e | e
      · rcases hF k e with e | e
        · exact .inl (.inl e)
        · exact .inr e
      · exact .inl (.inr (.inl e))
      · exact .inl (.inr (.inr e))
    · rcases hF _ h with e | e
      · exact h4 e
      · omega
    · rcases hF _ h with e | e
      · exact h5 e
      · omega
  refine (hseq (n - 1) (D + 1)
    (fun pre F W => I pre (U F) W ∧ W.heap[D + 1]? = some (.loop (rec .ready none)) ∧ W.heap[D]? = some (.deferred (some [])) ∧ ¬ F (D + 1) ∧ ¬ F D)
    (fun pre F W => ∃ c, Ix c pre (U F) W ∧ W.heap[D + 1]? = some (.loop (rec .done (some c))) ∧ W.heap[D]? = some (.deferred (some [])) ∧ ¬ F (D + 1) ∧ ¬ F D)
    W1 (hb0.trans (hbel.mono hb0.size)) (stab I (fun _ => .loop (rec .ready none)) hI) ?_ ?_ ?_).mono ?_
  · intro s F F' A B h hk hF
    obtain ⟨c, h⟩ := h
    exact ⟨c, stab (Ix c) (fun _ => .loop (rec .done (some c))) (hIx c) s F F' A B h hk hF⟩
  · -- a round
    rintro m pre x F W args ⟨hi, hl, hk, hf1, hf0⟩ henc
    have hlt : D + 1 < W.heap.size := (Array.getElem?_eq_some_iff.1 hl).1
    have hsz := hps x F W args henc
    have hy := run_yield (P := P) (args := args) hl (by rw [hrec]; exact hsz)
    rw [hrec] at hy
    refine YieldAt.deep (m := n) m ⟨fn, _, assign, body, hy, roundIn_of_wpIn hfn (hassign (D + 1) x F W args _ henc ?_)⟩
    clear hy
    intro a' Wa hba hBa
    have hza := hba.size
    have hla := (hba.block _ hlt).trans hl
    have hka := (hba.block _ (Array.getElem?_eq_some_iff.1 hk).1).trans hk
    have hlta : D + 1 < Wa.heap.size := (Array.getElem?_eq_some_iff.1 hla).1
    refine ⟨_, run_beginRound hla (by rw [hrec]), ?_⟩
    obtain ⟨W2, hW2⟩ : ∃ W2, Wa.putObj (D + 1) (.loop { rec .ready none with state := .busy }) = W2 := ⟨_, rfl⟩
    rw [hW2]
    have hz2 : W2.heap.size = Wa.heap.size := by rw [← hW2]; simp
    have ho2 : ∀ k, k ≠ D + 1 → W2.heap[k]? = Wa.heap[k]? := fun k hk => by rw [← hW2]; exact World.putObj_heap_other hk
    have hl2 : W2.heap[D + 1]? = some (.loop { rec .ready none with state := .busy }) := by rw [← hW2]; exact World.putObj_heap_same hlta
    have hia : I pre (U F) Wa := hI pre (U F) (U F) W Wa hi (Kp.ofBelow _ hba) (fun _ h => .inl h)
    have hi2 : I pre (U F) W2 := by rw [← hW2]; exact hI.put _ _ hia (hU1 F)
    have he2 : B x a' W2 := hB x a' Wa W2 hBa (by omega) (fun k _ h => ho2 k (fun e => by
        subst e
        obtain ⟨o, h1, h2⟩ := h
        rw [hla] at h1
        cases h1
        cases h2))
    refine wpIn_mono (hbody (D + 1) pre x (U F) W2 a' hi2 he2) ?_
    have fin : ∀ (jump : Option Code) (W3 : World), Kept (U F) W2 W3 →
        (Instr.endRound (D + 1) jump).run P W3 = .ok (.bool jump.isNone) (W3.putObj (D + 1) (.loop (rec (if jump.isNone then .ready else .done) jump))) ∧
        (W3.putObj (D + 1) (.loop (rec (if jump.isNone then .ready else .done) jump))).heap[D + 1]? = some (.loop (rec (if jump.isNone then .ready else .done) jump)) ∧
        (W3.putObj (D + 1) (.loop (rec (if jump.isNone then .ready else .done) jump))).heap[D]? = some (.deferred (some [])) := fun jump W3 h3 => by
      have hl3 : W3.heap[D + 1]? = some (.loop { rec .ready none with state := .busy }) := (h3.same _ (by omega) (hU1 F)).trans hl2
      have hk3 : W3.heap[D]? = some (.deferred (some [])) := (h3.same _ (by omega) (hU0 F)).trans ((ho2 D (by omega)).trans hka)
      have := run_endRound (P := P) jump hl3
      rw [hrec] at this ⊢
      exact ⟨this, World.putObj_heap_same (Array.getElem?_eq_some_iff.1 hl3).1, (World.putObj_heap_other (by omega)).trans hk3⟩
    have keptF : ∀ (W3 : World) (o : Obj), Kept (U F) W2 W3 → Kept F W (W3.putObj (D + 1) o) := fun W3 o h3 => by
      have hz := h3.size
      refine ⟨by simp; omega, fun k hk' hfk => ?_⟩
      have hne : k ≠ D + 1 := fun e => by subst e; exact hf1 hfk
      rw [World.putObj_heap_other hne, h3.same k (by omega) (hUF F k hfk), ho2 k hne, hba.block k hk']
    rintro e a3 W3 hp
    cases e with
    | normal =>
      obtain ⟨h3, hi3⟩ := hp
      obtain ⟨hr, hl4, hk4⟩ := fin none W3 (h3.mono fun _ _ h => .inl h)
      refine ⟨_, _, hr, .inl ⟨rfl, ⟨hI.put _ _ hi3 (hU1 F), hl4, hk4, hf1, hf0⟩, ?_⟩⟩
      have hz := h3.size
      refine ⟨by simp; omega, fun k hk' hfk => ?_⟩
      have hne : k ≠ D + 1 := fun e => by
        subst e
        rcases hfk with h | h
        · exact hf1 h
        · have := hG _ h; omega
      rw [World.putObj_heap_other hne, h3.same k (by omega) (hfk.elim (fun h => .inl (hUF F k h)) .inr), ho2 k hne, hba.block k hk']
    | ret =>
      obtain ⟨h3, hi3⟩ := hp
      obtain ⟨hr, hl4, hk4⟩ := fin (some .ret) W3 h3
      exact ⟨_, _, hr, .inr ⟨rfl, ⟨.ret, (hIx _).put _ _ hi3 (hU1 F), hl4, hk4, hf1, hf0⟩, keptF W3 _ h3⟩⟩
    | exit id =>
      obtain ⟨h3, hi3⟩ := hp
      obtain ⟨hr, hl4, hk4⟩ := fin (some (.exit id)) W3 h3
      exact ⟨_, _, hr, .inr ⟨rfl, ⟨.exit id, (hIx _).put _ _ hi3 (hU1 F), hl4, hk4, hf1, hf0⟩, keptF W3 _ h3⟩⟩
    | goto t =>
      obtain ⟨h3, hi3⟩ := hp
      obtain ⟨hr, hl4, hk4⟩ := fin (some (.goto t)) W3 h3
      exact ⟨_, _, hr, .inr ⟨rfl, ⟨.goto t, (hIx _).put _ _ hi3 (hU1 F), hl4, hk4, hf1, hf0⟩, keptF W3 _ h3⟩⟩
    | panic ch => exact hp.elim
    | outgrown => exact hp.elim
  · have z1 := (Array.getElem?_eq_some_iff.1 hL1).1
    refine ⟨hI [] F0 _ w W1 h0 (Kp.ofBelow _ hbel) (fun k h => ?_), hL1, hK1, fun h => by have := hF0 _ h; omega, fun h => by have := hF0 _ h; omega⟩
    rw [hU] at h
    rcases h with h | h | h
    · exact .inl h
    · right; omega
    · right; omega
  · -- behind the iterator
    rintro e W2 ⟨⟨v, rfl⟩, (⟨xs, F, hS, hi, hl, hk, _, _⟩ | ⟨pre, F, hSp, c, hi, hl, hk, _, _⟩)⟩
    · exact ⟨none, _, by have := run_endLoop (P := P) hl (by rw [hrec]; simp); rw [hrec] at this; exact this, hdone D xs (U F) _ (Nat.le_refl _) (hU0 F) hS (hI.put _ _ hi (hU1 F)) ((World.putObj_heap_other (by omega)).trans hk)⟩
    · exact ⟨some c, _, by have := run_endLoop (P := P) hl (by rw [hrec]; simp); rw [hrec] at this; exact this, hstop D c pre (U F) _ (Nat.le_refl _) (hU0 F) hSp ((hIx c).put _ _ hi (hU1 F)) ((World.putObj_heap_other (by omega)).trans hk)⟩
end Go.Proofs.Ytagmidolcdefiah

/-
  RgB's law, where each round knows besides that what was handed out with it is a beginning (Sp) of what is to be handed out.
  No program is named here.
-/
namespace Go.Proofs.Ytagmidolcdefiah
open Go.RowKit
def SeqG {α : Type} (P : Program) (g : Nat) (lb : Array Value) (Enc : α → (Nat → Prop) → World → Array Value → Prop) (F0 G : Nat → Prop) (S Sp : List α → Prop) (w : World) : Prop :=
  ∀ (n l : Nat) (J Jx : List α → (Nat → Prop) → World → Prop) (W : World), Below w.heap.size w W → Stb J → Stb Jx →
    (∀ m pre x F W1 args, Sp (pre ++ [x]) → J pre F W1 → Enc x F W1 args → YieldAt Fence.wide m P l args W1 fun e W' =>
      (e = .returned (.bool true) ∧ J (pre ++ [x]) F W' ∧ Kept (fun k => F k ∨ G k) W1 W') ∨ (e = .returned (.bool false) ∧ Jx (pre ++ [x]) F W' ∧ Kept F W1 W')) →
    J [] F0 W →
    CallsIn Fence.wide n P g (#[.func (.yield l) #[] #[]] ++ lb) W fun e W' => (∃ v, e = .returned v) ∧ ((∃ xs F, S xs ∧ J xs F W') ∨ (∃ pre F, Sp pre ∧ Jx pre F W'))
theorem wpIn_rangeFunc_P {α : Type} {n : Nat} {P : Program} {g : Operand} {ps : Array Tmp} {assign body : Code} {Q : Exit → Act → World → Prop} {a : Act} {w : World}
    {gf : Nat} {lb : Array Value} (hg : a.eval g = .func (.func gf) #[] lb) (eg : ∀ args w, (callFunc gf args).run P w = .ok (.enter gf args) w)
    {Enc : α → (Nat → Prop) → World → Array Value → Prop} {F0 G : Nat → Prop} {S Sp : List α → Prop} {w0 : World} (hseq : SeqG P gf lb Enc F0 G S Sp w0) (hb0 : Below w0.heap.size w0 w)
    (hps : ∀ x F W args, Enc x F W args → args.size = ps.size) (hG : ∀ k, G k → k < w.heap.size) (hF0 : ∀ k, F0 k → k < w.heap.size)
    (I : List α → (Nat → Prop) → World → Prop) (Ix : Code → List α → (Nat → Prop) → World → Prop) (hI : Stb I) (hIx : ∀ c, Stb (Ix c)) (h0 : I [] F0 w) (B : α → Act → World → Prop)
    (hB : ∀ x a' W W', B x a' W → W.heap.size ≤ W'.heap.size → (∀ k, k < W.heap.size → (∃ o : Obj, W.heap[k]? = some o ∧ o.isCells = true) → W'.heap[k]? = W.heap[k]?) → B x a' W')
    (hassign : ∀ (l : Nat) (x : α) (F : Nat → Prop) (W : World) (args : Array Value) (K : Act → World → Prop), Enc x F W args → (∀ a' W', Below W.heap.size W W' → B x a' W' → K a' W') →
      assign.wpIn (Fence.wide.inRound l) n P (Exit.then K (fun _ _ _ => False)) { tmps := (ps.zip args).foldl (fun t (p, v) => t.setIfInBounds p v) a.tmps, defers := [] } W)
    (hbody : ∀ (l : Nat) (pre : List α) (x : α) (F : Nat → Prop) (W : World) (a' : Act), Sp (pre ++ [x]) → I pre F W → B x a' W → body.wpIn (Fence.wide.inRound l) n P (postF G I Ix (pre ++ [x]) F W) a' W)
    (hdone : ∀ (D : Nat) (xs : List α) (F : Nat → Prop) (W : World), w.heap.size ≤ D → F D → S xs → I xs F W → W.heap[D]? = some (.deferred (some [])) → Q .normal { a with defers := { target := .collected D, args := #[] } :: a.defers } W)
    (hstop : ∀ (D : Nat) (c : Code) (pre : List α) (F : Nat → Prop) (W : World), w.heap.size ≤ D → F D → Sp pre → Ix c pre F W → W.heap[D]? = some (.deferred (some [])) → c.wpIn Fence.wide n P Q { a with defers := { target := .collected D, args := #[] } :: a.defers } W) :
    (Code.rangeFunc g ps assign body).wpIn Fence.wide n P Q a w := by
  refine wpIn_rangeFunc ?_
  intro fn hfn
  rw [show Fence.wide.round = none from rfl]
  obtain ⟨rec, hrec⟩ : ∃ rec : LoopState → Option Code → Loop, rec = fun st pe => { state := st, pending := pe, fn, tmps := a.tmps, params := ps, assign, body, defers := w.heap.size } := ⟨_, rfl⟩
  obtain ⟨W1, hW1⟩ : ∃ W1, (w.alloc (.deferred (some []))).alloc (.loop (rec .ready none)) = W1 := ⟨_, rfl⟩
  generalize hD : w.heap.size = D at *
  have hL1 : W1.heap[D + 1]? = some (.loop (rec .ready none)) := by
    rw [← hW1, ← hD]; have := World.alloc_heap_new (w.alloc (.deferred (some []))) (.loop (rec .ready none)); rwa [World.size_alloc] at this
  have hK1 : W1.heap[D]? = some (.deferred (some [])) := by
    rw [← hW1, ← hD]; exact (Below.heap_alloc _ _ _ (by simp)).trans (World.alloc_heap_new w _)
  have hbel : Below w.heap.size w W1 := by rw [← hW1]; exact ((Below.refl _ w).alloc (Nat.le_refl _) _).alloc (by simp) _
  -- the two blocks of the loop are the iterator's, as the caller sees it
  obtain ⟨U, hU⟩ : ∃ U : (Nat → Prop) → Nat → Prop, U = fun F k => F k ∨ k = D ∨ k = D + 1 := ⟨_, rfl⟩
  have hUF : ∀ F k, F k → U F k := fun F k h => by rw [hU]; exact .inl h
  have hU1 : ∀ F, U F (D + 1) := fun F => by rw [hU]; exact .inr (.inr rfl)
  have hU0 : ∀ F, U F D := fun F => by rw [hU]; exact .inr (.inl rfl)
  refine ⟨D + 1, [{ target := .collected D, args := #[] }], W1, { target := .fn (.func gf) lb, args := #[.func (.yield (D + 1)) #[] #[]] }, W1, gf, #[.func (.yield (D + 1)) #[] #[]] ++ lb, W1, ?_, ?_, fun _ _ => trivial, ?_, fun h => (by cases h), ?_⟩
  · rw [← hW1, hrec, ← hD]; exact run_enterLoop_outer _ _ _ _ _
  · simp only [resolve, hg]
    simp [go_sem]
  · simp [invoke, go_sem, eg]
  have stab : ∀ {β : Type} (X : β → (Nat → Prop) → World → Prop) (o : β → Obj), Stb X → Stb (fun s F W => X s (U F) W ∧ W.heap[D + 1]? = some (o s) ∧ W.heap[D]? = some (.deferred (some [])) ∧ ¬ F (D + 1) ∧ ¬ F D) := by
    intro β X o hX s F F' A B h hk hF
    obtain ⟨h1, h2, h3, h4, h5⟩ := h
    have l2 := (Array.getElem?_eq_some_iff.1 h2).1
    have l3 := (Array.getElem?_eq_some_iff.1 h3).1
    refine ⟨hX s (U F) (U F') A B h1 (hk.mono fun i _ hi => hUF F i hi) (fun k hk' => ?_), (hk.block _ l2 h4).trans h2, (hk.block _ l3 h5).trans h3, fun h => ?_, fun h => ?_⟩
    · rw [hU] at hk' ⊢
      rcases hk' with e | e | e
      · rcases hF k e with e | e
        · exact .inl (.inl e)
        · exact .inr e
      · exact .inl (.inr (.inl e))
      · exact .inl (.inr (.inr e))
    · rcases hF _ h with e | e
      · exact h4 e
      · omega
    · rcases hF _ h with e | e
      · exact h5 e
      · omega
  refine (hseq (n - 1) (D + 1)
    (fun pre F W => I pre (U F) W ∧ W.heap[D + 1]? = some (.loop (rec .ready none)) ∧ W.heap[D]? = some (.deferred (some [])) ∧ ¬ F (D + 1) ∧ ¬ F D)
    (fun pre F W => ∃ c, Ix c pre (U F) W ∧ W.heap[D + 1]? = some (.loop (rec .done (some c))) ∧ W.heap[D]? = some (.deferred (some [])) ∧ ¬ F (D + 1) ∧ ¬ F D)
    W1 (hb0.trans (hbel.mono hb0.size)) (stab I (fun _ => .loop (rec .ready none)) hI) ?_ ?_ ?_).mono ?_
  · intro s F F' A B h hk hF
    obtain ⟨c, h⟩ := h
    exact ⟨c, stab (Ix c) (fun _ => .loop (rec .done (some c))) (hIx c) s F F' A B h hk hF⟩
  · -- a round
    rintro m pre x F W args hsp ⟨hi, hl, hk, hf1, hf0⟩ henc
    have hlt : D + 1 < W.heap.size := (Array.getElem?_eq_some_iff.1 hl).1
    have hsz := hps x F W args henc
    have hy := run_yield (P := P) (args := args) hl (by rw [hrec]; exact hsz)
    rw [hrec] at hy
    refine YieldAt.deep (m := n) m ⟨fn, _, assign, body, hy, roundIn_of_wpIn hfn (hassign (D + 1) x F W args _ henc ?_)⟩
    clear hy
    intro a' Wa hba hBa
    have hza := hba.size
    have hla := (hba.block _ hlt).trans hl
    have hka := (hba.block _ (Array.getElem?_eq_some_iff.1 hk).1).trans hk
    have hlta : D + 1 < Wa.heap.size := (Array.getElem?_eq_some_iff.1 hla).1
    refine ⟨_, run_beginRound hla (by rw [hrec]), ?_⟩
    obtain ⟨W2, hW2⟩ : ∃ W2, Wa.putObj (D + 1) (.loop { rec .ready none with state := .busy }) = W2 := ⟨_, rfl⟩
    rw [hW2]
    have hz2 : W2.heap.size = Wa.heap.size := by rw [← hW2]; simp
    have ho2 : ∀ k, k ≠ D + 1 → W2.heap[k]? = Wa.heap[k]? := fun k hk => by rw [← hW2]; exact World.putObj_heap_other hk
    have hl2 : W2.heap[D + 1]? = some (.loop { rec .ready none with state := .busy }) := by rw [← hW2]; exact World.putObj_heap_same hlta
    have hia : I pre (U F) Wa := hI pre (U F) (U F) W Wa hi (Kp.ofBelow _ hba) (fun _ h => .inl h)
    have hi2 : I pre (U F) W2 := by rw [← hW2]; exact hI.put _ _ hia (hU1 F)
    have he2 : B x a' W2 := hB x a' Wa W2 hBa (by omega) (fun k _ h => ho2 k (fun e => by
        subst e
        obtain ⟨o, h1, h2⟩ := h
        rw [hla] at h1
        cases h1
        cases h2))
    refine wpIn_mono (hbody (D + 1) pre x (U F) W2 a' hsp hi2 he2) ?_
    have fin : ∀ (jump : Option Code) (W3 : World), Kept (U F) W2 W3 →
        (Instr.endRound (D + 1) jump).run P W3 = .ok (.bool jump.isNone) (W3.putObj (D + 1) (.loop (rec (if jump.isNone then .ready else .done) jump))) ∧
        (W3.putObj (D + 1) (.loop (rec (if jump.isNone then .ready else .done) jump))).heap[D + 1]? = some (.loop (rec (if jump.isNone then .ready else .done) jump)) ∧
        (W3.putObj (D + 1) (.loop (rec (if jump.isNone then .ready else .done) jump))).heap[D]? = some (.deferred (some [])) := fun jump W3 h3 => by
      have hl3 : W3.heap[D + 1]? = some (.loop { rec .ready none with state := .busy }) := (h3.same _ (by omega) (hU1 F)).trans hl2
      have hk3 : W3.heap[D]? = some (.deferred (some [])) := (h3.same _ (by omega) (hU0 F)).trans ((ho2 D (by omega)).trans hka)
      have := run_endRound (P := P) jump hl3
      rw [hrec] at this ⊢
      exact ⟨this, World.putObj_heap_same (Array.getElem?_eq_some_iff.1 hl3).1, (World.putObj_heap_other (by omega)).trans hk3⟩
    have keptF : ∀ (W3 : World) (o : Obj), Kept (U F) W2 W3 → Kept F W (W3.putObj (D + 1) o) := fun W3 o h3 => by
      have hz := h3.size
      refine ⟨by simp; omega, fun k hk' hfk => ?_⟩
      have hne : k ≠ D + 1 := fun e => by subst e; exact hf1 hfk
      rw [World.putObj_heap_other hne, h3.same k (by omega) (hUF F k hfk), ho2 k hne, hba.block k hk']
    rintro e a3 W3 hp
    cases e with
    | normal =>
      obtain ⟨h3, hi3⟩ := hp
      obtain ⟨hr, hl4, hk4⟩ := fin none W3 (h3.mono fun _ _ h => .inl h)
      refine ⟨_, _, hr, .inl ⟨rfl, ⟨hI.put _ _ hi3 (hU1 F), hl4, hk4, hf1, hf0⟩, ?_⟩⟩
      have hz := h3.size
      refine ⟨by simp; omega, fun k hk' hfk => ?_⟩
      have hne : k ≠ D + 1 := fun e => by
        subst e
        rcases hfk with h | h
        · exact hf1 h
        · have := hG _ h; omega
      rw [World.putObj_heap_other hne, h3.same k (by omega) (hfk.elim (fun h => .inl (hUF F k h)) .inr), ho2 k hne, hba.block k hk']
    | ret =>
      obtain ⟨h3, hi3⟩ := hp
      obtain ⟨hr, hl4, hk4⟩ := fin (some .ret) W3 h3
      exact ⟨_, _, hr, .inr ⟨rfl, ⟨.ret, (hIx _).put _ _ hi3 (hU1 F), hl4, hk4, hf1, hf0⟩, keptF W3 _ h3⟩⟩
    | exit id =>
      obtain ⟨h3, hi3⟩ := hp
      obtain ⟨hr, hl4, hk4⟩ := fin (some (.exit id)) W3 h3
      exact ⟨_, _, hr, .inr ⟨rfl, ⟨.exit id, (hIx _).put _ _ hi3 (hU1 F), hl4, hk4, hf1, hf0⟩, keptF W3 _ h3⟩⟩
    | goto t =>
      obtain ⟨h3, hi3⟩ := hp
      obtain ⟨hr, hl4, hk4⟩ := fin (some (.goto t)) W3 h3
      exact ⟨_, _, hr, .inr ⟨rfl, ⟨.goto t, (hIx _).put _ _ hi3 (hU1 F), hl4, hk4, hf1, hf0⟩, keptF W3 _ h3⟩⟩
    | panic ch => exact hp.elim
    | outgrown => exact hp.elim
  · have z1 := (Array.getElem?_eq_some_iff.1 hL1).1
    refine ⟨hI [] F0 _ w W1 h0 (Kp.ofBelow _ hbel) (fun k h => ?_), hL1, hK1, fun h => by have := hF0 _ h; omega, fun h => by have := hF0 _ h; omega⟩
    rw [hU] at h
    rcases h with h | h | h
    · exact .inl h
    · right; omega
    · right; omega
  · -- behind the iterator
    rintro e W2 ⟨⟨v, rfl⟩, (⟨xs, F, hS, hi, hl, hk, _, _⟩ | ⟨pre, F, hSp, c, hi, hl, hk, _, _⟩)⟩
    · exact ⟨none, _, by have := run_endLoop (P := P) hl (by rw [hrec]; simp); rw [hrec] at this; exact this, hdone D xs (U F) _ (Nat.le_refl _) (hU0 F) hS (hI.put _ _ hi (hU1 F)) ((World.putObj_heap_other (by omega)).trans hk)⟩
    · exact ⟨some c, _, by have := run_endLoop (P := P) hl (by rw [hrec]; simp); rw [hrec] at this; exact this, hstop D c pre (U F) _ (Nat.le_refl _) (hU0 F) hSp ((hIx c).put _ _ hi (hU1 F)) ((World.putObj_heap_other (by omega)).trans hk)⟩
end Go.Proofs.Ytagmidolcdefiah
