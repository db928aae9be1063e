/- Several texts in one, each with its own head. -/
import Derived.Test.YtagmidolcdefiahPk9
import Derived.OrdersHeld
import Derived.Deep.Cut
import Derived.Test.YtagmidolcdefiahPk3
import Derived.Test.YtagmidolcdefiahPk6
import Derived.Test.YtagmidolcdefiahPk5
/- A check's tree: the first node. -/
namespace Go.Proofs.Ytagmidolcdefiah
open Go.RowKit Go.Shelf
theorem wp_nrm {P : Program} {Q : Exit → Act → World → Prop} {c : Code} {a : Act} {w : World} (h : c.wp P (fun ex a w => ex = Exit.normal ∧ Q ex a w) a w) : c.wp P Q a w := wp_mono h (fun _ _ _ h => h.2)
theorem built_kn (g n : Nat) (m : Int) : Try.prog.built 127 [(1, .slice (some ⟨g, 0, none⟩) n n), (3, .int .i64 m)] = some (knc 0 g n 0 m (List.replicate 128 false)).toArray := by kernel_rfl
section
variable {S : World → Prop} {ops : Array Oper} {Q : Exit → Act → World → Prop} {i : Nat} {o : Oper} {K : Act → World → Prop} {a : Act} {w : World}
theorem yif_build (hw : Region.wanted o (yielded ops a.tmps) = true) (t : TypeId) (parts : Array (Nat × Operand)) (ho : o.op = .build t parts) (ps : List (Nat × Value)) (hp : (parts.map fun (i, x) => (i, a.eval x)).toList = ps) (cells : Array Value) (hb : Try.prog.built t ps = some cells) : YieldsIf Try.prog ops S o (.agg cells) a :=
  .inl ⟨hw, fun w _ => by
    subst hp
    unfold execOp
    simp only [ho, Sem.run_bind, Sem.run_pure, run_build w t _ cells hb, Result.andThen_ok]⟩
theorem wpOp_mkV (hi : ops[i]? = some o) (hw : Region.wanted o (yielded ops a.tmps) = true) (x y : Operand) (ho : o.op = .makeSlice 125 x y) (n : Nat) (hn : n ≤ 1000) (hx : a.eval x = .int .i64 (n : Int)) (hy : a.eval y = .int .i64 (n : Int))
    (h : K (a.put o.dst (.slice (some ⟨w.heap.size, 0, none⟩) n n)) (w.alloc (.cells (wcs (List.replicate n w0)).toArray 156))) : wpOp Try.prog ops Q i K a w :=
  wpOp_val hi hw (by unfold execOp; simp only [ho, hx, hy, Sem.run_bind, Sem.run_pure, Result.andThen_ok, mkV n hn]) h
theorem wpOp_allocK (hi : ops[i]? = some o) (hw : Region.wanted o (yielded ops a.tmps) = true) (ho : o.op = .alloc 127)
    (h : K (a.put o.dst (.pointer (some ⟨w.heap.size, 0, none⟩))) (w.alloc (.cells zk.toArray 127))) : wpOp Try.prog ops Q i K a w :=
  wpOp_val hi hw (by unfold execOp; simp only [ho, Sem.run_bind, Sem.run_pure, Result.andThen_ok, run_allocK]) h
theorem wpOp_storeK (hi : ops[i]? = some o) (hw : Region.wanted o (yielded ops a.tmps) = true) (x y : Operand) (ho : o.op = .store 127 x y) (b : Nat) {old cs : List Value} (hx : a.eval x = .pointer (some ⟨b, 0, none⟩)) (hy : a.eval y = .agg cs.toArray) (hL : KN w b old) (hl : cs.length = 132) (h1 : ∀ u ∈ cs, u.oneCell' = true)
    (h : ∀ W', Kp (fun k => k = b) w W' → KN W' b cs → K (a.put o.dst undef) W') : wpOp Try.prog ops Q i K a w := by
  unfold wpOp
  rw [hi]
  simp only
  rw [if_pos hw]
  refine .inl ?_
  unfold Oper.wp execOp
  simp only [ho, hx, hy, Instr.storeAt, Instr.sureAddr, Sem.run_bind, Sem.run_pure, Result.andThen_ok, run_storeVar_row (P := Try.prog) w b 127 127 _ _ hL.2 (by rw [List.size_toArray, hl]; exact infoK) (by rw [List.size_toArray, List.size_toArray, hl, hL.1]) (all_oneCell_toArray h1)]
  exact h _ (kp_row b w _) ⟨hl, setRow_heap w b _ _ _ _ hL.2⟩
end
/-- the first cars stand where they go on -/
def wfst (cs : List (Int × Int)) (c : Nat) : List RM.Sp := (cs.take c).map RM.bg ++ List.replicate (cs.length - c) w0
theorem wfst_zero (cs : List (Int × Int)) : wfst cs 0 = List.replicate cs.length w0 := by unfold wfst; simp
theorem wfst_end (cs : List (Int × Int)) : wfst cs cs.length = cs.map RM.bg := by unfold wfst; simp
theorem wfst_length {cs : List (Int × Int)} {c : Nat} (h : c ≤ cs.length) : (wfst cs c).length = cs.length := by unfold wfst; simp; omega
theorem wfst_succ {cs : List (Int × Int)} {c : Nat} {r : Int × Int} (h : cs[c]? = some r) : (wfst cs c).set c (RM.bg r) = wfst cs (c + 1) := by
  have hc : c < cs.length := (List.getElem?_eq_some_iff.1 h).1
  unfold wfst
  rw [List.set_append_right _ _ (by simp; omega), List.take_add_one, h, Option.toList_some, List.map_append, List.append_assoc]
  have e : c - ((cs.take c).map RM.bg).length = 0 := by simp; omega
  rw [e, show cs.length - c = (cs.length - (c + 1)) + 1 by omega, List.replicate_succ, List.set_cons_zero]
  rfl
/-- what holds while the first node is made -/
structure Fz (W wr : World) (s : Sn) (q g c : Nat) : Prop where
  nd : KN wr q (knc 0 g s.cs.length 0 (s.ws.length : Int) (List.replicate 128 false))
  rw : WR wr g (wfst s.cs c)
  z : KN wr W.heap.size zk
  bel : Below W.heap.size W wr
  q1 : W.heap.size < q
  g1 : W.heap.size < g
  qg : q ≠ g
section
variable {D : Nat → Prop} {W : World} {tb : Nat} {s : Sn} {vc vw vt : Value}
theorem Fz.next {wr w' : World} {q g c : Nat} (h : Fz W wr s q g c) (hb : Below wr.heap.size wr w') : Fz W w' s q g c := ⟨h.nd.below' hb, h.rw.below' hb, h.z.below' hb, below_class h.bel hb, h.q1, h.g1, h.qg⟩
theorem Fz.kp {wr w' : World} {q g c c' : Nat} (h : Fz W wr s q g c) (k : Kp (fun i => i = g) wr w') (hr : WR w' g (wfst s.cs c')) : Fz W w' s q g c' := ⟨h.nd.kp k h.qg, hr, h.z.kp k (by have := h.g1; omega), k.below h.bel (by have := h.z.lt; omega) (fun i hi e => by have := h.g1; omega), h.q1, h.g1, h.qg⟩
set_option maxRecDepth 100000 in
set_option maxHeartbeats 4000000 in
theorem kfirst_any (ht : TC D W tb s vc vw vt) :
    Calls Try.prog 59 #[.pointer (some ⟨tb, 0, none⟩)] W fun r w' => ∃ g, r = .returned (.agg (kc s (nd0 s) g).toArray) ∧ W.heap.size ≤ g ∧ WR w' g (wys s (nd0 s)) ∧ Below W.heap.size W w' := by
  obtain ⟨n8, hrs⟩ := rgt_rs ht.rg
  have hN : s.cs.length ≤ 1000 := by have := hrs.cl; have := hrs.n8; omega
  have hw8 := hrs.wl
  have HEQ : Hid (∀ g, kc s (nd0 s) g = knc 0 g s.cs.length 0 (s.ws.length : Int) (List.replicate 128 false)) := fun g => by
    unfold kc nd0
    simp only [cst_nil0, pad_rep _ hw8]
    unfold PM.lf
    simp
  rw [wys_nd0]
  obtain ⟨ac, kc', rfl, _, _⟩ := ht.cs.form
  obtain ⟨aw, kw, rfl, _, _⟩ := ht.ws.form
  have HT := Hid.intro' ht
  have HZ := Hid.intro' (KN.new W zk_length)
  have HB := Hid.intro' ((Below.refl W.heap.size W).alloc (Nat.le_refl _) (.cells zk.toArray 127))
  have HSZ : Hid ((W.alloc (.cells zk.toArray 127)).heap.size = W.heap.size + 1) := by show _ = _; simp
  clear ht hrs
  go_enter Try.func59, Try.ntmps59
  go_upto_region 1 with (refine wpList_allocK rfl rfl ?_)
  generalize W.alloc (.cells zk.toArray 127) = X at HZ HB HSZ ⊢
  refine wp_nrm ?_
  have HS0 : Hid (∀ w', Below X.heap.size X w' → w'.cell? ⟨tb, 13, none⟩ = some (.slice ac s.cs.length kc') ∧ w'.cell? ⟨tb, 14, none⟩ = some (.slice aw s.ws.length kw)) := fun w' hw => ⟨(HT.out.below' (below_class HB.out hw)).c13, (HT.out.below' (below_class HB.out hw)).c14⟩
  refine wp_region_held (S := fun w' => Below X.heap.size X w') (by kernel_rfl) ?_
  change wpAnyH _ _ _ _ _ _ _ _ (World.drew _)
  have HD : Hid (Below X.heap.size X X.drew) := (Below.refl _ _).drew
  generalize hXd : X.drew = X0 at HD ⊢
  clear hXd
  refine wpAnyH_take (i := 0) rfl (by kernel_rfl) (by kernel_rfl) (by kernel_rfl) (fun _ _ _ h => by cases h.1) (.inl ⟨rfl, fun _ _ => rfl⟩) HD.out ?_
  generalize hKK : wpAnyH Try.prog _ _ _ _ _ _ = KK
  go_simp
  subst hKK
  refine wpAnyH_take (i := 1) rfl (by kernel_rfl) (by kernel_rfl) (by kernel_rfl) (fun _ _ _ h => by cases h.1) (.inl ⟨rfl, fun _ _ => rfl⟩) HD.out ?_
  generalize hKK : wpAnyH Try.prog _ _ _ _ _ _ = KK
  go_simp
  subst hKK
  refine wpAnyH_take (i := 2) rfl (by kernel_rfl) (by kernel_rfl) (by kernel_rfl) (fun _ _ _ h => by cases h.1) (.inl ⟨rfl, fun _ _ => rfl⟩) HD.out ?_
  generalize hKK : wpAnyH Try.prog _ _ _ _ _ _ = KK
  go_simp
  subst hKK
  refine wpAnyH_take (i := 3) rfl (by kernel_rfl) (by kernel_rfl) (by kernel_rfl) (fun _ _ _ h => by cases h.1) (.inl ⟨rfl, fun _ _ => rfl⟩) HD.out ?_
  generalize hKK : wpAnyH Try.prog _ _ _ _ _ _ = KK
  go_simp
  subst hKK
  refine wpAnyH_take (i := 4) (v := .slice ac s.cs.length kc') rfl (by kernel_rfl) (by kernel_rfl) (by kernel_rfl) (fun _ _ _ h => by cases h.1) (.inl ⟨rfl, fun w hw => by have hc := (HS0.out w hw).1; go_simp⟩) HD.out ?_
  generalize hKK : wpAnyH Try.prog _ _ _ _ _ _ = KK
  go_simp
  subst hKK
  refine wpAnyH_take (i := 5) (v := .int .i64 (s.cs.length : Int)) rfl (by kernel_rfl) (by kernel_rfl) (by kernel_rfl) (fun _ _ _ h => by cases h.1) (.inl ⟨rfl, fun w _ => by go_simp⟩) HD.out ?_
  generalize hKK : wpAnyH Try.prog _ _ _ _ _ _ = KK
  go_simp
  subst hKK
  refine wpAnyH_take (i := 7) rfl (by kernel_rfl) (by kernel_rfl) (by kernel_rfl) (fun _ _ _ h => by cases h.1) (.inl ⟨rfl, fun _ _ => rfl⟩) HD.out ?_
  generalize hKK : wpAnyH Try.prog _ _ _ _ _ _ = KK
  go_simp
  subst hKK
  refine wpAnyH_take (i := 8) rfl (by kernel_rfl) (by kernel_rfl) (by kernel_rfl) (fun _ _ _ h => by cases h.1) (.inl ⟨rfl, fun _ _ => rfl⟩) HD.out ?_
  generalize hKK : wpAnyH Try.prog _ _ _ _ _ _ = KK
  go_simp
  subst hKK
  refine wpAnyH_take (i := 9) rfl (by kernel_rfl) (by kernel_rfl) (by kernel_rfl) (fun _ _ _ h => by cases h.1) (.inl ⟨rfl, fun _ _ => rfl⟩) HD.out ?_
  generalize hKK : wpAnyH Try.prog _ _ _ _ _ _ = KK
  go_simp
  subst hKK
  refine wpAnyH_take (i := 10) rfl (by kernel_rfl) (by kernel_rfl) (by kernel_rfl) (fun _ _ _ h => by cases h.1) (.inl ⟨rfl, fun _ _ => rfl⟩) HD.out ?_
  generalize hKK : wpAnyH Try.prog _ _ _ _ _ _ = KK
  go_simp
  subst hKK
  refine wpAnyH_take (i := 11) (v := .slice aw s.ws.length kw) rfl (by kernel_rfl) (by kernel_rfl) (by kernel_rfl) (fun _ _ _ h => by cases h.1) (.inl ⟨rfl, fun w hw => by have hc := (HS0.out w hw).2; go_simp⟩) HD.out ?_
  generalize hKK : wpAnyH Try.prog _ _ _ _ _ _ = KK
  go_simp
  subst hKK
  refine wpAnyH_take (i := 12) (v := .int .i64 (s.ws.length : Int)) rfl (by kernel_rfl) (by kernel_rfl) (by kernel_rfl) (fun _ _ _ h => by cases h.1) (.inl ⟨rfl, fun w _ => by go_simp⟩) HD.out ?_
  generalize hKK : wpAnyH Try.prog _ _ _ _ _ _ = KK
  go_simp
  subst hKK
  have HXS := HSZ.out
  have HLN : Hid (∀ g, (knc 0 g s.cs.length 0 (s.ws.length : Int) (List.replicate 128 false)).length = 132) := fun g => knc_length (by simp) _ _ _ _ _
  have HON : Hid (∀ g, ∀ u ∈ knc 0 g s.cs.length 0 (s.ws.length : Int) (List.replicate 128 false), u.oneCell' = true) := fun g => knc_one _ _ _ _ _ _
  refine wpAnyH_all (rs := [6, 14]) (by kernel_rfl) (by simp) (fun ii hii => ?_)
  have h7 : ii = 6 ∨ ii = 14 := by simpa using hii
  clear hii
  rcases h7 with rfl | rfl
  refine wpOp_mkV rfl rfl _ _ rfl s.cs.length hN rfl rfl ?_
  have hb1 := HD.out.alloc HD.out.size (.cells (wcs (List.replicate s.cs.length w0)).toArray 156)
  refine ⟨hb1, ?_⟩
  generalize hKK : wpAnyH Try.prog _ _ _ _ _ _ = KK
  go_simp
  subst hKK
  have HW1 := Hid.intro' (WR.new X0 (List.replicate s.cs.length w0))
  have HB1 := Hid.intro' hb1
  have hg1 := HD.out.size
  have hg2 : X0.heap.size < (X0.alloc (.cells (wcs (List.replicate s.cs.length w0)).toArray 156)).heap.size := by simp
  clear hb1
  generalize X0.alloc (.cells (wcs (List.replicate s.cs.length w0)).toArray 156) = X1 at HW1 HB1 hg2 ⊢
  generalize X0.heap.size = g at HW1 hg1 hg2 ⊢
  refine wpAnyH_take (i := 13) (v := .agg (knc 0 g s.cs.length 0 (s.ws.length : Int) (List.replicate 128 false)).toArray) rfl (by kernel_rfl) (by kernel_rfl) (by kernel_rfl) (fun _ _ _ h => by cases h.1) (yif_build rfl _ _ rfl [(1, .slice (some ⟨g, 0, none⟩) s.cs.length s.cs.length), (3, .int .i64 (s.ws.length : Int))] (by simp [Act.eval]) _ (built_kn _ _ _)) HB1.out ?_
  generalize hKK : wpAnyH Try.prog _ _ _ _ _ _ = KK
  go_simp
  subst hKK
  refine wpAnyH_all (rs := [14]) (by kernel_rfl) (by simp) (fun ii hii => ?_)
  obtain rfl : ii = 14 := by simpa using hii
  clear hii
  refine wpOp_allocK rfl rfl rfl ?_
  have hb2 := HB1.out.alloc HB1.out.size (.cells zk.toArray 127)
  refine ⟨hb2, ?_⟩
  generalize hKK : wpAnyH Try.prog _ _ _ _ _ _ = KK
  go_simp
  subst hKK
  have HW2 := Hid.intro' (HW1.out.below' ((Below.refl _ _).alloc (Nat.le_refl _) (.cells zk.toArray 127)))
  have HK2 := Hid.intro' (KN.new X1 zk_length)
  have HB2 := Hid.intro' hb2
  have HZ2 := Hid.intro' (HZ.out.below' hb2)
  have hq2 : X1.heap.size < (X1.alloc (.cells zk.toArray 127)).heap.size := by simp
  have hqg : X1.heap.size ≠ g := by omega
  have hq1 : X.heap.size ≤ X1.heap.size := HB1.out.size
  clear hb2 HW1 HB1 hg2
  generalize X1.alloc (.cells zk.toArray 127) = X2 at HW2 HK2 HB2 HZ2 hq2 ⊢
  generalize X1.heap.size = q at HK2 hq1 hq2 hqg ⊢
  refine wpAnyH_all (rs := [15]) (by kernel_rfl) (by simp) (fun ii hii => ?_)
  obtain rfl : ii = 15 := by simpa using hii
  clear hii
  refine wpOp_storeK rfl rfl _ _ rfl q rfl rfl HK2.out (HLN.out g) (HON.out g) ?_
  intro W3 hk3 hn3
  have HB3 := Hid.intro' (hk3.below HB2.out (by omega) (fun i hi e => by omega))
  refine ⟨HB3.out, ?_⟩
  have HF : Hid (Fz W W3 s q g 0) := ⟨hn3, by rw [wfst_zero]; exact HW2.out.kp hk3 (by omega), (HZ2.out).kp hk3 (by omega), hk3.below (below_class HB.out HB2.out) (by omega) (fun i hi e => by omega), by omega, by omega, by omega⟩
  clear hk3 hn3 HB3 HK2 HW2 HZ2 HB2
  refine wpAnyH_done (by kernel_rfl) ⟨rfl, ?_⟩ _
  rotate_left
  refine wpOp_allocK rfl rfl rfl ?_
  have hb1 := HD.out.alloc HD.out.size (.cells zk.toArray 127)
  refine ⟨hb1, ?_⟩
  generalize hKK : wpAnyH Try.prog _ _ _ _ _ _ = KK
  go_simp
  subst hKK
  have HK1 := Hid.intro' (KN.new X0 zk_length)
  have HB1 := Hid.intro' hb1
  have hq1 := HD.out.size
  have hg2 : X0.heap.size < (X0.alloc (.cells zk.toArray 127)).heap.size := by simp
  clear hb1
  generalize X0.alloc (.cells zk.toArray 127) = X1 at HK1 HB1 hg2 ⊢
  generalize X0.heap.size = q at HK1 hq1 hg2 ⊢
  refine wpAnyH_all (rs := [6]) (by kernel_rfl) (by simp) (fun ii hii => ?_)
  obtain rfl : ii = 6 := by simpa using hii
  clear hii
  refine wpOp_mkV rfl rfl _ _ rfl s.cs.length hN rfl rfl ?_
  have hb2 := HB1.out.alloc HB1.out.size (.cells (wcs (List.replicate s.cs.length w0)).toArray 156)
  refine ⟨hb2, ?_⟩
  generalize hKK : wpAnyH Try.prog _ _ _ _ _ _ = KK
  go_simp
  subst hKK
  have HK2 := Hid.intro' (HK1.out.below' ((Below.refl _ _).alloc (Nat.le_refl _) (.cells (wcs (List.replicate s.cs.length w0)).toArray 156)))
  have HW2 := Hid.intro' (WR.new X1 (List.replicate s.cs.length w0))
  have HB2 := Hid.intro' hb2
  have HZ2 := Hid.intro' (HZ.out.below' hb2)
  have hq2 : q < (X1.alloc (.cells (wcs (List.replicate s.cs.length w0)).toArray 156)).heap.size := by simp; omega
  have hqg : q ≠ X1.heap.size := by omega
  have hg1 : X.heap.size ≤ X1.heap.size := HB1.out.size
  clear hb2 HK1 HB1 hg2
  generalize X1.alloc (.cells (wcs (List.replicate s.cs.length w0)).toArray 156) = X2 at HW2 HK2 HB2 HZ2 hq2 ⊢
  generalize X1.heap.size = g at HW2 hg1 hqg ⊢
  refine wpAnyH_take (i := 13) (v := .agg (knc 0 g s.cs.length 0 (s.ws.length : Int) (List.replicate 128 false)).toArray) rfl (by kernel_rfl) (by kernel_rfl) (by kernel_rfl) (fun _ _ _ h => by cases h.1) (yif_build rfl _ _ rfl [(1, .slice (some ⟨g, 0, none⟩) s.cs.length s.cs.length), (3, .int .i64 (s.ws.length : Int))] (by simp [Act.eval]) _ (built_kn _ _ _)) HB2.out ?_
  generalize hKK : wpAnyH Try.prog _ _ _ _ _ _ = KK
  go_simp
  subst hKK
  refine wpAnyH_all (rs := [15]) (by kernel_rfl) (by simp) (fun ii hii => ?_)
  obtain rfl : ii = 15 := by simpa using hii
  clear hii
  refine wpOp_storeK rfl rfl _ _ rfl q rfl rfl HK2.out (HLN.out g) (HON.out g) ?_
  intro W3 hk3 hn3
  have HB3 := Hid.intro' (hk3.below HB2.out (by omega) (fun i hi e => by omega))
  refine ⟨HB3.out, ?_⟩
  have HF : Hid (Fz W W3 s q g 0) := ⟨hn3, by rw [wfst_zero]; exact HW2.out.kp hk3 (by omega), (HZ2.out).kp hk3 (by omega), hk3.below (below_class HB.out HB2.out) (by omega) (fun i hi e => by omega), by omega, by omega, by omega⟩
  clear hk3 hn3 HB3 HK2 HW2 HZ2 HB2
  refine wpAnyH_done (by kernel_rfl) ⟨rfl, ?_⟩ _
  all_goals
    clear hq1 hq2 hg1 HS0 HD HZ HB HSZ HXS hqg
    have c13 : W3.cell? ⟨tb, 13, none⟩ = some (.slice ac s.cs.length kc') := (HT.out.below' HF.out.bel).c13
    go_wp2_with fail
    clear c13
    go_loopw [26] (fun cv wr => ∃ c : Nat, c ≤ s.cs.length ∧ cv = .int .i64 (c : Int) ∧ Hid (Fz W wr s q g c)) (fun cv _ => s.cs.length - (intOf cv).toNat)
    case atStart => exact ⟨0, Nat.zero_le _, rfl, HF⟩
    case round =>
      clear HF
      obtain ⟨c, hc, rfl, HF⟩ := hrel
      by_cases hlt : c < s.cs.length
      · have hcz : (c : Int) < (s.cs.length : Int) := by omega
        obtain ⟨r, hr⟩ : ∃ r, s.cs[c]? = some r := ⟨_, List.getElem?_eq_getElem hlt⟩
        obtain ⟨gc, oc, hac, x0, x1⟩ := (HT.out.below' HF.out.bel).cs.at hr
        subst hac
        have HF1 := Hid.intro' (HF.out.next ((Below.refl wr.heap.size wr).alloc (Nat.le_refl _) (.cells #[.int .i64 r.1, .int .i64 r.2] 40)))
        have c1 : (wr.alloc (.cells #[.int .i64 r.1, .int .i64 r.2] 40)).cell? ⟨q, 1, none⟩ = some (.slice (some ⟨g, 0, none⟩) s.cs.length s.cs.length) := HF1.out.nd.cell 1
        have hix : ∀ W : World, (Instr.indexAt 125 (.slice (some ⟨g, 0, none⟩) s.cs.length s.cs.length) (.int .i64 (c : Int))).run Try.prog W = .ok (.pointer (some ⟨g, c * 3, none⟩)) W := fun W => ixV W hlt
        have HSC := Hid.intro' (wfst_succ hr)
        have HCL : Hid (c < (wfst s.cs c).length) := by show _ < _; rw [wfst_length hc]; exact hlt
        clear hr HF
        go_wp2_with (refine wpList_storeV rfl _ _ rfl g c (wfst s.cs c) HCL.out (RM.bg r) HF1.out.rw rfl rfl ?_)
        intro W4 hk4 hr4
        rw [HSC.out] at hr4
        have HF2 := Hid.intro' (HF1.out.kp hk4 hr4)
        clear hk4 hr4 HF1 c1 hix x0 x1 HSC HCL
        go_wp2
        go_roundw
        case rel => exact ⟨c + 1, by omega, by go_num, HF2⟩
        case measure => simp [intOf]; omega
      · have hcz : ¬ (c : Int) < (s.cs.length : Int) := by omega
        have hce : c = s.cs.length := by omega
        rw [hce] at HF
        have HN := Hid.intro' HF.out.nd
        have HZ := Hid.intro' HF.out.z
        clear hce
        go_wp2_with (first | (refine wpList_loadK rfl _ rfl q _ rfl HN.out ?_) | (refine wpList_storeK rfl _ _ rfl W.heap.size rfl rfl HZ.out (HLN.out g) (HON.out g) ?_))
        intro W5 hk5 hn5
        have HK := Hid.intro' (And.intro hk5 hn5)
        clear hk5 hn5 HN HZ
        go_wp2
        refine bodyPost_ret (retK Try.results59 rfl HK.out.2) rfl ⟨g, by rw [HEQ.out]; rfl, by have := HF.out.g1; omega, ?_, HK.out.1.below HF.out.bel (by have := HF.out.z.lt; omega) (fun i hi e => by omega)⟩
        have := HF.out.rw.kp HK.out.1 (by have := HF.out.g1; omega)
        rwa [wfst_end] at this
end
end Go.Proofs.Ytagmidolcdefiah

/- A check's tree: what a plan costs. -/
namespace Go.Proofs.Ytagmidolcdefiah
open Go.RowKit Go.Shelf
/-- a node that is looked at, in memory -/
structure Cn (W wr : World) (s : Sn) (q : Nat) (k : Int) (n : Nn) : Prop where
  nd : ∃ g, KN wr q (knc k g s.cs.length (RM.cst s.st s.ws s.cs n.b) ((PM.lf n.st : Nat) : Int) (pad n.st)) ∧ WR wr g (wys s n) ∧ g ≠ q
  ok : n.ok s
  bel : Below W.heap.size W wr
  q1 : W.heap.size ≤ q
/-- how far it is looked at -/
structure Cz (W wr : World) (s : Sn) (q : Nat) (p : List (List Int)) (c : Nat) : Prop where
  more : c < p.length → ∃ k st, Cn W wr s q k ⟨c, cutp p c 0, st⟩
  done : c = p.length → wr.cell? ⟨q, 2, none⟩ = some (.int .i64 (RM.cst s.st s.ws s.cs p)) ∧ Below W.heap.size W wr
section
variable {D D' : Nat → Prop} {W : World} {tb : Nat} {s : Sn} {vc vw vt vp : Value} {p : List (List Int)}
theorem Cn.next {wr w' : World} {q : Nat} {k : Int} {n : Nn} (h : Cn W wr s q k n) (hb : Below wr.heap.size wr w') : Cn W w' s q k n := by
  obtain ⟨g, h1, h2, h3⟩ := h.nd
  exact ⟨⟨g, h1.below' hb, h2.below' hb, h3⟩, h.ok, below_class h.bel hb, h.q1⟩
theorem Cn.lt {wr : World} {q : Nat} {k : Int} {n : Nn} (h : Cn W wr s q k n) : q < wr.heap.size := by
  obtain ⟨g, h1, _⟩ := h.nd
  exact h1.lt
theorem Cn.c0 {wr : World} {q : Nat} {k : Int} {n : Nn} (h : Cn W wr s q k n) : wr.cell? ⟨q, 0, none⟩ = some (.int .i64 k) ∧ wr.frozen? ⟨q, 0, none⟩ = false := by
  obtain ⟨g, h1, _⟩ := h.nd
  exact ⟨h1.cell 0, h1.fr 0⟩
theorem Cn.put {wr : World} {q : Nat} {k : Int} {n : Nn} (h : Cn W wr s q k n) (k' : Int) : Cn W (wr.setCell ⟨q, 0, none⟩ (.int .i64 k')) s q k' n := by
  obtain ⟨g, h1, h2, h3⟩ := h.nd
  have kp : Kp (fun i => i = q) wr (wr.setCell ⟨q, 0, none⟩ (.int .i64 k')) := (Kp.refl (fun i => i = q) wr).set _ _ _ (fun _ => rfl)
  exact ⟨⟨g, h1.put 0 (.int .i64 k'), h2.kp kp h3, h3⟩, h.ok, kp.below h.bel (by have := h1.lt; have := h.q1; omega) (fun i hi e => by have := h.q1; omega), h.q1⟩
/-- a list is done -/
theorem Cz.next {wr : World} {q c : Nat} {k : Int} {l : List Int} {st : List Bool} (h : Cn W wr s q k ⟨c, cutp p c l.length, st⟩) (hl : p[c]? = some l) : Cz W wr s q p (c + 1) := by
  refine ⟨fun h1 => ?_, fun h1 => ?_⟩
  · rw [cut_next h1 hl] at h
    obtain ⟨g, h2, h3, h4⟩ := h.nd
    have hk : c + 1 < (cutp p (c + 1) 0).length := by rw [cutp_length 0 h1]; exact h1
    exact ⟨k, st, ⟨g, h2, h3, h4⟩, Nn.ok.nxc h.ok hk, h.bel, h.q1⟩
  · obtain ⟨g, h2, h3, h4⟩ := h.nd
    rw [cutp_whole h1 hl] at h2
    exact ⟨h2.cell 2, h.bel⟩
set_option maxRecDepth 100000 in
set_option maxHeartbeats 4000000 in
theorem kcost_any (ht : TC D W tb s vc vw vt) (hp : RL D' W vp p) (hf : Fs s p) (hll : ∀ l ∈ p, l.length ≤ 1000) :
    Calls Try.prog 29 #[.pointer (some ⟨tb, 0, none⟩), vp] W fun e w' => e = .returned (.int .i64 (RM.cst s.st s.ws s.cs p)) ∧ Below W.heap.size W w' := by
  obtain ⟨n8, hrs⟩ := rgt_rs ht.rg
  have hpl : p.length = s.cs.length := hf.pc.symm
  have hp0 : 0 < p.length := by have := hrs.cl; have := hrs.n1; omega
  have hp8 : p.length ≤ 8 := by have := hrs.cl; have := hrs.n8; omega
  obtain ⟨ap, kp, rfl, _, _⟩ := hp.form
  have HT := Hid.intro' ht
  have HP := Hid.intro' hp
  have HF := Hid.intro' hf
  have HLL := Hid.intro' hll
  have HFI := Hid.intro' (kfirst_any ht)
  have HN0 : Hid (nd0 s = ⟨0, cutp p 0 0, List.replicate s.ws.length false⟩) := by show _ = _; rw [cut_zero hp0, hpl]; rfl
  have HK0 := Hid.intro' (nd0_ok ht.rg)
  obtain ⟨CT, HCT⟩ : ∃ c, Hid (RM.cst s.st s.ws s.cs p = c) := ⟨_, Hid.intro' rfl⟩
  rw [HCT.out]
  clear ht hp hf hrs hll hpl
  go_enter Try.func29, Try.ntmps29
  go_wp2_with fail
  refine HFI.out.mono ?_
  rintro r W1 ⟨g, rfl, hg, hr, hb⟩
  have HB1 := Hid.intro' hb
  have HR1 := Hid.intro' hr
  have HKN := Hid.intro' (KN.new W1 zk_length)
  have HBA := Hid.intro' ((Below.refl W1.heap.size W1).alloc (Nat.le_refl _) (.cells zk.toArray 127))
  have HLN := Hid.intro' (kc_length s (nd0 s) g)
  have HON : Hid (∀ u ∈ kc s (nd0 s) g, u.oneCell' = true) := knc_one _ _ _ _ _ _
  clear hg hr hb HFI
  go_wp2_with (first | (refine wpList_allocK rfl rfl ?_) | (refine wpList_storeK rfl _ _ rfl W1.heap.size rfl rfl HKN.out HLN.out HON.out ?_))
  intro W2 hk2 hn2
  have hrl := HR1.out.lt
  have hbs := HB1.out.size
  have HC0 : Hid (Cz W W2 s W1.heap.size p 0) := by
    refine ⟨fun _ => ⟨0, List.replicate s.ws.length false, ?_⟩, fun h => by omega⟩
    rw [← HN0.out]
    exact ⟨⟨g, hn2, (HR1.out.below' HBA.out).kp hk2 (by omega), by omega⟩, HK0.out, hk2.below (below_class HB1.out HBA.out) (by simp; omega) (fun i hi e => by omega), hbs⟩
  clear hk2 hn2 HKN HBA HLN HON HR1 HB1 hrl hbs HK0 HN0
  generalize W1.heap.size = q at HC0 ⊢
  go_wp2_with fail
  go_loopw [14] (fun cv wr => ∃ c : Nat, c ≤ p.length ∧ cv = .int .i64 (c : Int) ∧ Hid (Cz W wr s q p c)) (fun cv _ => p.length - (intOf cv).toNat)
  case atStart => exact ⟨0, Nat.zero_le _, rfl, HC0⟩
  case round =>
    clear HC0
    obtain ⟨c, hc, rfl, HC⟩ := hrel
    by_cases hlt : c < p.length
    · have hcz : (c : Int) < (p.length : Int) := by omega
      obtain ⟨k, st, hcn⟩ := HC.out.more hlt
      have HCN := Hid.intro' hcn
      obtain ⟨l, hl⟩ : ∃ l, p[c]? = some l := ⟨_, List.getElem?_eq_getElem hlt⟩
      obtain ⟨gp, op, hap, u, hu, hri⟩ := (HP.out.below' hcn.bel).at hl
      subst hap
      obtain ⟨al, kl, rfl, _, _⟩ := hri.form
      have HRI : Hid (RI D' wr (.slice al l.length kl) l) := hri
      have hll : l.length ≤ 1000 := HLL.out l (List.mem_of_getElem? hl)
      have HL := Hid.intro' hl
      obtain ⟨c0, f0⟩ := hcn.c0
      have HIN : Hid (Cn W (wr.setCell ⟨q, 0, none⟩ (.int .i64 (c : Int))) s q (c : Int) ⟨c, cutp p c 0, st⟩) := hcn.put (c : Int)
      have hql := hcn.lt
      have HKQ : Hid (Kp (fun i => i = q) wr (wr.setCell ⟨q, 0, none⟩ (.int .i64 (c : Int)))) := (Kp.refl (fun i => i = q) wr).set _ _ _ (fun _ => rfl)
      have HRD : Hid (RI (fun g => g < W.heap.size) W (.slice al l.length kl) l) := by
        obtain ⟨g2, o2, e2, u2, hu2, hri2⟩ := HP.out.at hl
        cases e2
        have : u2 = .slice al l.length kl := by
          have h1 := (Below.cell hcn.bel (World.block_lt_of_cell? W _ hu2)).trans hu2
          rw [hu] at h1
          cases h1; rfl
        subst this
        exact hri2.mono fun g _ h _ => h
      clear hcn HC hl hri HRI
      go_wp2_with fail
      clear hu c0 f0
      generalize wr.setCell ⟨q, 0, none⟩ (.int .i64 (c : Int)) = W3 at HIN HKQ ⊢
      clear HCN HKQ
      go_loopw [23] (fun jv wr => ∃ (j : Nat) (st : List Bool), j ≤ l.length ∧ jv = .int .i64 (j : Int) ∧ Hid (Cn W wr s q (c : Int) ⟨c, cutp p c j, st⟩)) (fun jv _ => l.length - (intOf jv).toNat)
      case atStart => exact ⟨0, st, Nat.zero_le _, rfl, HIN⟩
      case round =>
        clear HIN
        obtain ⟨j, st, hj, rfl, HIN⟩ := hrel
        by_cases hjl : j < l.length
        · have hjz : (j : Int) < (l.length : Int) := by omega
          obtain ⟨x, hx⟩ : ∃ x, l[j]? = some x := ⟨_, List.getElem?_eq_getElem hjl⟩
          have hxr := HF.out.fr x (List.mem_flatten.2 ⟨l, List.mem_of_getElem? HL.out, List.mem_of_getElem? hx⟩)
          obtain ⟨w, rfl⟩ : ∃ w : Nat, x = (w : Int) := ⟨x.toNat, by omega⟩
          obtain ⟨gl, ol, hal, hcx⟩ := (HRD.out.below' HIN.out.bel).at hx
          subst hal
          obtain ⟨hwl, hsf, hok2, hb2⟩ := cut_step HF.out hlt HL.out hx HIN.out.ok
          obtain ⟨g, h1, h2, h3⟩ := HIN.out.nd
          have HN1 : Hid (KN wr q (kc s ⟨c, cutp p c j, st⟩ g)) := h1
          have HGR := Hid.intro' (kgrown_node (HT.out.below' HIN.out.bel) HIN.out.ok h2 hwl hsf)
          have HOK : Hid (Nn.ok s (grw ⟨c, cutp p c j, st⟩ w) ∧ (grw ⟨c, cutp p c j, st⟩ w).b = cutp p c (j + 1)) := ⟨hok2, hb2⟩
          clear hx hwl hsf hok2 hb2 h1 h2 h3 hxr
          go_wp2_with (refine wpList_loadK rfl _ rfl q _ rfl HN1.out ?_)
          refine HGR.out.mono ?_
          rintro r W4 ⟨g', rfl, hg', hr', hb'⟩
          have HN4 := Hid.intro' (HN1.out.below' hb')
          have HB4 := Hid.intro' (below_class HIN.out.bel hb')
          have HR4 := Hid.intro' hr'
          have hqg : g' ≠ q := by have := HN1.out.lt; omega
          have hq1 := HIN.out.q1
          have HLN := Hid.intro' (kc_length s (grw ⟨c, cutp p c j, st⟩ w) g')
          have HON : Hid (∀ u ∈ kc s (grw ⟨c, cutp p c j, st⟩ w) g', u.oneCell' = true) := knc_one _ _ _ _ _ _
          clear hg' hr' hb' HGR HN1 HIN hcx
          go_wp2_with (refine wpList_storeK rfl _ _ rfl q rfl rfl HN4.out HLN.out HON.out ?_)
          intro W5 hk5 hn5
          have HI5 : Hid (Cn W W5 s q (c : Int) ⟨c, cutp p c (j + 1), st.set w true⟩) := by
            have hB : (grw ⟨c, cutp p c j, st⟩ w) = ⟨c, cutp p c (j + 1), st.set w true⟩ := by
              have := HOK.out.2
              unfold grw at this ⊢
              simp only at this ⊢
              rw [this]
            rw [← hB]
            exact ⟨⟨g', hn5, HR4.out.kp hk5 hqg, hqg⟩, HOK.out.1, hk5.below HB4.out (by have := HN4.out.lt; omega) (fun i hi e => by omega), hq1⟩
          clear hk5 hn5 HN4 HB4 HR4 HLN HON HOK
          go_wp2
          go_roundw
          case rel => exact ⟨j + 1, _, by omega, by go_num, HI5⟩
          case measure => simp [intOf]; omega
        · have hjz : ¬ (j : Int) < (l.length : Int) := by omega
          have hje : j = l.length := by omega
          rw [hje] at HIN
          have HC2 := Hid.intro' (Cz.next HIN.out HL.out)
          clear hje HIN
          go_wp2
          go_roundw
          case rel => exact ⟨c + 1, by omega, by go_num, HC2⟩
          case measure => simp [intOf]; omega
    · have hcz : ¬ (c : Int) < (p.length : Int) := by omega
      obtain ⟨h2, hb⟩ := HC.out.done (by omega)
      rw [HCT.out] at h2
      have HB := Hid.intro' hb
      clear hb HC
      go_wp2
      go_ret
      exact ⟨rfl, HB.out⟩
end
end Go.Proofs.Ytagmidolcdefiah

/- A check's tree: the earliest time of a want, and a node's least cost. -/
namespace Go.Proofs.Ytagmidolcdefiah
open Go.RowKit Go.Shelf
/-- what holds while the earliest time is looked for -/
structure Ez (W wr : World) (s : Sn) (n : Nn) (g : Nat) (f : Int) (m : Nat) : Prop where
  n1 : KN wr W.heap.size (kc s n g)
  wb : wr.heap[W.heap.size + 1]? = some (.cells #[.int .i64 f, .int .i64 (m : Int)] 58 (0, 0))
  bel : Below W.heap.size W wr
section
variable {D : Nat → Prop} {W : World} {tb : Nat} {s : Sn} {vc vw vt : Value} {n : Nn} {g : Nat}
theorem Ez.next {wr w' : World} {f : Int} {m : Nat} (h : Ez W wr s n g f m) (hb : Below wr.heap.size wr w') : Ez W w' s n g f m := ⟨h.n1.below' hb, (hb.block _ (Array.getElem?_eq_some_iff.1 h.wb).1).trans h.wb, below_class h.bel hb⟩
theorem Ez.c (W : World) (f : Int) (m : Nat) : Ez W ((W.alloc (.cells (kc s n g).toArray 127)).alloc (.cells #[.int .i64 f, .int .i64 (m : Int)] 58)) s n g f m := by
  have h2 := World.alloc_heap_new (W.alloc (.cells (kc s n g).toArray 127)) (.cells #[.int .i64 f, .int .i64 (m : Int)] 58)
  rw [World.size_alloc] at h2
  exact ⟨(KN.new W (kc_length s n g)).below' ((Below.refl _ _).alloc (Nat.le_refl _) _), h2, ((Below.refl W.heap.size W).alloc (Nat.le_refl _) _).alloc (by simp) _⟩
set_option maxRecDepth 100000 in
set_option maxHeartbeats 4000000 in
theorem kearliest_any (ht : TC D W tb s vc vw vt) (ok : n.ok s) (hA : WR W g (wys s n)) {j : Nat} {y : Int × Int} (hy : s.ws[j]? = some y) :
    Calls Try.prog 93 #[.pointer (some ⟨tb, 0, none⟩), .agg (kc s n g).toArray, .agg #[.int .i64 y.1, .int .i64 y.2]] W fun e w' => e = .returned (.int .i64 (ert s n j s.cs.length)) ∧ Below W.heap.size W w' := by
  obtain ⟨n8, hrs⟩ := rgt_rs ht.rg
  obtain ⟨m, hm, hym⟩ := hrs.mm.eq j y hy
  have hwr := (rgt_rz ht.rg).wr y (List.mem_of_getElem? hy)
  have HMY : Hid (∀ c, mayk s c (j : Int) = PM.bt m c) := fun c => by unfold mayk; rw [Int.toNat_natCast, hm]; rfl
  have HWF : Hid (RM.wf s.ws (j : Int) = y.1) := RM.wf_get hy
  obtain ⟨f, m2⟩ := y
  simp only at hym hwr HWF ⊢
  subst hym
  have hkc : n.k < s.cs.length := by have := ok.kl; have := ok.bl; omega
  have hc8 : s.cs.length ≤ 8 := by have := hrs.cl; have := hrs.n8; omega
  have HNX : Hid (∀ a : RM.Sp, RM.Ok s.st a → a.le ≤ 100000000 → ∀ w', Below W.heap.size W w' → Calls Try.prog 77 #[.pointer (some ⟨tb, 0, none⟩), .agg #[.int .i64 a.fl, .int .i64 a.he, .int .i64 a.le], .int .i64 f] w' fun e w'' => e = .returned (.agg #[.int .i64 (RM.nx s.st a f).fl, .int .i64 (RM.nx s.st a f).he, .int .i64 (RM.nx s.st a f).le]) ∧ Below w'.heap.size w' w'') := fun a oa la w' hw => knext_any (ht.below' hw) a oa la f hwr.1 hwr.2
  have HOK := Hid.intro' ok
  have HA := Hid.intro' hA
  have HE0 := Hid.intro' (Ez.c (s := s) (n := n) (g := g) W f m)
  have c0 : ((W.alloc (.cells (kc s n g).toArray 127)).alloc (.cells #[.int .i64 f, .int .i64 (m : Int)] 58)).cell? ⟨W.heap.size, 0, none⟩ = some (.int .i64 (n.k : Int)) := HE0.out.n1.cell 0
  obtain ⟨T0, HT0⟩ : ∃ T, Hid (ert s n j s.cs.length = T) := ⟨_, Hid.intro' rfl⟩
  rw [HT0.out]
  clear ht ok hA hy hm hrs hwr
  go_enter Try.func93, Try.ntmps93
  go_wp2_with fail
  clear c0
  generalize (W.alloc (.cells (kc s n g).toArray 127)).alloc (.cells #[.int .i64 f, .int .i64 (m : Int)] 58) = W1 at HE0 ⊢
  go_loopw [7, 8] (fun tv cv wr => ∃ (c : Nat) (t : Int), n.k ≤ c ∧ c ≤ s.cs.length ∧ tv = .int .i64 t ∧ cv = .int .i64 (c : Int) ∧ Hid (t = ert s n j c) ∧ Hid (Ez W wr s n g f m)) (fun _ cv _ => s.cs.length - (intOf cv).toNat)
  case atStart => exact ⟨n.k, _, Nat.le_refl _, by omega, rfl, rfl, (ert_zero j).symm, HE0⟩
  case round =>
    clear HE0
    obtain ⟨c, t, hkc2, hcn, rfl, rfl, HT, HE⟩ := hrel
    have c1 : wr.cell? ⟨W.heap.size, 1, none⟩ = some (.slice (some ⟨g, 0, none⟩) s.cs.length s.cs.length) := HE.out.n1.cell 1
    by_cases hlt : c < s.cs.length
    · have hcz : (c : Int) < (s.cs.length : Int) := by omega
      have x0 : wr.cell? ⟨W.heap.size + 1, 0, none⟩ = some (.int .i64 f) := by rw [cell_of_row _ _ 0 _ _ _ HE.out.wb]; rfl
      have x1 : wr.cell? ⟨W.heap.size + 1, 1, none⟩ = some (.int .i64 (m : Int)) := by rw [cell_of_row _ _ 1 _ _ _ HE.out.wb]; rfl
      obtain ⟨a, ha⟩ : ∃ a, (wys s n)[c]? = some a := ⟨_, List.getElem?_eq_getElem (by rw [wys_length HOK.out]; exact hlt)⟩
      have HH := Hid.intro' (khas_any f m c (by omega))
      have HAA := Hid.intro' ha
      clear ha
      go_wp2_with fail
      refine (HH.out wr).mono ?_
      rintro e W2 ⟨rfl, hb2⟩
      have HE2 := Hid.intro' (HE.out.next hb2)
      clear hb2 HE HH x0 x1 c1
      cases hbt : PM.bt m c with
      | false =>
        have HT2 : Hid (t = ert s n j (c + 1)) := by
          show _ = _
          rw [ert_no HOK.out hkc2 HAA.out (by rw [HMY.out, hbt]), HT.out]
        clear hbt
        go_wp2
        go_roundw
        case rel => exact ⟨c + 1, t, by omega, by omega, rfl, by go_num, HT2, HE2⟩
        case measure => simp [intOf]; omega
      | true =>
        have hok := wys_ok HOK.out HAA.out
        have HT2 : Hid (ert s n j (c + 1) = min t (RM.nx s.st a f).he) := by
          show _ = _
          rw [ert_yes HOK.out hkc2 HAA.out (by rw [HMY.out, hbt]), HT.out, HWF.out, RM.nx_eq hok.1]
        have HNA := Hid.intro' (HNX.out a hok.1 hok.2)
        clear hbt hok
        generalize RM.nx s.st a f = z at HNA HT2
        have hcl : c < s.cs.length := hlt
        go_wp2_with fail
        have hbw : ∀ w', Below W2.drew.heap.size W2.drew w' → Ez W w' s n g f m := fun w' hw => HE2.out.next ((Below.refl _ _).drew.trans hw)
        have G1 : Hid (∀ w', Below W2.drew.heap.size W2.drew w' → w'.cell? ⟨W.heap.size, 1, none⟩ = some (.slice (some ⟨g, 0, none⟩) s.cs.length s.cs.length)) := fun w' hw => (hbw w' hw).n1.cell 1
        have GA : Hid (∀ w', Below W2.drew.heap.size W2.drew w' → w'.rangeAt g (c * 3) [.int .i64 a.fl, .int .i64 a.he, .int .i64 a.le]) := fun w' hw => (HA.out.below' (hbw w' hw).bel).range HAA.out
        have GX : Hid (∀ w', Below W2.drew.heap.size W2.drew w' → w'.cell? ⟨W.heap.size + 1, 0, none⟩ = some (.int .i64 f)) := fun w' hw => by rw [cell_of_row _ _ 0 _ _ _ (hbw w' hw).wb]; rfl
        have GN : Hid (∀ w', Below W2.drew.heap.size W2.drew w' → Calls Try.prog 77 #[.pointer (some ⟨tb, 0, none⟩), .agg #[.int .i64 a.fl, .int .i64 a.he, .int .i64 a.le], .int .i64 f] w' fun e w'' => e = .returned (.agg #[.int .i64 z.fl, .int .i64 z.he, .int .i64 z.le]) ∧ Below w'.heap.size w' w'') := fun w' hw => HNA.out w' (hbw w' hw).bel
        clear hbw HNA
        refine wp_region_tail 12 (by kernel_rfl) (by kernel_rfl) ?_
        simp only [List.take_succ_cons, List.take_zero, List.drop_succ_cons, List.drop_zero]
        unfold wpCalm
        generalize hK : wpCalm Try.prog _ _ _ _ = K
        unfold Oper.calm
        go_simp
        refine ⟨_, fun _ _ => rfl, ?_⟩
        subst hK
        unfold wpCalm
        generalize hK : wpCalm Try.prog _ _ _ _ = K
        unfold Oper.calm
        go_simp
        refine ⟨_, fun _ _ => rfl, ?_⟩
        subst hK
        unfold wpCalm
        generalize hK : wpCalm Try.prog _ _ _ _ = K
        unfold Oper.calm
        go_simp
        refine ⟨_, fun _ _ => rfl, ?_⟩
        subst hK
        unfold wpCalm
        generalize hK : wpCalm Try.prog _ _ _ _ = K
        rw [if_pos (by go_simp)]
        refine calm_loadVs _ _ _ rfl rfl G1.out ?_
        go_simp
        subst hK
        unfold wpCalm
        generalize hK : wpCalm Try.prog _ _ _ _ = K
        unfold Oper.calm
        go_simp
        refine ⟨_, fun _ _ => rfl, ?_⟩
        subst hK
        unfold wpCalm
        generalize hK : wpCalm Try.prog _ _ _ _ = K
        rw [if_pos (by go_simp)]
        refine calm_ixV _ _ rfl rfl rfl hcl ?_
        go_simp
        subst hK
        unfold wpCalm
        generalize hK : wpCalm Try.prog _ _ _ _ = K
        rw [if_pos (by go_simp)]
        refine calm_loadV _ _ _ a rfl rfl GA.out ?_
        go_simp
        subst hK
        unfold wpCalm
        generalize hK : wpCalm Try.prog _ _ _ _ = K
        unfold Oper.calm
        go_simp
        refine ⟨_, fun _ _ => rfl, ?_⟩
        subst hK
        unfold wpCalm
        generalize hK : wpCalm Try.prog _ _ _ _ = K
        rw [if_pos (by go_simp)]
        refine calm_load3 _ _ _ rfl rfl GX.out ?_
        go_simp
        subst hK
        unfold wpCalm
        generalize hK : wpCalm Try.prog _ _ _ _ = K
        unfold Oper.calm
        go_simp
        refine ⟨_, fun w' hw => GN.out w' hw, ?_⟩
        subst hK
        unfold wpCalm
        generalize hK : wpCalm Try.prog _ _ _ _ = K
        rw [if_pos (by go_simp)]
        refine calm_fieldV _ rfl rfl ?_
        go_simp
        subst hK
        unfold wpCalm
        generalize hK : wpCalm Try.prog _ _ _ _ = K
        rw [if_pos (by go_simp)]
        refine calm_min _ _ rfl rfl rfl ?_
        go_simp
        subst hK
        refine wpCalm_nil ?_
        rw [← HT2.out]
        generalize hu : ert s n j (c + 1) = u
        have HU := Hid.intro' hu.symm
        clear hu HT2
        intro W3 hb3
        have HE3 := Hid.intro' (HE2.out.next ((Below.refl W2.heap.size W2).drew.trans hb3))
        clear hb3 HE2 G1 GA GX GN
        go_wp2
        go_roundw
        case rel => exact ⟨c + 1, u, by omega, by omega, rfl, by go_num, HU, HE3⟩
        case measure => simp [intOf]; omega
    · have hcz : ¬ (c : Int) < (s.cs.length : Int) := by omega
      have HU : Hid (t = T0) := by
        show _ = _
        rw [HT.out, ← HT0.out, show c = s.cs.length by omega]
      clear HT
      go_wp2
      go_ret
      exact ⟨ret_int HU.out, HE.out.bel⟩
/-- what holds while the least cost is reckoned -/
structure Lz2 (W wr : World) (s : Sn) (n : Nn) (g : Nat) : Prop where
  n1 : KN wr W.heap.size (kc s n g)
  bel : Below W.heap.size W wr
theorem Lz2.next {wr w' : World} (h : Lz2 W wr s n g) (hb : Below wr.heap.size wr w') : Lz2 W w' s n g := ⟨h.n1.below' hb, below_class h.bel hb⟩
set_option maxRecDepth 100000 in
set_option maxHeartbeats 4000000 in
theorem kleast_any (ht : TC D W tb s vc vw vt) (ok : n.ok s) (hA : WR W g (wys s n)) :
    Calls Try.prog 78 #[.pointer (some ⟨tb, 0, none⟩), .agg (kc s n g).toArray] W fun e w' => e = .returned (.int .i64 (lsv s n.k n.b n.st)) ∧ Below W.heap.size W w' := by
  have hb0 := (Below.refl W.heap.size W).alloc (Nat.le_refl _) (.cells (kc s n g).toArray 127)
  have HL0 : Hid (Lz2 W (W.alloc (.cells (kc s n g).toArray 127)) s n g) := ⟨KN.new W (kc_length s n g), hb0⟩
  obtain ⟨aw, kw, rfl, _, _⟩ := ht.ws.form
  have c2 : (W.alloc (.cells (kc s n g).toArray 127)).cell? ⟨W.heap.size, 2, none⟩ = some (.int .i64 (RM.cst s.st s.ws s.cs n.b)) := HL0.out.n1.cell 2
  have c14 := (ht.below' hb0).c14
  have HEA : Hid (∀ (j : Nat) y, s.ws[j]? = some y → ∀ w', Below W.heap.size W w' → Calls Try.prog 93 #[.pointer (some ⟨tb, 0, none⟩), .agg (kc s n g).toArray, .agg #[.int .i64 y.1, .int .i64 y.2]] w' fun e w'' => e = .returned (.int .i64 (ert s n j s.cs.length)) ∧ Below w'.heap.size w' w'') := fun j y hy w' hw => kearliest_any (ht.below' hw) ok (hA.below' hw) hy
  have HOK := Hid.intro' ok
  have HT := Hid.intro' ht
  obtain ⟨n8, hrs⟩ := rgt_rs ht.rg
  have hwl : s.ws.length ≤ 128 := hrs.wl
  generalize hT : lsv s n.k n.b n.st = T
  have HTT := Hid.intro' hT
  obtain ⟨ct, HCT⟩ : ∃ ct, Hid (RM.cst s.st s.ws s.cs n.b = ct) := ⟨_, Hid.intro' rfl⟩
  rw [HCT.out] at c2
  clear ht hb0 ok hrs hT hA
  go_enter Try.func78, Try.ntmps78
  go_wp2_with fail
  clear c2 c14
  generalize W.alloc (.cells (kc s n g).toArray 127) = W1 at HL0 ⊢
  go_loopw [5, 17] (fun tv jv wr => ∃ (j : Nat) (t : Int), j ≤ s.ws.length ∧ tv = .int .i64 t ∧ jv = .int .i64 (j : Int) ∧ Hid (t = lsk s n.k n.b n.st j ∧ Lall s n j) ∧ Hid (Lz2 W wr s n g)) (fun _ jv _ => s.ws.length - (intOf jv).toNat)
  case atStart => exact ⟨0, ct, Nat.zero_le _, rfl, rfl, ⟨by rw [lsk_zero, HCT.out], lall_zero⟩, HL0⟩
  case round =>
    clear HL0
    obtain ⟨j, t, hj, rfl, rfl, HTJ, HL⟩ := hrel
    by_cases hlt : j < s.ws.length
    · have hjz : (j : Int) < (s.ws.length : Int) := by omega
      obtain ⟨y, hy⟩ : ∃ y, s.ws[j]? = some y := ⟨_, List.getElem?_eq_getElem hlt⟩
      obtain ⟨q, hq⟩ : ∃ q, n.st[j]? = some q := ⟨_, List.getElem?_eq_getElem (by rw [HOK.out.sl]; exact hlt)⟩
      obtain ⟨gw, ow, haw, w0, w1⟩ := (HT.out.below' HL.out.bel).ws.at hy
      subst haw
      have hja : j < 128 := by omega
      have hjb : (j : Int) < 128 := by omega
      have HL1 := Hid.intro' (HL.out.next ((Below.refl wr.heap.size wr).alloc (Nat.le_refl _) (.cells #[.int .i64 y.1, .int .i64 y.2] 58)))
      have c4 : (wr.alloc (.cells #[.int .i64 y.1, .int .i64 y.2] 58)).cell? ⟨W.heap.size, 4 + j, none⟩ = some (.bool q) := (HL1.out.n1.cell (4 + j)).trans (knc_at (pad_get (by rw [HOK.out.sl]; exact hwl) hq))
      cases q with
      | true =>
        have HT2 : Hid (t = lsk s n.k n.b n.st (j + 1) ∧ Lall s n (j + 1)) := ⟨by rw [lsk_same (by rw [hq]; simp), HTJ.out.1], lall_same HTJ.out.2 (by rw [hq]; simp)⟩
        clear hq hy HL
        go_wp2
        go_roundw
        case rel => exact ⟨j + 1, t, by omega, rfl, by go_num, HT2, HL1⟩
        case measure => simp [intOf]; omega
      | false =>
        have HQ := Hid.intro' hq
        have HEY := Hid.intro' (HEA.out j y hy)
        have HER := Hid.intro' (ert_end HOK.out j)
        have HN1 := Hid.intro' HL1.out.n1
        obtain ⟨E, HE⟩ : ∃ E, Hid (ert s n j s.cs.length = E) := ⟨_, Hid.intro' rfl⟩
        rw [HE.out] at HEY HER
        clear hq hy HL
        go_wp2_with (refine wpList_loadK rfl _ rfl W.heap.size _ rfl HN1.out ?_)
        refine (HEY.out _ HL1.out.bel).mono ?_
        rintro e V2 ⟨rfl, hb2⟩
        have HL2 := Hid.intro' (HL1.out.next hb2)
        clear hb2 HL1 HN1 HEY w0 w1 c4
        by_cases hE : E = 1099511627776
        · subst hE
          have HR : Hid ((1099511627776 : Int) = T) := by
            show _ = _
            rw [← HTT.out, lsk_limit HOK.out HQ.out hlt HER.out.symm]
          clear HTJ HER HE HQ
          go_wp2
          go_ret
          exact ⟨ret_int HR.out, HL2.out.bel⟩
        · obtain ⟨h1, h2, h3, h4, h5, h6⟩ := lall_more HOK.out HTJ.out.2 hja HQ.out (by rw [← HER.out]; exact hE)
          rw [← HTJ.out.1] at h2 h3 h4
          rw [← HER.out] at h2 h5 h6
          have hz : (E == 1099511627776) = false := by simpa using hE
          have hw1 : IntKind.i64.wrap (t + E) = t + E := IntWalk.i64_in _ (by omega)
          have HT2 : Hid (t + E = lsk s n.k n.b n.st (j + 1) ∧ Lall s n (j + 1)) := ⟨h2.symm, h1⟩
          clear h1 h2 h3 h4 h5 h6 HTJ HER HE HQ hE
          go_wp2
          go_roundw
          case rel => exact ⟨j + 1, t + E, by omega, rfl, by go_num, HT2, HL2⟩
          case measure => simp [intOf]; omega
    · have hjz : ¬ (j : Int) < (s.ws.length : Int) := by omega
      have HE : Hid (t = T) := by
        show _ = _
        rw [← HTT.out, ← lsk_end, HTJ.out.1, show j = s.ws.length by omega]
      go_wp2
      go_ret
      exact ⟨ret_int HE.out, HL.out.bel⟩
end
end Go.Proofs.Ytagmidolcdefiah

/- Parts of lists; a pair that is typed; a bit. -/
namespace Go.Proofs.Ytagmidolcdefiah
open Go.RowKit
/-- the first numbers of a list -/
theorem RI.cut {D : Nat → Prop} {W : World} {a : Option Addr} {n cap j : Nat} {l : List Int} (h : RI D W (.slice a n cap) l) (hj : j ≤ l.length) : RI D W (.slice a j cap) (l.take j) := by
  obtain ⟨a', c, e, h1, h2, h3⟩ := h
  cases e
  have hlen : (l.take j).length = j := by rw [List.length_take]; omega
  refine ⟨_, _, by rw [hlen], by omega, h2, ?_⟩
  rcases h3 with h3 | ⟨g', o', e, hd, hlt, h4⟩
  · left; rw [h3]; simp
  · cases e
    exact .inr ⟨g', o', rfl, hd, hlt, fun i x hx => h4 i x (by
      rw [List.getElem?_take] at hx
      split at hx
      · exact hx
      · cases hx)⟩
theorem slice_cut (aa : Option Addr) (La ac n : Nat) (w : World) (hn : n ≤ ac) : (Instr.sliceAt 55 (.slice aa La ac) none (some (.int .i64 (n : Int))) none).run Try.prog w = .ok (.slice aa n ac) w := by
  have h1 : (n : Int) ≤ (ac : Int) := by omega
  cases aa <;> simp [go_sem, h1]
theorem calm_cut {W0 : World} {K : Act → Prop} {o : Oper} {a : Act} (x y : Operand) {aa : Option Addr} {n cap j : Nat} (ho : o.op = .slice 55 x none (some y) none) (hx : a.eval x = .slice aa n cap) (hy : a.eval y = .int .i64 (j : Int)) (hj : j ≤ cap)
    (h : K (a.put o.dst (.slice aa j cap))) : Oper.calm Try.prog W0 o a K :=
  calm_val _ (fun w hw => by unfold execOp; simp only [ho, hx, hy, Option.map_none, Option.map_some, Sem.run_bind, Sem.run_pure, Result.andThen_ok, slice_cut aa n cap j w hj]) h
/-- where the rest of a row begins -/
def restA (a : Option Addr) (cap j : Nat) : Option Addr := if cap = j then a else a.map fun x => x.add j
/-- the last numbers of a list -/
theorem RI.rest {D : Nat → Prop} {W : World} {a : Option Addr} {n cap j : Nat} {l : List Int} (h : RI D W (.slice a n cap) l) (hj : j ≤ l.length) : RI D W (.slice (restA a cap j) (n - j) (cap - j)) (l.drop j) := by
  obtain ⟨a', c, e, h1, h2, h3⟩ := h
  cases e
  have hlen : (l.drop j).length = l.length - j := List.length_drop
  refine ⟨_, _, by rw [hlen], by omega, fun e => by
    unfold restA at e
    split at e
    · omega
    · cases a with
      | none => have := h2 rfl; omega
      | some x => simp at e, ?_⟩
  by_cases hcj : cap = j
  · left
    rw [List.drop_eq_nil_iff]; omega
  · rcases h3 with h3 | ⟨g', o', e, hd, hlt, h4⟩
    · left; rw [h3]; simp
    · cases e
      refine .inr ⟨g', o' + j, by unfold restA; rw [if_neg hcj, Option.map_some, Addr.add_mid], hd, hlt, fun i x hx => ?_⟩
      rw [List.getElem?_drop] at hx
      rw [Nat.add_assoc]
      exact h4 (j + i) x hx
theorem slice_rest (aa : Option Addr) (La ac n : Nat) (w : World) (hn : n ≤ La) : (Instr.sliceAt 55 (.slice aa La ac) (some (.int .i64 (n : Int))) none none).run Try.prog w = .ok (.slice (restA aa ac n) (La - n) (ac - n)) w := by
  have h1 : (n : Int) ≤ (La : Int) := by omega
  unfold restA
  cases aa with
  | none => simp [go_sem, h1]
  | some x =>
    by_cases e : ac = n
    · simp [go_sem, h1, e]
    · simp [go_sem, h1, e]
theorem calm_rest {W0 : World} {K : Act → Prop} {o : Oper} {a : Act} (x y : Operand) {aa : Option Addr} {n cap j : Nat} (ho : o.op = .slice 55 x (some y) none none) (hx : a.eval x = .slice aa n cap) (hy : a.eval y = .int .i64 (j : Int)) (hj : j ≤ n)
    (h : K (a.put o.dst (.slice (restA aa cap j) (n - j) (cap - j)))) : Oper.calm Try.prog W0 o a K :=
  calm_val _ (fun w hw => by unfold execOp; simp only [ho, hx, hy, Option.map_none, Option.map_some, Sem.run_bind, Sem.run_pure, Result.andThen_ok, slice_rest aa n cap j w hj]) h
end Go.Proofs.Ytagmidolcdefiah

/- Bytes that are read, in blocks of D. -/
namespace Go.Proofs.Ytagmidolcdefiah
open Go.RowKit Go.Shelf
/-- these are bytes -/
def Byt (l : List Nat) : Prop := ∀ x ∈ l, x < 256
theorem Byt.drop {l : List Nat} (h : Byt l) (k : Nat) : Byt (l.drop k) := fun x hx => h x (List.mem_of_mem_drop hx)
theorem Byt.take {l : List Nat} (h : Byt l) (k : Nat) : Byt (l.take k) := fun x hx => h x (List.mem_of_mem_take hx)
/-- a slice that reads as bytes, in blocks of D -/
def RY (D : Nat → Prop) (W : World) (v : Value) (l : List Nat) : Prop :=
  Byt l ∧ ∃ a cap, v = .slice a l.length cap ∧ l.length ≤ cap ∧ (cap ≤ maxLen ∧ (a = none → cap = 0)) ∧ (l = [] ∨ ∃ g o, a = some ⟨g, o, none⟩ ∧ D g ∧ g < W.heap.size ∧ ∀ (i : Nat) x, l[i]? = some x → W.cell? ⟨g, o + i, none⟩ = some (.int .u8 (x : Int)))
section
variable {D D' : Nat → Prop} {W W' : World} {v : Value} {l : List Nat}
theorem RY.keep (h : RY D W v l) (hs : W.heap.size ≤ W'.heap.size) (hk : ∀ g, D g → g < W.heap.size → W'.heap[g]? = W.heap[g]?) : RY D W' v l := by
  obtain ⟨hB, a, cap, rfl, hc, hm, h⟩ := h
  refine ⟨hB, a, cap, rfl, hc, hm, ?_⟩
  rcases h with h | ⟨g, o, rfl, hd, hlt, h⟩
  · exact .inl h
  · exact .inr ⟨g, o, rfl, hd, Nat.lt_of_lt_of_le hlt hs, fun i y hy => (World.cell?_of_block (a := ⟨g, o + i, none⟩) (hk g hd hlt)).trans (h i y hy)⟩
theorem RY.below' (h : RY D W v l) (hb : Below W.heap.size W W') : RY D W' v l := h.keep hb.size fun g _ hlt => hb.block g hlt
theorem RY.alloc (h : RY D W v l) (o : Obj) : RY D (W.alloc o) v l := h.below' ((Below.refl _ _).alloc (Nat.le_refl _) o)
theorem RY.mono (h : RY D W v l) (hD : ∀ g, D g → g < W.heap.size → (∃ o : Obj, W.heap[g]? = some o ∧ o.isCells = true) → D' g) : RY D' W v l := by
  obtain ⟨hB, a, cap, rfl, hc, hn, h⟩ := h
  refine ⟨hB, a, cap, rfl, hc, hn, ?_⟩
  rcases h with h | ⟨g, o, rfl, hd, hlt, h⟩
  · exact .inl h
  · cases l with
    | nil => exact .inl rfl
    | cons y l => exact .inr ⟨g, o, rfl, hD g hd hlt (cells_of_cell (h 0 y rfl)), hlt, h⟩
theorem RY.nil (D : Nat → Prop) (W : World) : RY D W (.slice none 0 0) [] := ⟨fun x hx => by simp at hx, none, 0, rfl, Nat.le_refl _, ⟨Nat.zero_le _, fun _ => rfl⟩, .inl rfl⟩
theorem RY.form (h : RY D W v l) : ∃ a cap, v = .slice a l.length cap ∧ l.length ≤ cap ∧ cap ≤ maxLen ∧ (a = none → cap = 0) := by
  obtain ⟨_, a, cap, h1, h2, hm, _⟩ := h
  exact ⟨a, cap, h1, h2, hm.1, hm.2⟩
theorem RY.len {a : Option Addr} {n cap : Nat} (h : RY D W (.slice a n cap) l) : n = l.length := by
  obtain ⟨_, a', cap', e, _⟩ := h
  cases e; rfl
theorem RY.at {a : Option Addr} {n cap : Nat} (h : RY D W (.slice a n cap) l) {i x : Nat} (hi : l[i]? = some x) : ∃ g o, a = some ⟨g, o, none⟩ ∧ W.cell? ⟨g, o + i, none⟩ = some (.int .u8 (x : Int)) := by
  obtain ⟨_, a', cap', e, _, _, h⟩ := h
  cases e
  rcases h with h | ⟨g, o, rfl, _, _, h⟩
  · rw [h] at hi; simp at hi
  · exact ⟨g, o, rfl, h i x hi⟩
/-- where it lies, if it isn't empty -/
theorem RY.lies {a : Option Addr} {n cap : Nat} (h : RY D W (.slice a n cap) l) (hl : l ≠ []) : ∃ g o, a = some ⟨g, o, none⟩ ∧ D g ∧ g < W.heap.size ∧ ∀ (i : Nat) x, l[i]? = some x → W.cell? ⟨g, o + i, none⟩ = some (.int .u8 (x : Int)) := by
  obtain ⟨_, a', cap', e, _, _, h⟩ := h
  cases e
  rcases h with h | h
  · exact absurd h hl
  · exact h
/-- the first bytes -/
theorem RY.cut {a : Option Addr} {n cap j : Nat} (h : RY D W (.slice a n cap) l) (hj : j ≤ l.length) : RY D W (.slice a j cap) (l.take j) := by
  obtain ⟨hB, a', c, e, h1, h2, h3⟩ := h
  cases e
  have hlen : (l.take j).length = j := by rw [List.length_take]; omega
  refine ⟨hB.take j, _, _, by rw [hlen], by omega, h2, ?_⟩
  rcases h3 with h3 | ⟨g', o', e, hd, hlt, h4⟩
  · left; rw [h3]; simp
  · cases e
    exact .inr ⟨g', o', rfl, hd, hlt, fun i x hx => h4 i x (by
      rw [List.getElem?_take] at hx
      split at hx
      · exact hx
      · cases hx)⟩
/-- the last bytes -/
theorem RY.rest {a : Option Addr} {n cap j : Nat} (h : RY D W (.slice a n cap) l) (hj : j ≤ l.length) : RY D W (.slice (restA a cap j) (n - j) (cap - j)) (l.drop j) := by
  obtain ⟨hB, a', c, e, h1, h2, h3⟩ := h
  cases e
  have hlen : (l.drop j).length = l.length - j := List.length_drop
  refine ⟨hB.drop j, _, _, by rw [hlen], by omega, ⟨by have := h2.1; omega, fun e => by
    unfold restA at e
    split at e
    · omega
    · cases a with
      | none => have := h2.2 rfl; omega
      | some x => simp at e⟩, ?_⟩
  by_cases hcj : cap = j
  · left
    rw [List.drop_eq_nil_iff]; omega
  · rcases h3 with h3 | ⟨g', o', e, hd, hlt, h4⟩
    · left; rw [h3]; simp
    · cases e
      refine .inr ⟨g', o' + j, by unfold restA; rw [if_neg hcj, Option.map_some, Addr.add_mid], hd, hlt, fun i x hx => ?_⟩
      rw [List.getElem?_drop] at hx
      rw [Nat.add_assoc]
      exact h4 (j + i) x hx
theorem OY.ry {B : Nat} (h : OY W B v l) (hb : Byt l) (hD : ∀ g, v.ownBlock = some g → D g) : RY D W v l := by
  rcases h.form with ⟨rfl, rfl⟩ | ⟨g, cap, rfl, _, hlt, hc, hm⟩
  · exact RY.nil _ _
  · exact ⟨hb, _, cap, rfl, hc, ⟨hm, fun e => by cases e⟩, .inr ⟨g, 0, rfl, hD g rfl, hlt, fun i x hx => by rw [Nat.zero_add]; exact h.cell hx⟩⟩
end
theorem ixY (W : World) {a : Option Addr} {g o n cap j : Nat} (ha : a = some ⟨g, o, none⟩) (hj : j < n) : (Instr.indexAt 33 (.slice a n cap) (.int .i64 (j : Int))).run Try.prog W = .ok (.pointer (some ⟨g, o + j, none⟩)) W := by
  subst ha
  rw [run_indexAt_slice W 33 _ n cap .i64 j (by kernel_rfl), if_pos ⟨by omega, by omega⟩, show Try.prog.elem 33 = 5 by kernel_rfl, Try.sizeOf5]
  simp only [Result.andThen_ok, Int.toNat_natCast, Addr.add_mid, Nat.mul_one]
theorem sliceY_rest (aa : Option Addr) (La ac n : Nat) (w : World) (hn : n ≤ La) : (Instr.sliceAt 33 (.slice aa La ac) (some (.int .i64 (n : Int))) none none).run Try.prog w = .ok (.slice (restA aa ac n) (La - n) (ac - n)) w := by
  have h1 : (n : Int) ≤ (La : Int) := by omega
  unfold restA
  cases aa with
  | none => simp [go_sem, h1]
  | some x =>
    by_cases e : ac = n
    · simp [go_sem, h1, e]
    · simp [go_sem, h1, e]
theorem sliceY_cut (aa : Option Addr) (La ac n : Nat) (w : World) (hn : n ≤ ac) : (Instr.sliceAt 33 (.slice aa La ac) none (some (.int .i64 (n : Int))) none).run Try.prog w = .ok (.slice aa n ac) w := by
  have h1 : (n : Int) ≤ (ac : Int) := by omega
  cases aa <;> simp [go_sem, h1]
theorem loadY (w : World) (b o : Nat) (v : Value) (h : w.cell? ⟨b, o, none⟩ = some v) : (Instr.loadAt 5 (.pointer (some ⟨b, o, none⟩))).run Try.prog w = .ok v w := by simp [go_sem, h]
section
variable {W0 : World} {K : Act → Prop} {o : Oper} {a : Act}
theorem calm_loadY (x : Operand) (b k : Nat) {v : Value} (ho : o.op = .load 5 x) (hx : a.eval x = .pointer (some ⟨b, k, none⟩)) (hr : ∀ w, Below W0.heap.size W0 w → w.cell? ⟨b, k, none⟩ = some v)
    (h : K (a.put o.dst v)) : Oper.calm Try.prog W0 o a K :=
  calm_val _ (fun w hw => by unfold execOp; simp only [ho, hx, Sem.run_bind, Sem.run_pure, Result.andThen_ok, loadY w b k v (hr w hw)]) h
theorem calm_ixY (x y : Operand) {g f n cap j : Nat} (ho : o.op = .indexAddr 33 x y) (hx : a.eval x = .slice (some ⟨g, f, none⟩) n cap) (hy : a.eval y = .int .i64 (j : Int)) (hj : j < n)
    (h : K (a.put o.dst (.pointer (some ⟨g, f + j, none⟩)))) : Oper.calm Try.prog W0 o a K :=
  calm_val _ (fun w hw => by unfold execOp; simp only [ho, hx, hy, Sem.run_bind, Sem.run_pure, Result.andThen_ok, ixY w rfl hj]) h
theorem calm_ixYz (x y : Operand) {g f n cap : Nat} {z : Int} (j : Nat) (hz : z = (j : Int)) (ho : o.op = .indexAddr 33 x y) (hx : a.eval x = .slice (some ⟨g, f, none⟩) n cap) (hy : a.eval y = .int .i64 z) (hj : j < n)
    (h : K (a.put o.dst (.pointer (some ⟨g, f + j, none⟩)))) : Oper.calm Try.prog W0 o a K := by
  subst hz
  exact calm_ixY x y ho hx hy hj h
end
theorem i64_byt {x : Nat} (h : x < 256) : IntKind.i64.wrap (x : Int) = (x : Int) := by rw [IntKind.wrap_i64]; omega
/-- a plan that grows list by list: its row is owned, its lists lie elsewhere -/
def OQ (W : World) (B : Nat) (v : Value) (p : List (List Int)) : Prop := ∃ us, OP W B v us ∧ us.length = p.length ∧ ∀ (i : Nat) u l, us[i]? = some u → p[i]? = some l → RI (fun g => B ≤ g ∧ v.ownBlock ≠ some g) W u l
section
variable {W W' : World} {B : Nat} {v : Value} {p : List (List Int)}
theorem OQ.nil (W : World) (B : Nat) : OQ W B (.slice none 0 0) [] := ⟨[], World.ownsRow_nil W B _ 1, rfl, fun i u l hu => by simp at hu⟩
theorem OQ.keep (h : OQ W B v p) (hs : W.heap.size ≤ W'.heap.size) (hk : ∀ g, B ≤ g → g < W.heap.size → W'.heap[g]? = W.heap[g]?) : OQ W' B v p := by
  obtain ⟨us, h1, h2, h3⟩ := h
  exact ⟨us, h1.keep fun g hg => hk g (h1.lt g hg).1 (h1.lt g hg).2, h2, fun i u l hu hl => (h3 i u l hu hl).keep hs fun g hg hlt => hk g hg.1 hlt⟩
theorem OQ.next (h : OQ W B v p) (hb : Below W.heap.size W W') : OQ W' B v p := h.keep hb.size fun g _ hlt => hb.block g hlt
theorem OQ.form (h : OQ W B v p) : ∃ a c, v = .slice a p.length c := by
  obtain ⟨us, h1, h2, _⟩ := h
  rcases h1.2 with ⟨h3, h4⟩ | ⟨g, cap, cur, h3, _⟩
  · exact ⟨none, 0, by rw [h3, ← h2, h4]⟩
  · exact ⟨_, cap, by rw [h3, h2]⟩
theorem OQ.rl (h : OQ W B v p) : RL (fun g => B ≤ g) W v p := by
  obtain ⟨us, h1, h2, h3⟩ := h
  rcases h1.2 with ⟨h4, h5⟩ | ⟨g, cap, cur, h4, _⟩
  · have : p = [] := List.length_eq_zero_iff.1 (by omega)
    subst this
    rw [h4]
    exact RL.nil _ _
  · subst h4
    have := (h1.lt g rfl).1
    rw [show (us.length : Nat) = us.length from rfl]
    exact h1.rl this h2 fun i u l hu hl => (h3 i u l hu hl).mono fun _ h _ _ => h.1
/-- one list more -/
theorem OQ.snoc {us : List Value} {u v' : Value} {l : List Int} {g' : Nat} (h2 : us.length = p.length) (h3 : ∀ (i : Nat) u l, us[i]? = some u → p[i]? = some l → RI (fun g => B ≤ g ∧ v.ownBlock ≠ some g) W u l) (hu : RI (fun g => B ≤ g ∧ v.ownBlock ≠ some g) W u l) (ho : OP W' B v' (us ++ [u])) (hg : W.grownBy W' v.ownBlock) (hv : v'.ownBlock = some g') (hor : v.ownBlock = some g' ∨ g' = W.heap.size) : OQ W' B v' (p ++ [l]) := by
  have key : ∀ u l, RI (fun g => B ≤ g ∧ v.ownBlock ≠ some g) W u l → RI (fun g => B ≤ g ∧ v'.ownBlock ≠ some g) W' u l := fun u l hr => by
    have h4 := hr.mono (D' := fun g => (B ≤ g ∧ v'.ownBlock ≠ some g) ∧ v.ownBlock ≠ some g) fun g hg hlt _ => ⟨⟨hg.1, fun e => by
      rw [hv] at e
      cases e
      rcases hor with e | e
      · exact hg.2 e
      · omega⟩, hg.2⟩
    exact (h4.keep hg.size fun g h5 hlt => hg.block g hlt (fun e => h5.2 e.symm)).mono fun g h _ _ => h.1
  refine ⟨us ++ [u], ho, by rw [List.length_append, List.length_append, h2]; rfl, fun i x m hx hm => ?_⟩
  by_cases hi : i < us.length
  · rw [List.getElem?_append_left hi] at hx
    rw [List.getElem?_append_left (by omega)] at hm
    exact key x m (h3 i x m hx hm)
  · rw [List.getElem?_append_right (by omega)] at hx hm
    rw [h2] at hx
    cases hk : i - p.length with
    | zero =>
      rw [hk] at hx hm
      cases hx
      cases hm
      exact key u l hu
    | succ j => rw [hk] at hx; simp at hx
end
end Go.Proofs.Ytagmidolcdefiah

/- What is left of a proof, in memory: some bytes are taken. -/
namespace Go.Proofs.Ytagmidolcdefiah
open Go.RowKit Go.Shelf
/-- a block that holds what is left to be read -/
def RB (W : World) (b : Nat) (v : Value) : Prop := W.heap[b]? = some (.cells #[v] 68 (0, 0))
/-- what is left, and its bytes -/
structure RR (W : World) (b : Nat) (r : List Nat) : Prop where
  bl : ∃ v, RB W b v ∧ RY (fun g => g < b) W v r
section
variable {W W' : World} {b : Nat} {v : Value} {r : List Nat}
theorem RB.lt (H : RB W b v) : b < W.heap.size := (Array.getElem?_eq_some_iff.1 H).1
theorem RB.below' (H : RB W b v) (hb : Below W.heap.size W W') : RB W' b v := (hb.block b H.lt).trans H
theorem RB.cell (H : RB W b v) : W.cell? ⟨b, 0, none⟩ = some v := (blk_cell (C := [v]) H 0).trans rfl
theorem RB.fr (H : RB W b v) : W.frozen? ⟨b, 0, none⟩ = false := blk_fr (C := [v]) H 0
theorem RB.put (H : RB W b v) (u : Value) : RB (W.setCell ⟨b, 0, none⟩ u) b u := blk_set (C := [v]) H 0 u
theorem RB.new (W : World) (v : Value) : RB (W.alloc (.cells #[v] 68)) W.heap.size v := World.alloc_heap_new W _
theorem RR.lt (h : RR W b r) : b < W.heap.size := by
  obtain ⟨v, h1, _⟩ := h.bl
  exact h1.lt
theorem RR.below' (h : RR W b r) (hb : Below W.heap.size W W') : RR W' b r := by
  obtain ⟨v, h1, h2⟩ := h.bl
  exact ⟨v, h1.below' hb, h2.below' hb⟩
theorem RR.kp {G : Nat → Prop} (h : RR W b r) (k : Kp G W W') (hG : ∀ i, i < W.heap.size → ¬ G i) : RR W' b r := h.below' (k.toBelow (Nat.le_refl _) hG)
theorem RR.far {G : Nat → Prop} (h : RR W b r) (k : Kp G W W') (hG : ∀ i, G i → b < i) : RR W' b r := by
  obtain ⟨v, h1, h2⟩ := h.bl
  exact ⟨v, (k.block b h1.lt (fun e => Nat.lt_irrefl _ (hG b e))).trans h1, h2.keep k.size fun g hg hlt => k.block g hlt (fun e => by have := hG g e; omega)⟩
theorem RR.byt (h : RR W b r) : Byt r := by
  obtain ⟨v, _, h2⟩ := h.bl
  exact h2.1
end
theorem sliceY_three (aa : Option Addr) (La ac n : Nat) (w : World) (hn : n ≤ ac) : (Instr.sliceAt 33 (.slice aa La ac) none (some (.int .i64 (n : Int))) (some (.int .i64 (n : Int)))).run Try.prog w = .ok (.slice aa n n) w := by
  have h1 : (n : Int) ≤ (ac : Int) := by omega
  cases aa <;> simp [go_sem, h1]
theorem RY.three {D : Nat → Prop} {W : World} {a : Option Addr} {n cap j : Nat} {l : List Nat} (h : RY D W (.slice a n cap) l) (hj : j ≤ l.length) : RY D W (.slice a j j) (l.take j) := by
  obtain ⟨hB, a', c, e, h1, h2, h3⟩ := h
  cases e
  have hlen : (l.take j).length = j := by rw [List.length_take]; omega
  refine ⟨hB.take j, _, _, by rw [hlen], by omega, ⟨by have := h2.1; omega, fun e => by have := h2.2 e; omega⟩, ?_⟩
  rcases h3 with h3 | ⟨g', o', e, hd, hlt, h4⟩
  · left; rw [h3]; simp
  · cases e
    exact .inr ⟨g', o', rfl, hd, hlt, fun i x hx => h4 i x (by
      rw [List.getElem?_take] at hx
      split at hx
      · exact hx
      · cases hx)⟩
section
variable {W : World} {b : Nat} {r : List Nat}
set_option maxHeartbeats 2000000 in
theorem ktake_no (h : RR W b r) {n : Nat} (hn : r.length < n) : Calls Try.prog 51 #[.pointer (some ⟨b, 0, none⟩), .int .i64 (n : Int)] W fun e w' => e = .returned (.tuple #[.slice none 0 0, .bool false]) ∧ w' = W := by
  obtain ⟨v, h1, h2⟩ := h.bl
  obtain ⟨a, k, rfl, _, _, _⟩ := h2.form
  have c0 := h1.cell
  have q : (r.length : Int) < (n : Int) := by omega
  clear h h1 h2
  go_enter Try.func51, Try.ntmps51
  go_wp2
  go_ret2
  exact ⟨rfl, rfl⟩
set_option maxHeartbeats 2000000 in
theorem ktake_yes (h : RR W b r) {n : Nat} (hn : n ≤ r.length) : Calls Try.prog 51 #[.pointer (some ⟨b, 0, none⟩), .int .i64 (n : Int)] W fun e w' => ∃ a, e = .returned (.tuple #[.slice a n n, .bool true]) ∧ RY (fun g => g < b) w' (.slice a n n) (r.take n) ∧ RR w' b (r.drop n) ∧ Kp (fun i => i = b) W w' := by
  obtain ⟨v, h1, h2⟩ := h.bl
  obtain ⟨a, k, rfl, hk, _, _⟩ := h2.form
  have c0 := h1.cell
  have f0 := h1.fr
  have q : ¬ (r.length : Int) < (n : Int) := by omega
  have s1 := sliceY_three a r.length k n W (by omega)
  have s2 := sliceY_rest a r.length k n W hn
  have kp : Kp (fun i => i = b) W (W.setCell ⟨b, 0, none⟩ (.slice (restA a k n) (r.length - n) (k - n))) := (Kp.refl (fun i => i = b) W).set _ _ _ (fun _ => rfl)
  have HE : Hid (RY (fun g => g < b) (W.setCell ⟨b, 0, none⟩ (.slice (restA a k n) (r.length - n) (k - n))) (.slice a n n) (r.take n) ∧ RR (W.setCell ⟨b, 0, none⟩ (.slice (restA a k n) (r.length - n) (k - n))) b (r.drop n) ∧ Kp (fun i => i = b) W (W.setCell ⟨b, 0, none⟩ (.slice (restA a k n) (r.length - n) (k - n)))) :=
    ⟨(h2.three hn).keep kp.size fun g hg hlt => kp.block g hlt (Nat.ne_of_lt hg), ⟨_, h1.put _, (h2.rest hn).keep kp.size fun g hg hlt => kp.block g hlt (Nat.ne_of_lt hg)⟩, kp⟩
  clear h h1 h2 kp
  generalize restA a k n = ra at HE s2
  generalize r.length - n = rn at HE s2
  generalize k - n = rk at HE s2
  go_enter Try.func51, Try.ntmps51
  go_wp2
  go_ret2
  exact ⟨a, rfl, HE.out⟩
end
end Go.Proofs.Ytagmidolcdefiah

/- A check's tree: the marks are looked at, node by node. -/
namespace Go.Proofs.Ytagmidolcdefiah
open Go.RowKit Go.Shelf
/-- what a node's marks leave -/
def cvm (s : Sn) (c : Int) (n : Nn) (r : List Nat) : Option (List Nat) := cvi s c n.m n.k n.b n.st r
/-- what its children's leave -/
def cvb (s : Sn) (c : Int) (n : Nn) (r : List Nat) : Option (List Nat) := cnx (cvi s c (n.m - 1)) n.k n.b n.st (ckd s (cvi s c (n.m - 1)) n.k n.b n.st (lfs s n.st) (some r))
def cvk (s : Sn) (c : Int) (n : Nn) (j : Nat) (r : List Nat) : Option (List Nat) := ckd s (cvi s c (n.m - 1)) n.k n.b n.st (lfk n.st j) (some r)
section
variable {s : Sn} {c : Int} {n : Nn} {r : List Nat}
theorem ok_m (h : n.ok s) : n.m = n.m - 1 + 1 := by
  have := h.kl
  unfold Nn.m
  omega
theorem cvm_nil (h : n.ok s) : cvm s c n [] = none := by unfold cvm; rw [ok_m h]; rfl
theorem cvm_eq (h : n.ok s) (m : Nat) : cvm s c n (m :: r) = if 2 < m ∨ (m = 1 ∧ lfs s n.st = []) ∨ (m = 2 ∧ lfs s n.st ≠ []) then none
    else if m ≠ 1 then (if c ≤ lsv s n.k n.b n.st then some r else none) else cvb s c n r := by
  unfold cvm
  rw [ok_m h]
  exact cvs_cons (cvi s c (n.m - 1)) m r
theorem cvk_skip {j : Nat} (hs : ¬ (n.st[j]? = some false ∧ mayk s n.k (j : Int) = true)) : cvk s c n (j + 1) r = cvk s c n j r := by
  unfold cvk
  rw [lfk_succ]
  split
  · rename_i h
    rw [ckd_append, ckd_cons, if_neg (fun g => hs ⟨h, g⟩)]; rfl
  · rw [List.append_nil]
theorem cvk_go {j : Nat} (h1 : n.st[j]? = some false) (h2 : mayk s n.k (j : Int) = true) : cvk s c n (j + 1) r = (cvk s c n j r).bind (cvm s c (grw n j)) := by
  have := grw_m n h1
  unfold cvk cvm
  rw [lfk_succ, if_pos h1, ckd_append, ckd_cons, if_pos h2, show (grw n j).m = n.m - 1 by omega, Int.toNat_natCast]
  rfl
theorem cvk_none {j : Nat} (h : cvk s c n j r = none) : ∀ i, cvk s c n (j + i) r = none
  | 0 => h
  | i + 1 => by
    have ih := cvk_none h i
    by_cases hc : n.st[j + i]? = some false ∧ mayk s n.k ((j + i : Nat) : Int) = true
    · rw [← Nat.add_assoc, cvk_go hc.1 hc.2, ih]; rfl
    · rw [← Nat.add_assoc, cvk_skip hc, ih]
theorem cvb_none {j : Nat} (hj : j ≤ s.ws.length) (h : cvk s c n j r = none) : cvb s c n r = none := by
  have := cvk_none h (s.ws.length - j)
  rw [show j + (s.ws.length - j) = s.ws.length by omega] at this
  unfold cvb lfs
  unfold cvk at this
  rw [this, cnx_none]
theorem cvb_last {r' : List Nat} (h : cvk s c n s.ws.length r = some r') (hk : ¬ n.k + 1 < n.b.length) : cvb s c n r = some r' := by
  unfold cvb lfs
  unfold cvk at h
  rw [h]
  unfold cnx
  rw [if_neg hk]
theorem cvb_next {r' : List Nat} (h : cvk s c n s.ws.length r = some r') (hk : n.k + 1 < n.b.length) : cvb s c n r = cvm s c (nxc n) r' := by
  have := nxc_m n hk
  unfold cvb lfs cvm
  unfold cvk at h
  rw [h, show (nxc n).m = n.m - 1 by omega]
  unfold cnx
  rw [if_pos hk]; rfl
end
/-- what looking gives -/
structure Lop (o : Option (List Nat)) (mb : Nat) (W : World) (e : Ending) (w' : World) : Prop where
  kp : Kp (fun i => i = mb) W w'
  out : (∃ r, o = some r ∧ e = .returned (.bool true) ∧ RR w' mb r) ∨ (o = none ∧ e = .returned (.bool false))
/-- all that looking goes by -/
structure Lin (W : World) (mb : Nat) (s : Sn) (n : Nn) (tb g : Nat) (vc vw vt : Value) (r : List Nat) : Prop where
  tr : TC (fun i => i ≠ mb) W tb s vc vw vt
  ok : n.ok s
  row : WR W g (wys s n)
  gm : g ≠ mb
  rr : RR W mb r
/-- looking at nodes of so much behind them -/
def Lok (s : Sn) (c : Int) (f : Nat) : Prop := ∀ (W : World) (mb : Nat) (n : Nn) (tb g : Nat) (vc vw vt : Value) (r : List Nat), n.m ≤ f → Lin W mb s n tb g vc vw vt r →
  Calls Try.prog 61 #[.pointer (some ⟨tb, 0, none⟩), .agg (kc s n g).toArray, .int .i64 c, .pointer (some ⟨mb, 0, none⟩)] W fun e w' => Lop (cvm s c n r) mb W e w'
/-- what holds while the children are looked at -/
structure Vz (W wr : World) (mb : Nat) (s : Sn) (n : Nn) (tb g : Nat) (vc vw vt : Value) (r : List Nat) : Prop where
  li : Lin wr mb s n tb g vc vw vt r
  nd : KN wr W.heap.size (kc s n g)
  qm : W.heap.size ≠ mb
  kp : Kp (fun i => i = mb) W wr
section
variable {W wr w' : World} {mb tb g : Nat} {s : Sn} {n : Nn} {vc vw vt : Value} {r r' : List Nat} {c : Int}
theorem Lin.next (h : Lin W mb s n tb g vc vw vt r) (hb : Below W.heap.size W w') : Lin w' mb s n tb g vc vw vt r := ⟨h.tr.below' hb, h.ok, h.row.below' hb, h.gm, h.rr.below' hb⟩
theorem Lin.kp (h : Lin W mb s n tb g vc vw vt r) (k : Kp (fun i => i = mb) W w') (hr : RR w' mb r') : Lin w' mb s n tb g vc vw vt r' := ⟨h.tr.kp k (fun _ h => h), h.ok, h.row.kp k h.gm, h.gm, hr⟩
theorem Vz.next (h : Vz W wr mb s n tb g vc vw vt r) (hb : Below wr.heap.size wr w') : Vz W w' mb s n tb g vc vw vt r := ⟨h.li.next hb, h.nd.below' hb, h.qm, h.kp.thenBelow hb⟩
theorem Vz.look (h : Vz W wr mb s n tb g vc vw vt r) (k : Kp (fun i => i = mb) wr w') (hr : RR w' mb r') : Vz W w' mb s n tb g vc vw vt r' := ⟨h.li.kp k hr, h.nd.kp k h.qm, h.qm, h.kp.trans k (fun _ _ h => h)⟩
theorem Vz.new (h : Lin W mb s n tb g vc vw vt r) : Vz W (W.alloc (.cells (kc s n g).toArray 127)) mb s n tb g vc vw vt r :=
  ⟨h.next ((Below.refl _ _).alloc (Nat.le_refl _) _), KN.new W (kc_length s n g), by have := h.rr.lt; omega, (Kp.refl _ W).alloc _⟩
set_option maxRecDepth 100000 in
set_option maxHeartbeats 4000000 in
theorem klookBehind_any {f : Nat} (hL : Lok s c f) (hm : n.m ≤ f + 1) (h : Lin W mb s n tb g vc vw vt r) :
    Calls Try.prog 79 #[.pointer (some ⟨tb, 0, none⟩), .agg (kc s n g).toArray, .int .i64 c, .pointer (some ⟨mb, 0, none⟩)] W fun e w' => Lop (cvb s c n r) mb W e w' := by
  have HV0 := Hid.intro' (Vz.new h)
  obtain ⟨aw, kw, rfl, _, _⟩ := h.tr.ws.form
  have c14 := HV0.out.li.tr.c14
  have HOK := Hid.intro' h.ok
  obtain ⟨n8, hrs⟩ := rgt_rs h.tr.rg
  have HRS := Hid.intro' hrs
  have hwl : s.ws.length ≤ 128 := hrs.wl
  have hN : s.cs.length ≤ 8 := by have := hrs.cl; have := hrs.n8; omega
  have hkc : n.k < s.cs.length := by have := h.ok.kl; have := h.ok.bl; omega
  have HLK := Hid.intro' hL
  have HM := Hid.intro' hm
  obtain ⟨o, HO⟩ : ∃ o, Hid (cvb s c n r = o) := ⟨_, Hid.intro' rfl⟩
  rw [HO.out]
  have HC0 : Hid (cvk s c n 0 r = some r) := rfl
  clear h hrs hL hm
  go_enter Try.func79, Try.ntmps79
  go_wp2_with fail
  clear c14
  generalize W.alloc (.cells (kc s n g).toArray 127) = W1 at HV0 ⊢
  go_loopw [17] (fun jv wr => ∃ (j : Nat) (rj : List Nat), j ≤ s.ws.length ∧ jv = .int .i64 (j : Int) ∧ Hid (cvk s c n j r = some rj) ∧ Hid (Vz W wr mb s n tb g vc (.slice aw s.ws.length kw) vt rj)) (fun jv _ => s.ws.length - (intOf jv).toNat)
  case atStart => exact ⟨0, r, Nat.zero_le _, rfl, HC0, HV0⟩
  case round =>
    clear HV0 HC0
    obtain ⟨j, rj, hj, rfl, HC, HV⟩ := hrel
    by_cases hlt : j < s.ws.length
    · have hjz : (j : Int) < (s.ws.length : Int) := by omega
      have hj8 : (j : Int) < 128 := by omega
      obtain ⟨y, hy⟩ : ∃ y, s.ws[j]? = some y := ⟨_, List.getElem?_eq_getElem hlt⟩
      obtain ⟨q, hq⟩ : ∃ q, n.st[j]? = some q := ⟨_, List.getElem?_eq_getElem (by rw [HOK.out.sl]; exact hlt)⟩
      obtain ⟨gw, ow, haw, x0, x1⟩ := HV.out.li.tr.ws.at hy
      subst haw
      have HV1 := Hid.intro' (HV.out.next ((Below.refl wr.heap.size wr).alloc (Nat.le_refl _) (.cells #[.int .i64 y.1, .int .i64 y.2] 58)))
      have c4 : (wr.alloc (.cells #[.int .i64 y.1, .int .i64 y.2] 58)).cell? ⟨W.heap.size, 4 + j, none⟩ = some (.bool q) := (HV1.out.nd.cell (4 + j)).trans (knc_at (pad_get (by rw [HOK.out.sl]; exact hwl) hq))
      cases q with
      | true =>
        have HC2 : Hid (cvk s c n (j + 1) r = some rj) := by
          show _ = _
          rw [cvk_skip (fun h => by rw [hq] at h; cases h.1), HC.out]
        clear hq hy HV HC
        go_wp2
        go_roundw
        case rel => exact ⟨j + 1, rj, by omega, by go_num, HC2, HV1⟩
        case measure => simp [intOf]; omega
      | false =>
        obtain ⟨m, hmk, hym⟩ := HRS.out.mm.eq j y hy
        have HMY : Hid (mayk s n.k (j : Int) = PM.bt m n.k) := by show _ = _; unfold mayk; rw [Int.toNat_natCast, hmk]; rfl
        obtain ⟨y1, y2⟩ := y
        simp only at hym
        subst hym
        have c0 : (wr.alloc (.cells #[.int .i64 y1, .int .i64 (m : Int)] 58)).cell? ⟨W.heap.size, 0, none⟩ = some (.int .i64 (n.k : Int)) := HV1.out.nd.cell 0
        have HH := Hid.intro' (khas_any y1 m n.k (by omega))
        have HQ := Hid.intro' hq
        clear hq hy hmk HV
        go_wp2_with fail
        refine (HH.out _).mono ?_
        rintro e V2 ⟨rfl, hb2⟩
        have HV2 := Hid.intro' (HV1.out.next hb2)
        clear hb2 HV1 HH c0 c4 x0 x1
        cases hbt : PM.bt m n.k with
        | false =>
          have HC2 : Hid (cvk s c n (j + 1) r = some rj) := by
            show _ = _
            rw [cvk_skip (fun h => by rw [HMY.out, hbt] at h; cases h.2), HC.out]
          clear hbt HC
          go_wp2
          go_roundw
          case rel => exact ⟨j + 1, rj, by omega, by go_num, HC2, HV2⟩
          case measure => simp [intOf]; omega
        | true =>
          have HC2 : Hid (cvk s c n (j + 1) r = cvm s c (grw n j) rj) := by
            show _ = _
            rw [cvk_go HQ.out (by rw [HMY.out, hbt]), HC.out]; rfl
          have HOG := Hid.intro' (HOK.out.grw hlt HQ.out (by rw [HMY.out, hbt]))
          have HGM : Hid ((grw n j).m ≤ f) := by show _ ≤ _; have := grw_m n HQ.out; have := HM.out; omega
          have HGR := Hid.intro' (kgrown_node HV2.out.li.tr HOK.out HV2.out.li.row hlt HQ.out)
          have HN2 := Hid.intro' HV2.out.nd
          clear hbt HC HMY HQ
          go_wp2_with (refine wpList_loadK rfl _ rfl W.heap.size _ rfl HN2.out ?_)
          refine HGR.out.mono ?_
          rintro e V3 ⟨g', rfl, hg', hr', hb3⟩
          have HV3 := Hid.intro' (HV2.out.next hb3)
          have HLI : Hid (Lin V3 mb s (grw n j) tb g' vc (.slice (some ⟨gw, ow, none⟩) s.ws.length kw) vt rj) := ⟨HV3.out.li.tr, HOG.out, hr', by have := HV2.out.li.rr.lt; omega, HV3.out.li.rr⟩
          have HLC := Hid.intro' (HLK.out V3 mb (grw n j) tb g' vc _ vt rj HGM.out HLI.out)
          clear hg' hr' hb3 HV2 HGR HN2 HLI HGM HOG
          go_wp2_with fail
          refine HLC.out.mono ?_
          rintro e V4 ⟨hk4, ho⟩
          have HK4 := Hid.intro' hk4
          clear hk4 HLC
          rcases ho with ⟨r2, h1, rfl, h2⟩ | ⟨h1, rfl⟩
          · have HC3 : Hid (cvk s c n (j + 1) r = some r2) := by show _ = _; rw [HC2.out, h1]
            have HV4 := Hid.intro' (HV3.out.look HK4.out h2)
            clear h1 h2 HC2 HV3 HK4
            go_wp2
            go_roundw
            case rel => exact ⟨j + 1, r2, by omega, by go_num, HC3, HV4⟩
            case measure => simp [intOf]; omega
          · have HR : Hid (o = none) := by
              show _ = _
              rw [← HO.out, cvb_none (j := j + 1) (by omega) (by rw [HC2.out, h1])]
            have HKK := Hid.intro' (HV3.out.kp.trans HK4.out (fun _ _ h => h))
            clear h1 HC2 HV3 HK4
            go_wp2
            go_ret
            exact ⟨HKK.out, .inr ⟨HR.out, rfl⟩⟩
    · have hjz : ¬ (j : Int) < (s.ws.length : Int) := by omega
      have hje : j = s.ws.length := by omega
      rw [hje] at HC
      have c0 : wr.cell? ⟨W.heap.size, 0, none⟩ = some (.int .i64 (n.k : Int)) := HV.out.nd.cell 0
      have c1 : wr.cell? ⟨W.heap.size, 1, none⟩ = some (.slice (some ⟨g, 0, none⟩) s.cs.length s.cs.length) := HV.out.nd.cell 1
      have hw1 : IntKind.i64.wrap ((n.k : Int) + 1) = (n.k : Int) + 1 := IntWalk.i64_in _ (by omega)
      have HBL := Hid.intro' HOK.out.bl
      by_cases hk : n.k + 1 < s.cs.length
      · have q1 : ((n.k : Int) + 1 == (s.cs.length : Int)) = false := by simp; omega
        have hk' : n.k + 1 < n.b.length := by rw [HBL.out]; exact hk
        have HNC := Hid.intro' (knext_node HOK.out g hk' hN wr)
        have HLM : Hid ((nxc n).m ≤ f) := by show _ ≤ _; have := nxc_m n hk'; have := HM.out; omega
        have HON := Hid.intro' (HOK.out.nxc hk')
        have HR : Hid (o = cvm s c (nxc n) rj) := by show _ = _; rw [← HO.out, cvb_next HC.out hk']
        have HN1 := Hid.intro' HV.out.nd
        clear hk' HC hje
        go_wp2_with (refine wpList_loadK rfl _ rfl W.heap.size _ rfl HN1.out ?_)
        refine HNC.out.mono ?_
        rintro e V3 ⟨rfl, hb3⟩
        have HV3 := Hid.intro' (HV.out.next hb3)
        have HLI : Hid (Lin V3 mb s (nxc n) tb g vc (.slice aw s.ws.length kw) vt rj) := ⟨HV3.out.li.tr, HON.out, HV3.out.li.row, HV3.out.li.gm, HV3.out.li.rr⟩
        have HLC := Hid.intro' (HLK.out V3 mb (nxc n) tb g vc _ vt rj HLM.out HLI.out)
        clear hb3 HV HNC HN1 HLI HLM HON c0 c1
        go_wp2_with fail
        refine HLC.out.mono ?_
        rintro e V4 ⟨hk4, ho⟩
        have HKK := Hid.intro' (HV3.out.kp.trans hk4 (fun _ _ h => h))
        rw [← HR.out] at ho
        have HOO := Hid.intro' ho
        clear hk4 HLC HV3 ho
        obtain ⟨bb, rfl, HE⟩ : ∃ b, e = .returned (.bool b) ∧ Hid ((∃ r, o = some r ∧ b = true ∧ RR V4 mb r) ∨ (o = none ∧ b = false)) := by
          rcases HOO.out with ⟨r2, h1, rfl, h2⟩ | ⟨h1, rfl⟩
          · exact ⟨true, rfl, .inl ⟨r2, h1, rfl, h2⟩⟩
          · exact ⟨false, rfl, .inr ⟨h1, rfl⟩⟩
        clear HOO
        go_wp2
        go_ret
        refine ⟨HKK.out, ?_⟩
        rcases HE.out with ⟨r2, h1, rfl, h2⟩ | ⟨h1, rfl⟩
        · exact .inl ⟨r2, h1, rfl, h2⟩
        · exact .inr ⟨h1, rfl⟩
      · have q1 : ((n.k : Int) + 1 == (s.cs.length : Int)) = true := by simp; omega
        have HR : Hid (o = some rj) := by show _ = _; rw [← HO.out, cvb_last HC.out (by rw [HBL.out]; exact hk)]
        clear HC hje
        go_wp2
        go_ret
        exact ⟨HV.out.kp, .inl ⟨rj, HR.out, rfl, HV.out.li.rr⟩⟩
end
end Go.Proofs.Ytagmidolcdefiah

/- A search's proof in bytes: mathematics. -/
namespace Go.Proofs.Ytagmidolcdefiah
/-- the last bytes of a number; a plan's bytes; a proof -/
def bek (n : Int) : Nat → List Nat
  | 0 => []
  | k + 1 => ((n / 256 ^ k) % 256).toNat :: bek n k
def prl (p : List (List Int)) : List Nat := p.flatMap fun l => l.length :: l.map Int.toNat
def prf (x : Sx) : List Nat := (if x.ended = true then 0 else 1) :: (bek x.cost 8 ++ prl x.plan ++ if x.ended = true then [] else x.marks)
theorem bek_length (n : Int) : ∀ k, (bek n k).length = k
  | 0 => rfl
  | k + 1 => by
    show (bek n k).length + 1 = k + 1
    rw [bek_length n k]
theorem prl_snoc (p : List (List Int)) (l : List Int) : prl (p ++ [l]) = prl p ++ l.length :: l.map Int.toNat := by
  unfold prl
  rw [List.flatMap_append, List.flatMap_singleton]
end Go.Proofs.Ytagmidolcdefiah
