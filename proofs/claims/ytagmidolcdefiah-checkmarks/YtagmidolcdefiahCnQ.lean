/- A check's tree is made. -/
import Derived.Test.YtagmidolcdefiahCnX
import Derived.Test.YtagmidolcdefiahPk10
import Derived.Test.YtagmidolcdefiahPlS
namespace Go.Proofs.Ytagmidolcdefiah
open Go.RowKit Go.Shelf
theorem built_kt (s : St) (vc vw : Value) (a : Option Addr) (n c : Nat) (d : Int) : Try.prog.built 124 [(0, .agg (nv s vc vw).toArray), (1, .slice a n c), (2, .int .i64 d)] = some (nv s vc vw ++ [Value.slice a n c, Value.int .i64 d]).toArray := by kernel_rfl
section
variable {S : World → Prop} {ops : Array Oper} {Q : Exit → Act → World → Prop} {i : Nat} {o : Oper} {K : Act → World → Prop} {a : Act} {w : World}
theorem yif_load27 (hw : Region.wanted o (yielded ops a.tmps) = true) (x : Operand) (ho : o.op = .load 27 x) (b : Nat) (s : St) (vc vw : Value) (hx : a.eval x = .pointer (some ⟨b, 0, none⟩)) (hr : ∀ w, S w → NB w b s vc vw) : YieldsIf Try.prog ops S o (.agg (nv s vc vw).toArray) a :=
  .inl ⟨hw, fun w hS => by unfold execOp; simp only [ho, hx, Sem.run_bind, Sem.run_pure, Result.andThen_ok, load27 w b s vc vw (hr w hS).range]⟩
theorem NB.siteR {w : World} {b : Nat} {s : St} {vc vw : Value} (h : NB w b s vc vw) : w.rangeAt b 0 (sv s) := fun j v hv => h.range j v (by
  have hj : j < (sv s).length := (List.getElem?_eq_some_iff.1 hv).1
  show (sv s ++ [vc, vw])[j]? = some v
  rw [List.getElem?_append_left hj]; exact hv)
theorem yif_load23 (hw : Region.wanted o (yielded ops a.tmps) = true) (x : Operand) (ho : o.op = .load 23 x) (b : Nat) (s : St) (vc vw : Value) (hx : a.eval x = .pointer (some ⟨b, 0, none⟩)) (hr : ∀ w, S w → NB w b s vc vw) : YieldsIf Try.prog ops S o (.agg (sv s).toArray) a :=
  .inl ⟨hw, fun w hS => by unfold execOp; simp only [ho, hx, Sem.run_bind, Sem.run_pure, Result.andThen_ok, load23 w b s (hr w hS).siteR]⟩
theorem wpOp_box (hi : ops[i]? = some o) (hw : Region.wanted o (yielded ops a.tmps) = true) (t : TypeId) (x : Operand) (ho : o.op = .box t x) (cs : Array Value) (hx : a.eval x = .agg cs) (h : K (a.put o.dst (.pointer (some ⟨w.heap.size, 0, none⟩))) (w.alloc (.cells cs t))) : wpOp Try.prog ops Q i K a w :=
  wpOp_val hi hw (by
    have e : execOp a.eval o = execOp (fun _ => Value.agg cs) o := by unfold execOp; simp only [ho, hx]
    rw [e]
    unfold execOp
    simp [ho, go_sem]) h
end
section
variable {D : Nat → Prop} {W : World} {s : Sn} {vc vw : Value}
set_option maxRecDepth 100000 in
set_option maxHeartbeats 4000000 in
theorem knewTree_any (hc : R2 D W vc s.cs) (hw : R2 D W vw s.ws) (hr : rgt s = true) :
    Calls Try.prog 28 #[.agg (nv s.st vc vw).toArray] W fun e w' => Below W.heap.size W w' ∧ ∃ tb vt, e = .returned (.pointer (some ⟨tb, 0, none⟩)) ∧ TC (fun _ => True) w' tb s vc vw vt := by
  have rt := (rgt_rz hr).rt
  have HN := Hid.intro' (NB.new W s.st vc vw)
  have HB := Hid.intro' ((Below.refl W.heap.size W).alloc (Nat.le_refl _) (.cells (nv s.st vc vw).toArray 27))
  have HC := Hid.intro' (hc.mono (D' := fun _ => True) fun _ _ _ _ => trivial)
  have HW := Hid.intro' (hw.mono (D' := fun _ => True) fun _ _ _ _ => trivial)
  have HR := Hid.intro' hr
  have HTA := Hid.intro' (table_rl s.st rt)
  have hw1 : IntKind.i64.wrap (s.st.opn + s.st.wai) = s.st.opn + s.st.wai := IntWalk.i64_in _ (by have := rt.opn1; have := rt.opn2; have := rt.wai1; have := rt.wai2; omega)
  have hw2 : IntKind.i64.wrap (s.st.opn + s.st.wai + s.st.clo) = s.st.opn + s.st.wai + s.st.clo := IntWalk.i64_in _ (by have := rt.opn1; have := rt.opn2; have := rt.wai1; have := rt.wai2; have := rt.clo1; have := rt.clo2; omega)
  have hw3 : IntKind.i64.wrap (s.st.opn + s.st.wai + s.st.clo + 2) = s.st.opn + s.st.wai + s.st.clo + 2 := IntWalk.i64_in _ (by have := rt.opn1; have := rt.opn2; have := rt.wai1; have := rt.wai2; have := rt.clo1; have := rt.clo2; omega)
  clear hc hw hr rt
  go_enter Try.func28, Try.ntmps28
  go_upto_region 1 with (fail)
  generalize W.alloc (.cells (nv s.st vc vw).toArray 27) = X at HN HB ⊢
  refine wp_nrm ?_
  have HS0 : Hid (∀ w', Below X.heap.size X w' → NB w' W.heap.size s.st vc vw) := fun w' hw => HN.out.below' hw
  refine wp_region_held (S := fun w' => Below X.heap.size X w') (by kernel_rfl) ?_
  change wpAnyH _ _ _ _ _ _ _ _ (World.drew _)
  have HD : Hid (Below X.heap.size X X.drew) := (Below.refl _ _).drew
  generalize hXd : X.drew = X0 at HD ⊢
  clear hXd
  refine wpAnyH_take (i := 0) rfl (by kernel_rfl) (by kernel_rfl) (by kernel_rfl) (fun _ _ _ h => by cases h.1) (yif_load27 rfl _ rfl W.heap.size s.st vc vw rfl HS0.out) HD.out ?_
  generalize hKK : wpAnyH Try.prog _ _ _ _ _ _ = KK
  go_simp
  subst hKK
  refine wpAnyH_take (i := 1) rfl (by kernel_rfl) (by kernel_rfl) (by kernel_rfl) (fun _ _ _ h => by cases h.1) (.inl ⟨rfl, fun _ _ => rfl⟩) HD.out ?_
  generalize hKK : wpAnyH Try.prog _ _ _ _ _ _ = KK
  go_simp
  subst hKK
  refine wpAnyH_take (i := 2) rfl (by kernel_rfl) (by kernel_rfl) (by kernel_rfl) (fun _ _ _ h => by cases h.1) (yif_load23 rfl _ rfl W.heap.size s.st vc vw rfl HS0.out) HD.out ?_
  generalize hKK : wpAnyH Try.prog _ _ _ _ _ _ = KK
  go_simp
  subst hKK
  refine wpAnyH_take (i := 4) rfl (by kernel_rfl) (by kernel_rfl) (by kernel_rfl) (fun _ _ _ h => by cases h.1) (.inl ⟨rfl, fun _ _ => rfl⟩) HD.out ?_
  generalize hKK : wpAnyH Try.prog _ _ _ _ _ _ = KK
  go_simp
  subst hKK
  refine wpAnyH_take (i := 5) rfl (by kernel_rfl) (by kernel_rfl) (by kernel_rfl) (fun _ _ _ h => by cases h.1) (.inl ⟨rfl, fun _ _ => rfl⟩) HD.out ?_
  generalize hKK : wpAnyH Try.prog _ _ _ _ _ _ = KK
  go_simp
  subst hKK
  refine wpAnyH_take (i := 6) (v := .int .i64 s.st.opn) rfl (by kernel_rfl) (by kernel_rfl) (by kernel_rfl) (fun _ _ _ h => by cases h.1) (.inl ⟨rfl, fun w hw => by have hc : w.cell? ⟨W.heap.size, 5, none⟩ = some (.int .i64 s.st.opn) := (HS0.out w hw).cell 5; go_simp⟩) HD.out ?_
  generalize hKK : wpAnyH Try.prog _ _ _ _ _ _ = KK
  go_simp
  subst hKK
  refine wpAnyH_take (i := 7) rfl (by kernel_rfl) (by kernel_rfl) (by kernel_rfl) (fun _ _ _ h => by cases h.1) (.inl ⟨rfl, fun _ _ => rfl⟩) HD.out ?_
  generalize hKK : wpAnyH Try.prog _ _ _ _ _ _ = KK
  go_simp
  subst hKK
  refine wpAnyH_take (i := 8) rfl (by kernel_rfl) (by kernel_rfl) (by kernel_rfl) (fun _ _ _ h => by cases h.1) (.inl ⟨rfl, fun _ _ => rfl⟩) HD.out ?_
  generalize hKK : wpAnyH Try.prog _ _ _ _ _ _ = KK
  go_simp
  subst hKK
  refine wpAnyH_take (i := 9) (v := .int .i64 s.st.wai) rfl (by kernel_rfl) (by kernel_rfl) (by kernel_rfl) (fun _ _ _ h => by cases h.1) (.inl ⟨rfl, fun w hw => by have hc : w.cell? ⟨W.heap.size, 6, none⟩ = some (.int .i64 s.st.wai) := (HS0.out w hw).cell 6; go_simp⟩) HD.out ?_
  generalize hKK : wpAnyH Try.prog _ _ _ _ _ _ = KK
  go_simp
  subst hKK
  refine wpAnyH_take (i := 10) (v := .int .i64 (s.st.opn + s.st.wai)) rfl (by kernel_rfl) (by kernel_rfl) (by kernel_rfl) (fun _ _ _ h => by cases h.1) (.inl ⟨rfl, fun w _ => by go_simp⟩) HD.out ?_
  generalize hKK : wpAnyH Try.prog _ _ _ _ _ _ = KK
  go_simp
  subst hKK
  refine wpAnyH_take (i := 11) rfl (by kernel_rfl) (by kernel_rfl) (by kernel_rfl) (fun _ _ _ h => by cases h.1) (.inl ⟨rfl, fun _ _ => rfl⟩) HD.out ?_
  generalize hKK : wpAnyH Try.prog _ _ _ _ _ _ = KK
  go_simp
  subst hKK
  refine wpAnyH_take (i := 12) rfl (by kernel_rfl) (by kernel_rfl) (by kernel_rfl) (fun _ _ _ h => by cases h.1) (.inl ⟨rfl, fun _ _ => rfl⟩) HD.out ?_
  generalize hKK : wpAnyH Try.prog _ _ _ _ _ _ = KK
  go_simp
  subst hKK
  refine wpAnyH_take (i := 13) (v := .int .i64 s.st.clo) rfl (by kernel_rfl) (by kernel_rfl) (by kernel_rfl) (fun _ _ _ h => by cases h.1) (.inl ⟨rfl, fun w hw => by have hc : w.cell? ⟨W.heap.size, 7, none⟩ = some (.int .i64 s.st.clo) := (HS0.out w hw).cell 7; go_simp⟩) HD.out ?_
  generalize hKK : wpAnyH Try.prog _ _ _ _ _ _ = KK
  go_simp
  subst hKK
  refine wpAnyH_take (i := 14) (v := .int .i64 (s.st.opn + s.st.wai + s.st.clo)) rfl (by kernel_rfl) (by kernel_rfl) (by kernel_rfl) (fun _ _ _ h => by cases h.1) (.inl ⟨rfl, fun w _ => by go_simp⟩) HD.out ?_
  generalize hKK : wpAnyH Try.prog _ _ _ _ _ _ = KK
  go_simp
  subst hKK
  refine wpAnyH_take (i := 15) (v := .int .i64 (s.st.opn + s.st.wai + s.st.clo + 2)) rfl (by kernel_rfl) (by kernel_rfl) (by kernel_rfl) (fun _ _ _ h => by cases h.1) (.inl ⟨rfl, fun w _ => by go_simp⟩) HD.out ?_
  generalize hKK : wpAnyH Try.prog _ _ _ _ _ _ = KK
  go_simp
  subst hKK
  refine wpAnyH_all (rs := [3]) (by kernel_rfl) (by simp) (fun ii hii => ?_)
  obtain rfl : ii = 3 := by simpa using hii
  clear hii
  refine wpOp_call rfl rfl ?hrun (HTA.out X0) ?_
  case hrun => unfold execOp; simp [resolve, invoke, go_sem]
  rintro e X1 ⟨v, rfl, hv, hb1⟩
  have hbx := below_class HD.out hb1
  refine ⟨_, rfl, hbx, ?_⟩
  obtain ⟨av, kv, rfl, _, _⟩ := hv.form
  have HV := Hid.intro' hv
  have HD1 := Hid.intro' hbx
  generalize (tbl s.st).length = nt at HV ⊢
  clear hv hb1 hbx HD
  generalize hKK : wpAnyH Try.prog _ _ _ _ _ _ = KK
  go_simp
  subst hKK
  refine wpAnyH_take (i := 16) (v := .agg (tcl2 s.st vc vw (.slice av nt kv)).toArray) rfl (by kernel_rfl) (by kernel_rfl) (by kernel_rfl) (fun _ _ _ h => by cases h.1) (yif_build rfl _ _ rfl [(0, .agg (nv s.st vc vw).toArray), (1, .slice av nt kv), (2, .int .i64 (s.st.opn + s.st.wai + s.st.clo + 2))] (by simp [Act.eval]) _ (built_kt _ _ _ _ _ _ _)) HD1.out ?_
  generalize hKK : wpAnyH Try.prog _ _ _ _ _ _ = KK
  go_simp
  subst hKK
  refine wpAnyH_all (rs := [17]) (by kernel_rfl) (by simp) (fun ii hii => ?_)
  obtain rfl : ii = 17 := by simpa using hii
  clear hii
  refine wpOp_box rfl rfl _ _ rfl (tcl2 s.st vc vw (.slice av nt kv)).toArray rfl ?_
  have hb2 := HD1.out.alloc HD1.out.size (.cells (tcl2 s.st vc vw (.slice av nt kv)).toArray 124)
  refine ⟨hb2, ?_⟩
  have HBB := Hid.intro' (below_class HB.out hb2)
  have HB2 := Hid.intro' hb2
  have HTC : Hid (TC (fun _ => True) (X1.alloc (.cells (tcl2 s.st vc vw (.slice av nt kv)).toArray 124)) X1.heap.size s vc vw (.slice av nt kv)) :=
    ⟨World.alloc_heap_new X1 _, trivial, HC.out.below' HBB.out, HW.out.below' HBB.out, (HV.out.alloc _).mono fun _ _ _ _ => trivial, HR.out⟩
  clear hb2 HV HC HW HB HD1 HN HS0 HTA
  generalize X1.alloc (.cells (tcl2 s.st vc vw (.slice av nt kv)).toArray 124) = X2 at HBB HB2 HTC ⊢
  generalize X1.heap.size = tb at HTC ⊢
  generalize hKK : wpAnyH Try.prog _ _ _ _ _ _ = KK
  go_simp
  subst hKK
  refine wpAnyH_all (rs := [18]) (by kernel_rfl) (by simp) (fun ii hii => ?_)
  obtain rfl : ii = 18 := by simpa using hii
  clear hii
  refine wpOp_val (v := .pointer (some ⟨tb, 0, none⟩)) (w' := X2) rfl rfl (by go_simp) ?_
  refine ⟨HB2.out, wpAnyH_done (by kernel_rfl) ⟨rfl, ?_⟩ _⟩
  go_wp2
  go_ret
  exact ⟨HBB.out, tb, _, rfl, HTC.out⟩
end
end Go.Proofs.Ytagmidolcdefiah
