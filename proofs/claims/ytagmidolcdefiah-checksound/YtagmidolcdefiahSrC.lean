/- The best of all plans, as the document makes it: from the empty lists. -/
import Derived.Test.YtagmidolcdefiahSrT
namespace Go.Proofs.Ytagmidolcdefiah
open Go.RowKit Go.Shelf
theorem loadRs (w : World) (b o : Nat) (v : Value) (h : w.cell? ⟨b, o, none⟩ = some v) : (Instr.loadAt 24 (.pointer (some ⟨b, o, none⟩))).run Try.prog w = .ok v w := by simp [go_sem, h]
theorem calm_loadRs {W0 : World} {K : Act → Prop} {o : Oper} {a : Act} (x : Operand) (b k : Nat) {v : Value} (ho : o.op = .load 24 x) (hx : a.eval x = .pointer (some ⟨b, k, none⟩)) (hr : ∀ w, Below W0.heap.size W0 w → w.cell? ⟨b, k, none⟩ = some v)
    (h : K (a.put o.dst v)) : Oper.calm Try.prog W0 o a K :=
  calm_val _ (fun w hw => by unfold execOp; simp only [ho, hx, Sem.run_bind, Sem.run_pure, Result.andThen_ok, loadRs w b k v (hr w hw)]) h
/-- a row of empty lists that is made -/
theorem OP.make (W : World) (B n : Nat) (hB : B ≤ W.heap.size) (hn : n ≤ maxLen) : OP (W.alloc (.cells (List.replicate n (Value.slice none 0 0)).toArray 55)) B (.slice (some ⟨W.heap.size, 0, none⟩) n n) (List.replicate n (Value.slice none 0 0)) := by
  have := World.ownsRow_lit (e := 55) (size := 1) (base := B) W (List.replicate n (Value.slice none 0 0)).toArray n hB hn (by simp)
  unfold OP
  rw [List.length_replicate]
  simpa using this
set_option maxRecDepth 100000 in
set_option maxHeartbeats 4000000 in
theorem rbest_any (s : Sn) (D : Nat → Prop) (vc vw : Value) (w : World) (hc : R2 D w vc s.cs) (hw : R2 D w vw s.ws) (hr : rgt s = true) :
    Calls Try.prog 18 #[.agg (nv s.st vc vw).toArray] w fun e w' => e = .returned (.int .i64 (bst s s.ws.length 0 (List.replicate s.cs.length []))) ∧ Below w.heap.size w w' := by
  have hbx := (Below.refl w.heap.size w).alloc (Nat.le_refl _) (.cells (nv s.st vc vw).toArray 27)
  have HN := Hid.intro' (NB.new w s.st vc vw)
  have HB := Hid.intro' hbx
  have HC := Hid.intro' ((hc.mono (D' := fun _ => True) fun _ _ _ _ => trivial).below' hbx)
  have HW := Hid.intro' ((hw.mono (D' := fun _ => True) fun _ _ _ _ => trivial).below' hbx)
  obtain ⟨ac, kc, rfl, _, _⟩ := hc.form
  obtain ⟨aw, kw, rfl, _, _⟩ := hw.form
  have HR := Hid.intro' hr
  obtain ⟨n8, hrs⟩ := rgt_rs hr
  have hcl : s.cs.length ≤ 8 := by have := hrs.cl; have := hrs.n8; omega
  have hc1 : 0 < s.cs.length := by have := hrs.cl; have := hrs.n1; omega
  have hmk := mkL s.cs.length (by omega)
  clear hc hw hbx hr hrs
  go_enter Try.func18, Try.ntmps18
  go_wp2_with fail
  generalize w.alloc (.cells (nv s.st (.slice ac s.cs.length kc) (.slice aw s.ws.length kw)).toArray 27) = X at HN HB HC HW ⊢
  have HDR : Hid (∀ w', Below X.drew.heap.size X.drew w' → Below X.heap.size X w') := fun w' hw => ((Below.refl _ X).drew).trans hw
  have HNB : Hid (∀ w', Below X.drew.heap.size X.drew w' → NB w' w.heap.size s.st (.slice ac s.cs.length kc) (.slice aw s.ws.length kw)) := fun w' hw => HN.out.below' (HDR.out w' hw)
  have H13 : Hid (∀ w', Below X.drew.heap.size X.drew w' → w'.cell? ⟨w.heap.size, 13, none⟩ = some (.slice ac s.cs.length kc)) := fun w' hw => (HNB.out w' hw).cell 13
  refine wp_region_rows 5 [4] [] (fun _ v w => OP w X.drew.heap.size v (List.replicate s.cs.length (Value.slice none 0 0))) (by kernel_rfl) (by kernel_rfl) ⟨fun _ _ _ _ h _ hk => OP.keep h hk, fun _ _ _ h g hg => OP.lt h g hg⟩ ?_
  conv => arg 5; simp [calmL]
  unfold wpCalm
  generalize hK : wpCalm Try.prog _ _ _ _ = K
  rw [if_pos (by go_simp)]
  refine calm_load27 _ w.heap.size s.st _ _ rfl rfl HNB.out ?_
  go_simp
  subst hK
  unfold wpCalm
  generalize hK : wpCalm Try.prog _ _ _ _ = K
  unfold Oper.calm
  go_simp
  refine ⟨_, fun _ _ => rfl, ?_⟩
  subst hK
  unfold wpCalm
  generalize hK : wpCalm Try.prog _ _ _ _ = K
  rw [if_pos (by go_simp)]
  refine calm_loadRs _ _ _ rfl rfl H13.out ?_
  go_simp
  subst hK
  unfold wpCalm
  generalize hK : wpCalm Try.prog _ _ _ _ = K
  unfold Oper.calm
  go_simp
  refine ⟨_, fun _ _ => rfl, ?_⟩
  subst hK
  refine wpCalm_nil ⟨?_, ?_⟩
  · intro i o hi ho ρ w' hb h1 h2
    simp only [List.mem_cons, List.not_mem_nil, or_false] at hi
    subst hi
    cases ho
    refine RowDo.lit rfl s.cs.length (.cells (List.replicate s.cs.length (Value.slice none 0 0)).toArray 55) ?_ (OP.make w' X.drew.heap.size s.cs.length hb.size (by unfold maxLen; omega))
    simp only [rwv, pl, List.foldl, dstOf]
    go_simp
  · intro ρ w' hb hlive
    have ho : OP w' X.drew.heap.size (ρ 4) (List.replicate s.cs.length (Value.slice none 0 0)) := hlive 4 (by simp) (by rfl)
    simp only [rwv, pl, List.foldl, dstOf]
    generalize ρ 4 = v4 at ho ⊢
    have hform : ∃ g cap, v4 = .slice (some ⟨g, 0, none⟩) (List.replicate s.cs.length (Value.slice none 0 0)).length cap := by
      rcases ho.2 with ⟨_, h2⟩ | ⟨g, cap, cur, hv, _⟩
      · rw [List.length_replicate] at h2; omega
      · exact ⟨g, cap, hv⟩
    obtain ⟨g, cap, rfl⟩ := hform
    have hrl := ho.rl (D := fun _ => True) (p := List.replicate s.cs.length []) trivial (by simp) (fun i u l hu hl => by
      rw [List.getElem?_replicate] at hu hl
      split at hu
      · rw [if_pos (by assumption)] at hl
        cases hu; cases hl
        exact RI.nil _ _
      · cases hu)
    have hb8 := HDR.out w' hb
    have HE := Hid.intro' (best_any s HR.out s.ws.length 0 (List.replicate s.cs.length []) _ _ _ w' (by omega) (Pw.zero s) (fun l hl => by rw [List.eq_of_mem_replicate hl]; exact Nat.le_refl _) (HC.out.below' hb8) (HW.out.below' hb8) hrl)
    rw [show ((0 : Nat) : Int) = 0 from rfl] at HE
    have HB8 := Hid.intro' (below_class HB.out hb8)
    clear hrl ho hb hlive hb8 HDR HNB H13 HN
    generalize Value.slice (some ⟨g, 0, none⟩) (List.replicate s.cs.length (Value.slice none 0 0)).length cap = v4 at HE ⊢
    go_wp2_with fail
    refine HE.out.mono ?_
    rintro e W9 ⟨rfl, hb9⟩
    have HB9 := Hid.intro' (below_class HB8.out hb9)
    clear hb9 HE HB8
    go_wp2
    go_ret
    exact ⟨rfl, HB9.out⟩
end Go.Proofs.Ytagmidolcdefiah
