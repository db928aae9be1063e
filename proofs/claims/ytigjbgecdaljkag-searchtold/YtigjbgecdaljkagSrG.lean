/- A search, as the document makes it. -/
import Derived.Test.YtigjbgecdaljkagSrV
import Derived.Test.YtigjbgecdaljkagSrR
import Derived.Test.YtigjbgecdaljkagPk30
namespace Go.Proofs.Ytigjbgecdaljkag
open Go.RowKit Go.Shelf

theorem visit_any (s : Sn) (B xb : Nat) (vc vw : Value) (hB : B ≤ 1000000) : ∀ f, Vis s B xb vc vw f
  | 0 => fun k b st x w v vp vm hf hb _ _ _ _ _ => by
    have := (bgn_bs hb).kl
    omega
  | f + 1 => visit_step s B xb vc vw hB f (visit_any s B xb vc vw hB f)

/-- a new search -/
theorem built_search (s : St) (vc vw : Value) (B : Nat) (a : Option Addr) (n c : Nat) (co : Int) (p : List (List Int)) : Try.prog.built 56 [(0, .agg (nv s vc vw).toArray), (1, .int .i64 (B : Int)), (2, .slice a n c), (3, .int .i64 co)] = some (xc s vc vw B (.slice a n c) ⟨0, false, p, co, []⟩ (.slice none 0 0)).toArray := by kernel_rfl

set_option maxRecDepth 100000 in
set_option maxHeartbeats 1000000 in
theorem rfind_any (s : Sn) (D : Nat → Prop) (vc vw : Value) (B : Nat) (hB : B ≤ 1000000) (w : World) (hc : R2 D w vc s.cs) (hw : R2 D w vw s.ws) (hr : rgt s = true) :
    Calls Try.prog 24 #[.agg (nv s.st vc vw).toArray, .int .i64 (B : Int)] w fun e w' => Below w.heap.size w w' ∧ ∃ xb vp vm, e = .returned (.pointer (some ⟨xb, 0, none⟩)) ∧ XS w' xb s vc vw B (fnd s B) vp vm := by
  have hbx := (Below.refl w.heap.size w).alloc (Nat.le_refl _) (.cells (nv s.st vc vw).toArray 27)
  have HN := Hid.intro' (NB.new w s.st vc vw)
  have HB := Hid.intro' hbx
  have HC : Hid (R2 (fun g => g < w.heap.size) w vc s.cs) := hc.mono fun g _ h _ => h
  have HW : Hid (R2 (fun g => g < w.heap.size) w vw s.ws) := hw.mono fun g _ h _ => h
  obtain ⟨ac, kc, rfl, _, _⟩ := hc.form
  obtain ⟨aw, kw, rfl, _, _⟩ := hw.form
  have HR := Hid.intro' hr
  obtain ⟨n8, hrs⟩ := rgt_rs hr
  have hwl : s.ws.length ≤ 128 := hrs.wl
  have hcl : s.cs.length ≤ 8 := by have := hrs.cl; have := hrs.n8; omega
  have hmk := mkL s.cs.length (by omega)
  clear hc hw hbx hr hrs
  go_enter Try.func24, Try.ntmps24
  have HS1 : Hid ((w.alloc (.cells (nv s.st (.slice ac s.cs.length kc) (.slice aw s.ws.length kw)).toArray 27)).heap.size = w.heap.size + 1) := by show _ = _; simp
  generalize hX : w.alloc (.cells (nv s.st (.slice ac s.cs.length kc) (.slice aw s.ws.length kw)).toArray 27) = X at HN HB HS1
  have HF1 := Hid.intro' (rfirst_any s (fun g => g < w.heap.size) _ _ X (HC.out.below' HB.out) (HW.out.below' HB.out) HR.out)
  go_wp2_with (refine wpList_load27g rfl _ rfl w.heap.size s.st _ _ rfl HN.out ?_)
  refine HF1.out.mono ?_
  rintro e W2 ⟨hb2, vf, rfl, hrl⟩
  have hfl : (ffp s s.ws.length).length = s.cs.length := (ffp_pw HR.out _ (Nat.le_refl _)).len
  obtain ⟨af, kf, rfl, _, _⟩ := hrl.form
  have HFP := Hid.intro' hrl
  rw [hfl] at HFP ⊢
  have HN2 := Hid.intro' (HN.out.below' hb2)
  have HB2 := Hid.intro' (below_class HB.out hb2)
  clear hb2 hrl HF1 HN hX
  go_wp2_with fail
  have hdr := (Below.refl W2.heap.size W2).drew
  have HNB : Hid (∀ w', Below W2.drew.heap.size W2.drew w' → NB w' w.heap.size s.st (.slice ac s.cs.length kc) (.slice aw s.ws.length kw)) := fun w' hw => HN2.out.below' (hdr.trans hw)
  obtain ⟨ct, HCT⟩ : ∃ c, Hid (RM.cst s.st s.ws s.cs (ffp s s.ws.length) = c) := ⟨_, Hid.intro' rfl⟩
  have HCO : Hid (∀ w', Below W2.drew.heap.size W2.drew w' → Calls Try.prog 17 #[.agg (nv s.st (.slice ac s.cs.length kc) (.slice aw s.ws.length kw)).toArray, .slice af s.cs.length kf] w' fun e w'' => e = .returned (.int .i64 ct) ∧ Below w'.heap.size w' w'') := fun w' hw => by
    have h := rcost_any s (fun _ => True) (.slice ac s.cs.length kc) (.slice aw s.ws.length kw) (.slice af s.cs.length kf) (ffp s s.ws.length) w' ((HC.out.mono fun _ _ _ _ => trivial).below' (below_class HB2.out (hdr.trans hw))) ((HW.out.mono fun _ _ _ _ => trivial).below' (below_class HB2.out (hdr.trans hw))) ((HFP.out.mono fun _ _ _ _ => trivial).below' (hdr.trans hw)) (ffp_fsb HR.out) (fun l hl => by have := ffp_max (s := s) s.ws.length l hl; omega)
    rw [HCT.out] at h
    exact h
  clear hdr
  refine wp_region_tail 6 (by kernel_rfl) (by kernel_rfl) ?_
  simp only [List.take_succ_cons, List.take_zero, List.drop_succ_cons, List.drop_zero]
  unfold wpCalm
  generalize hK : wpCalm Try.prog _ _ _ _ = K
  rw [if_pos (by go_simp)]
  refine calm_load27 _ w.heap.size s.st _ _ rfl rfl HNB.out ?_
  go_simp
  subst hK
  unfold wpCalm
  generalize hK : wpCalm Try.prog _ _ _ _ = K
  unfold Oper.calm
  go_simp
  refine ⟨_, fun _ _ => rfl, ?_⟩
  subst hK
  unfold wpCalm
  generalize hK : wpCalm Try.prog _ _ _ _ = K
  unfold Oper.calm
  go_simp
  refine ⟨_, fun _ _ => rfl, ?_⟩
  subst hK
  unfold wpCalm
  generalize hK : wpCalm Try.prog _ _ _ _ = K
  rw [if_pos (by go_simp)]
  refine calm_load27 _ w.heap.size s.st _ _ rfl rfl HNB.out ?_
  go_simp
  subst hK
  unfold wpCalm
  generalize hK : wpCalm Try.prog _ _ _ _ = K
  unfold Oper.calm
  go_simp
  refine ⟨_, fun _ _ => rfl, ?_⟩
  subst hK
  unfold wpCalm
  generalize hK : wpCalm Try.prog _ _ _ _ = K
  unfold Oper.calm
  go_simp
  refine ⟨_, fun w' hw => HCO.out w' hw, ?_⟩
  subst hK
  refine wpCalm_nil ?_
  intro W3 hb3
  have hbd := (Below.refl W2.heap.size W2).drew.trans hb3
  have HN3 := Hid.intro' (HN2.out.below' hbd)
  have HB3 := Hid.intro' (below_class HB2.out hbd)
  have HFP3 := Hid.intro' (HFP.out.below' hbd)
  have HS3 : Hid (X.heap.size ≤ W3.heap.size) := by
    have h1 := HN3.out.lt
    have h2 := HS1.out
    show _ ≤ _
    omega
  clear hbd hb3 HNB HCO HN2 HB2 HFP
  have hbs := built_search s.st (.slice ac s.cs.length kc) (.slice aw s.ws.length kw) B af s.cs.length kf ct (ffp s s.ws.length)
  have hby := (Below.refl W3.heap.size W3).alloc (Nat.le_refl _) (.cells (xc s.st (.slice ac s.cs.length kc) (.slice aw s.ws.length kw) B (.slice af s.cs.length kf) ⟨0, false, ffp s s.ws.length, ct, []⟩ (.slice none 0 0)).toArray 56)
  have HHL : Hid ((W3.alloc (.cells (xc s.st (.slice ac s.cs.length kc) (.slice aw s.ws.length kw) B (.slice af s.cs.length kf) ⟨0, false, ffp s s.ws.length, ct, []⟩ (.slice none 0 0)).toArray 56)).heap[W3.heap.size]? = some (.cells (xc s.st (.slice ac s.cs.length kc) (.slice aw s.ws.length kw) B (.slice af s.cs.length kf) ⟨0, false, ffp s s.ws.length, ct, []⟩ (.slice none 0 0)).toArray 56 (0, 0))) := World.alloc_heap_new W3 _
  have HBY := Hid.intro' hby
  have c13 := (HN3.out.below' hby).cell 13
  have g13 : (nv s.st (.slice ac s.cs.length kc) (.slice aw s.ws.length kw))[13]? = some (.slice ac s.cs.length kc) := rfl
  rw [g13] at c13
  generalize hY : W3.alloc (.cells (xc s.st (.slice ac s.cs.length kc) (.slice aw s.ws.length kw) B (.slice af s.cs.length kf) ⟨0, false, ffp s s.ws.length, ct, []⟩ (.slice none 0 0)).toArray 56) = Y at hby HHL HBY c13
  clear hby g13
  go_wp2_with (refine wpList_buildS rfl _ _ rfl [(0, .agg (nv s.st (.slice ac s.cs.length kc) (.slice aw s.ws.length kw)).toArray), (1, .int .i64 (B : Int)), (2, .slice af s.cs.length kf), (3, .int .i64 ct)] (by simp [Act.eval]) _ hbs ?_)
  have hbz := (Below.refl Y.heap.size Y).alloc (Nat.le_refl _) (.cells (Array.replicate s.cs.length (Value.slice none 0 0)) 36)
  have how := OW.make (B := Y.heap.size) Y s.cs.length (Nat.le_refl _)
  rw [List.toArray_replicate] at how
  have hb3z := below_class HBY.out hbz
  have hwy : W3.heap.size < Y.heap.size := (Array.getElem?_eq_some_iff.1 HHL.out).1
  have hwz := HB3.out.size
  have hd : ∀ g, g ≠ W3.heap.size → Dv W3.heap.size (.slice none 0 0) g := fun g hg => ⟨hg, by simp [Value.ownBlock]⟩
  have hXS : XS (Y.alloc (.cells (Array.replicate s.cs.length (Value.slice none 0 0)) 36)) W3.heap.size s (.slice ac s.cs.length kc) (.slice aw s.ws.length kw) B (root s) (.slice af s.cs.length kf) (.slice none 0 0) := by
    unfold root
    rw [HCT.out]
    exact ⟨(hbz.block _ hwy).trans HHL.out, (HFP3.out.mono fun g _ hlt _ => hd g (by omega)).below' hb3z, OY.nil _ _, by simp [Value.ownBlock], ((HC.out.below' HB3.out).mono fun g _ hlt _ => hd g (by omega)).below' hb3z, ((HW.out.below' HB3.out).mono fun g _ hlt _ => hd g (by omega)).below' hb3z⟩
  have hP := how.rl (D := Dv W3.heap.size (.slice none 0 0)) fun j hj => hd j (by omega)
  rw [List.length_replicate] at hP
  have hlf : PM.lf (List.replicate s.ws.length false) = s.ws.length := by unfold PM.lf; rw [List.count_replicate]; simp
  have HV := Hid.intro' (visit_any s B W3.heap.size _ _ hB (s.cs.length + s.ws.length) 0 _ _ (root s) _ _ _ _ (by rw [hlf, List.length_replicate]; omega) (root_bgn HR.out) (fun l hl => by
    rw [List.eq_of_mem_replicate hl, hlf]
    simp; omega) (root_ok HR.out B) rfl hXS hP)
  rw [show ((0 : Nat) : Int) = 0 from rfl] at HV
  have HBZ := Hid.intro' (HB3.out.trans (hb3z.mono HB3.out.size))
  have HSZ : Hid (w.heap.size ≤ (Y.alloc (.cells (Array.replicate s.cs.length (Value.slice none 0 0)) 36)).heap.size) := HBZ.out.size
  have HW3 := Hid.intro' hwz
  clear hbz how hb3z hwy hwz hd hXS hP hlf hY HHL HBY c13 hbs hmk HFP3 HN3 HB3
  generalize Y.alloc (.cells (Array.replicate s.cs.length (Value.slice none 0 0)) 36) = Z at HV HBZ HSZ ⊢
  refine HV.out.mono ?_
  rintro e W9 ⟨rfl, vp, vm, hm9, hx9⟩
  have HE : Hid (Below w.heap.size w W9 ∧ XS W9 W3.heap.size s (.slice ac s.cs.length kc) (.slice aw s.ws.length kw) B (fnd s B) vp vm) := by
    refine ⟨hm9.kp.below HBZ.out HSZ.out fun i hi e => ?_, hx9⟩
    rcases e with e | e
    · have := HW3.out; omega
    · simp [Value.ownBlock] at e
  clear hm9 hx9 HV HBZ HSZ HW3
  go_wp2
  go_ret
  exact ⟨HE.out.1, _, vp, vm, rfl, HE.out.2⟩

end Go.Proofs.Ytigjbgecdaljkag
