/- What bytes show, as the program tells it. -/
import Derived.Test.YtagmidolcdefiahPk10
import Derived.Test.YtagmidolcdefiahPk11
import Derived.Test.YtagmidolcdefiahCnP
import Derived.Test.YtagmidolcdefiahCnQ
import Derived.Test.YtagmidolcdefiahPlT
import Derived.Test.YtagmidolcdefiahPk3
namespace Go.Proofs.Ytagmidolcdefiah
open Go.RowKit Go.Shelf
theorem loadPw (w : World) (b o : Nat) (v : Value) (h : w.cell? ⟨b, o, none⟩ = some v) : (Instr.loadAt 32 (.pointer (some ⟨b, o, none⟩))).run Try.prog w = .ok v w := by simp [go_sem, h]
theorem quiet_loadPw {C : World → Prop} {K : Act → Prop} {o : Oper} {a : Act} (x : Operand) (b k : Nat) {v : Value} (ho : o.op = .load 32 x) (hx : a.eval x = .pointer (some ⟨b, k, none⟩)) (hr : ∀ w, C w → w.cell? ⟨b, k, none⟩ = some v)
    (h : K (a.put o.dst v)) : o.quiet Try.prog a C K :=
  quiet_val _ (fun w hw => by unfold execOp; simp only [ho, hx, Sem.run_bind, Sem.run_pure, Result.andThen_ok, loadPw w b k v (hr w hw)]) h
/-- how far a check is -/
structure Ch (w W : World) (s : Sn) (vc vw : Value) : Prop where
  nb : NB W w.heap.size s.st vc vw
  z : JB W (w.heap.size + 1) false 0 (.slice none 0 0)
  bel : Below w.heap.size w W
theorem Ch.next {w W W' : World} {s : Sn} {vc vw : Value} (h : Ch w W s vc vw) (hb : Below W.heap.size W W') : Ch w W' s vc vw := ⟨h.nb.below' hb, h.z.below' hb, below_class h.bel hb⟩
theorem Ch.lt {w W : World} {s : Sn} {vc vw : Value} (h : Ch w W s vc vw) : w.heap.size + 2 ≤ W.heap.size := h.z.lt
theorem Ch.new (w : World) (s : Sn) (vc vw : Value) : Ch w ((w.alloc (.cells (nv s.st vc vw).toArray 27)).alloc (.cells #[.bool false, .int .i64 0, .slice none 0 0] 43)) s vc vw := by
  have h2 := JB.new (w.alloc (.cells (nv s.st vc vw).toArray 27)) false 0 (.slice none 0 0)
  rw [World.size_alloc] at h2
  exact ⟨(NB.new w s.st vc vw).below' ((Below.refl _ _).alloc (Nat.le_refl _) _), h2, ((Below.refl w.heap.size w).alloc (Nat.le_refl _) _).alloc (by simp) _⟩
theorem ckw_form {s : Sn} {b : List Nat} (hr : rgt s = true) (h : rdc s.cs.length b = none) : ckw s b = (3, clm0) := by
  unfold ckw
  rw [if_pos hr, h]
theorem ckw_read {s : Sn} {b : List Nat} {x : Clm} {a : Nat} (hr : rgt s = true) (h : rdc s.cs.length b = some (x, a)) : ckw s b = if fsb s x.plan = true then
        (if RM.cst s.st s.ws s.cs x.plan = x.cost then
          (if x.best = true ∧ mrk s x.cost (b.drop a) = false then (10, clm0) else (0, x)) else (10, clm0)) else (9, clm0) := by
  unfold ckw
  rw [if_pos hr, h]
set_option maxRecDepth 100000 in
set_option maxHeartbeats 4000000 in
theorem check_any (s : Sn) (D : Nat → Prop) (vc vw v : Value) (b : List Nat) (w : World) (hc : R2 D w vc s.cs) (hw : R2 D w vw s.ws) (hb : RY D w v b) (_hl : b.length ≤ 100000) :
    Calls Try.prog 13 #[.agg (nv s.st vc vw).toArray, v] w fun e w' => CkP s b w e w' := by
  have HC0 := Hid.intro' (Ch.new w s vc vw)
  have HRI := Hid.intro' (snapRight_any s (fun _ => True) vc vw _ ((hc.mono fun _ _ _ _ => trivial).below' HC0.out.bel) ((hw.mono fun _ _ _ _ => trivial).below' HC0.out.bel))
  have HC := Hid.intro' (hc.mono (D' := fun g => g < w.heap.size) fun g _ h _ => h)
  have HW := Hid.intro' (hw.mono (D' := fun g => g < w.heap.size) fun g _ h _ => h)
  have HY := Hid.intro' (hb.mono (D' := fun g => g < w.heap.size) fun g _ h _ => h)
  have HB0 := Hid.intro' HC0.out.nb
  obtain ⟨av, kv, rfl, _, _, _⟩ := hb.form
  obtain ⟨ac, kc', rfl, _, _⟩ := hc.form
  clear hc hw hb
  go_enter Try.func13, Try.ntmps13
  go_wp2_with (refine wpList_load27g rfl _ rfl w.heap.size s.st _ _ rfl HB0.out ?_)
  refine HRI.out.mono ?_
  rintro e W1 ⟨rfl, hb1⟩
  have HC1 := Hid.intro' (HC0.out.next hb1)
  clear hb1 HC0 HB0 HRI
  cases hr : rgt s with
  | false =>
    have HCK : Hid (ckw s b = (1, clm0)) := by show _ = _; unfold ckw; rw [hr]; rfl
    have HZ1 := Hid.intro' HC1.out.z
    clear hr
    go_wp2_with (refine wpList_storeJ rfl _ _ rfl (w.heap.size + 1) rfl rfl HZ1.out ?_)
    intro W9 hk9 hg9
    have HG9 := Hid.intro' hg9
    have HB9 := Hid.intro' (hk9.below HC1.out.bel HC1.out.bel.size (fun i hi e => by omega))
    clear hk9 hg9 HZ1 HC1
    go_wp2
    exact bodyPost_ret (retJ2 Try.results13 rfl rfl HG9.out) rfl (CkP.no HCK.out HB9.out)
  | true =>
    have HR := Hid.intro' hr
    obtain ⟨n8, hrs⟩ := rgt_rs hr
    have hN : s.cs.length ≤ 8 := by have := hrs.cl; have := hrs.n8; omega
    have hw1 := HC1.out.lt
    clear hr hrs
    have hb2 := (Below.refl W1.heap.size W1).alloc (Nat.le_refl _) (.cells #[.slice av b.length kv] 68)
    have HC2 := Hid.intro' (HC1.out.next hb2)
    have HRR : Hid (RR (W1.alloc (.cells #[.slice av b.length kv] 68)) W1.heap.size b) := ⟨_, RB.new W1 _, ((HY.out.below' HC1.out.bel).mono fun g hg _ _ => by omega).below' hb2⟩
    have c13 : (W1.alloc (.cells #[.slice av b.length kv] 68)).cell? ⟨w.heap.size, 13, none⟩ = some (.slice ac s.cs.length kc') := HC2.out.nb.cell 13
    have HRD := Hid.intro' (kclaim_any HRR.out hN)
    clear hb2
    go_wp2_with fail
    clear c13
    have hmb := HRR.out.lt
    generalize W1.alloc (.cells #[.slice av b.length kv] 68) = W2 at HC2 HRR HRD hmb ⊢
    have hmb1 : w.heap.size + 2 ≤ W1.heap.size := hw1
    generalize W1.heap.size = mb at HRR HRD hmb hmb1 ⊢
    clear hw1 HC1 HRR
    refine HRD.out.mono ?_
    rintro e W3 ⟨hk3, ho⟩
    have HC3 : Hid (Ch w W3 s (.slice ac s.cs.length kc') vw) := ⟨(hk3.block _ HC2.out.nb.lt (by omega)).trans HC2.out.nb, HC2.out.z.kp hk3 (by omega), hk3.below HC2.out.bel HC2.out.bel.size (fun i hi e => by omega)⟩
    have hs23 := hk3.size
    clear hk3 HRD HC2
    rcases ho with ⟨hno, ok, co, a1, n1, c1, rfl⟩ | ⟨c, a, vp, hyes, rfl, hpl, hrr⟩
    · have HCK := Hid.intro' (ckw_form HR.out hno)
      have HJ := Hid.intro' (JB.new W3 false 0 (.slice none 0 0))
      have HBJ := Hid.intro' ((Below.refl W3.heap.size W3).alloc (Nat.le_refl _) (.cells #[.bool false, .int .i64 0, .slice none 0 0] 43))
      have hw3 := HC3.out.lt
      clear hno
      go_wp2_with (refine wpList_storeJ rfl _ _ rfl W3.heap.size rfl rfl HJ.out ?_)
      intro W4 hk4 hg4
      have hb4 := hk4.below HBJ.out HBJ.out.size (fun i hi e => by omega)
      have HC4 := Hid.intro' (HC3.out.next hb4)
      have HZ4 := Hid.intro' HC4.out.z
      clear hk4 hg4 hb4 HJ HBJ HC3
      go_wp2_with (refine wpList_storeJ rfl _ _ rfl (w.heap.size + 1) rfl rfl HZ4.out ?_)
      intro W9 hk9 hg9
      have HG9 := Hid.intro' hg9
      have HB9 := Hid.intro' (hk9.below HC4.out.bel HC4.out.bel.size (fun i hi e => by omega))
      clear hk9 hg9 HZ4 HC4
      go_wp2
      exact bodyPost_ret (retJ2 Try.results13 rfl rfl HG9.out) rfl (CkP.no HCK.out HB9.out)
    · obtain ⟨h9, hrk⟩ := rdc_some hyes
      obtain ⟨bst, co, p⟩ := c
      have HLL : Hid (∀ l ∈ p, l.length ≤ 255) := rdk_len HY.out.1 hrk
      have HPN := Hid.intro' (rdk_form h9 hrk).1
      have HCR := Hid.intro' (ckw_read HR.out hyes)
      dsimp only at HLL HPN HCR hpl ⊢
      obtain ⟨ap, kp, rfl, _, _⟩ := hpl.form
      have HPL : Hid (RL (fun g => W2.heap.size ≤ g) W3 (.slice ap p.length kp) p) := hpl
      have HRR := Hid.intro' hrr
      have HJ := Hid.intro' (JB.new W3 false 0 (.slice none 0 0))
      have HBJ := Hid.intro' ((Below.refl W3.heap.size W3).alloc (Nat.le_refl _) (.cells #[.bool false, .int .i64 0, .slice none 0 0] 43))
      have hw3 := HC3.out.lt
      clear hyes hrk hpl hrr h9
      go_wp2_with (refine wpList_storeJ rfl _ _ rfl W3.heap.size rfl rfl HJ.out ?_)
      intro W4 hk4 hg4
      have hb4 := hk4.below HBJ.out HBJ.out.size (fun i hi e => by omega)
      have HC4 := Hid.intro' (HC3.out.next hb4)
      have HJ4 := Hid.intro' hg4
      have HPL4 := Hid.intro' (HPL.out.below' hb4)
      have HRR4 := Hid.intro' (HRR.out.below' hb4)
      have hmc : mb < W3.heap.size := by omega
      clear hk4 hg4 hb4 HJ HBJ HC3 HPL HRR
      generalize W3.heap.size = cb at HJ4 hw3 hmc ⊢
      have HF := Hid.intro' (feasible_any s (fun _ => True) (.slice ac s.cs.length kc') vw (.slice ap p.length kp) p W4 ((HC.out.below' HC4.out.bel).mono fun _ _ _ _ => trivial) ((HW.out.below' HC4.out.bel).mono fun _ _ _ _ => trivial) (HPL4.out.mono fun _ _ _ _ => trivial) (by have := HPN.out; omega) (fun l hl => by have := HLL.out l hl; omega))
      have c2 : W4.cell? ⟨cb, 2, none⟩ = some (.slice ap p.length kp) := HJ4.out.cell 2
      have HN4 := Hid.intro' HC4.out.nb
      go_wp2_with (refine wpList_load27g rfl _ rfl w.heap.size s.st _ _ rfl HN4.out ?_)
      refine HF.out.mono ?_
      rintro e W5 ⟨rfl, hb5⟩
      have HC5 := Hid.intro' (HC4.out.next hb5)
      have HJ5 := Hid.intro' (HJ4.out.below' hb5)
      have HPL5 := Hid.intro' (HPL4.out.below' hb5)
      have HRR5 := Hid.intro' (HRR4.out.below' hb5)
      clear hb5 c2 HF HC4 HJ4 HPL4 HRR4 HN4
      cases hf : fsb s p with
      | false =>
        have HCK : Hid (ckw s b = (9, clm0)) := by show _ = _; rw [HCR.out, hf]; rfl
        have HZ5 := Hid.intro' HC5.out.z
        clear hf
        go_wp2_with (refine wpList_storeJ rfl _ _ rfl (w.heap.size + 1) rfl rfl HZ5.out ?_)
        intro W9 hk9 hg9
        have HG9 := Hid.intro' hg9
        have HB9 := Hid.intro' (hk9.below HC5.out.bel HC5.out.bel.size (fun i hi e => by omega))
        clear hk9 hg9 HZ5 HC5
        go_wp2
        exact bodyPost_ret (retJ2 Try.results13 rfl rfl HG9.out) rfl (CkP.no HCK.out HB9.out)
      | true =>
        have HFS := Hid.intro' (fsb_fs hf)
        rw [hf, if_pos rfl] at HCR
        have HNT := Hid.intro' (knewTree_any (HC.out.below' HC5.out.bel) (HW.out.below' HC5.out.bel) HR.out)
        have HN5 := Hid.intro' HC5.out.nb
        clear hf
        go_wp2_with (refine wpList_load27g rfl _ rfl w.heap.size s.st _ _ rfl HN5.out ?_)
        refine HNT.out.mono ?_
        rintro e W6 ⟨hb6, tb, vt, rfl, htc⟩
        have HC6 := Hid.intro' (HC5.out.next hb6)
        have HJ6 := Hid.intro' (HJ5.out.below' hb6)
        have HPL6 := Hid.intro' (HPL5.out.below' hb6)
        have HRR6 := Hid.intro' (HRR5.out.below' hb6)
        have HTC := Hid.intro' htc
        clear hb6 htc HNT HC5 HJ5 HPL5 HRR5 HN5
        obtain ⟨ct, HCT⟩ : ∃ c, Hid (RM.cst s.st s.ws s.cs p = c) := ⟨_, Hid.intro' rfl⟩
        rw [HCT.out] at HCR
        have H2 : Hid (∀ w', Below W6.heap.size W6 w' → w'.cell? ⟨cb, 2, none⟩ = some (.slice ap p.length kp)) := fun w' hw => (HJ6.out.below' hw).cell 2
        have H1 : Hid (∀ w', Below W6.heap.size W6 w' → w'.cell? ⟨cb, 1, none⟩ = some (.int .i64 co)) := fun w' hw => (HJ6.out.below' hw).cell 1
        have HCO : Hid (∀ w', Below W6.heap.size W6 w' → Calls Try.prog 29 #[.pointer (some ⟨tb, 0, none⟩), .slice ap p.length kp] w' fun e w'' => e = .returned (.int .i64 ct) ∧ Below w'.heap.size w' w'') := fun w' hw => by
          have h := kcost_any (HTC.out.below' hw) (HPL6.out.below' hw) HFS.out (fun l hl => by have := HLL.out l hl; omega)
          rw [HCT.out] at h
          exact h
        go_wp2_with fail
        refine wp_region_quiet (C := fun w' => Below W6.heap.size W6 w') (by kernel_rfl) (by kernel_rfl) ((Below.refl _ _).drew) ?_
        simp only []
        unfold wpQuiet
        generalize hK : wpQuiet Try.prog _ _ _ _ = K
        go_simp
        refine ⟨_, fun _ _ => rfl, ?_⟩
        subst hK
        unfold wpQuiet
        generalize hK : wpQuiet Try.prog _ _ _ _ = K
        go_simp
        refine ⟨_, fun _ _ => rfl, ?_⟩
        subst hK
        unfold wpQuiet
        generalize hK : wpQuiet Try.prog _ _ _ _ = K
        rw [if_pos (by go_simp)]
        refine quiet_loadPw _ _ _ rfl rfl H2.out ?_
        go_simp
        subst hK
        unfold wpQuiet
        generalize hK : wpQuiet Try.prog _ _ _ _ = K
        go_simp
        refine ⟨_, fun w' hw => (HCO.out w' hw).mono fun e w'' hh => ⟨hh.1, below_class hw hh.2⟩, ?_⟩
        subst hK
        unfold wpQuiet
        generalize hK : wpQuiet Try.prog _ _ _ _ = K
        go_simp
        refine ⟨_, fun _ _ => rfl, ?_⟩
        subst hK
        unfold wpQuiet
        generalize hK : wpQuiet Try.prog _ _ _ _ = K
        rw [if_pos (by go_simp)]
        refine quiet_load3 _ _ _ rfl rfl H1.out ?_
        go_simp
        subst hK
        unfold wpQuiet
        generalize hK : wpQuiet Try.prog _ _ _ _ = K
        go_simp
        refine ⟨_, fun _ _ => rfl, ?_⟩
        subst hK
        refine wpQuiet_nil ?_
        intro W7 hb7
        have HC7 := Hid.intro' (HC6.out.next hb7)
        have HJ7 := Hid.intro' (HJ6.out.below' hb7)
        have HPL7 := Hid.intro' (HPL6.out.below' hb7)
        have HRR7 := Hid.intro' (HRR6.out.below' hb7)
        have HTC7 := Hid.intro' (HTC.out.below' hb7)
        have HZ7 := Hid.intro' HC7.out.z
        clear hb7 H1 H2 HCO HC6 HJ6 HPL6 HRR6 HTC
        by_cases hct : ct = co
        · subst hct
          rw [if_pos rfl] at HCR
          have c0 : W7.cell? ⟨cb, 0, none⟩ = some (.bool bst) := HJ7.out.cell 0
          cases bst with
          | false =>
            have HCK : Hid (ckw s b = (0, ⟨false, ct, p⟩)) := by show _ = _; rw [HCR.out, if_neg (by simp)]
            go_wp2_with (first | (refine wpList_loadJ rfl _ rfl cb rfl HJ7.out ?_) | (refine wpList_storeJ rfl _ _ rfl (w.heap.size + 1) rfl rfl HZ7.out ?_))
            intro W9 hk9 hg9
            have HG9 := Hid.intro' hg9
            have HB9 := Hid.intro' (hk9.below HC7.out.bel HC7.out.bel.size (fun i hi e => by omega))
            have HRL9 : Hid (RL (fun g => w.heap.size ≤ g) W9 (.slice ap p.length kp) p) := (HPL7.out.keep hk9.size fun g hg hlt => hk9.block g hlt (fun e => by omega)).mono fun g hg _ _ => by omega
            clear hk9 hg9 HZ7 HC7 HJ7 HPL7
            go_wp2
            exact bodyPost_ret (retJ2 Try.results13 rfl rfl HG9.out) rfl (CkP.yes HCK.out HB9.out HRL9.out)
          | true =>
            have c1 : W7.cell? ⟨cb, 1, none⟩ = some (.int .i64 ct) := HJ7.out.cell 1
            obtain ⟨vr, hrb, hry⟩ := HRR7.out.bl
            have cr := hrb.cell
            obtain ⟨ar, kr, rfl, _, _, _⟩ := hry.form
            have HSH := Hid.intro' (kshows_any (c := ct) HTC7.out hry)
            obtain ⟨bm, HBM⟩ : ∃ m, Hid (mrk s ct (b.drop a) = m) := ⟨_, Hid.intro' rfl⟩
            rw [HBM.out] at HSH HCR
            clear hrb hry
            generalize (b.drop a).length = ln at cr HSH
            go_wp2_with fail
            refine HSH.out.mono ?_
            rintro e W8 ⟨rfl, hb8⟩
            have HC8 := Hid.intro' (HC7.out.next hb8)
            have HJ8 := Hid.intro' (HJ7.out.below' hb8)
            have HPL8 := Hid.intro' (HPL7.out.below' hb8)
            have HZ8 := Hid.intro' HC8.out.z
            clear hb8 HSH c0 c1 cr HC7 HJ7 HPL7 HZ7 HRR7 HTC7
            cases bm with
            | true =>
              have HCK : Hid (ckw s b = (0, ⟨true, ct, p⟩)) := by show _ = _; rw [HCR.out, if_neg (by simp)]
              go_wp2_with (first | (refine wpList_loadJ rfl _ rfl cb rfl HJ8.out ?_) | (refine wpList_storeJ rfl _ _ rfl (w.heap.size + 1) rfl rfl HZ8.out ?_))
              intro W9 hk9 hg9
              have HG9 := Hid.intro' hg9
              have HB9 := Hid.intro' (hk9.below HC8.out.bel HC8.out.bel.size (fun i hi e => by omega))
              have HRL9 : Hid (RL (fun g => w.heap.size ≤ g) W9 (.slice ap p.length kp) p) := (HPL8.out.keep hk9.size fun g hg hlt => hk9.block g hlt (fun e => by omega)).mono fun g hg _ _ => by omega
              clear hk9 hg9 HZ8 HC8 HJ8 HPL8
              go_wp2
              exact bodyPost_ret (retJ2 Try.results13 rfl rfl HG9.out) rfl (CkP.yes HCK.out HB9.out HRL9.out)
            | false =>
              have HCK : Hid (ckw s b = (10, clm0)) := by show _ = _; rw [HCR.out, if_pos (by simp)]
              go_wp2_with (refine wpList_storeJ rfl _ _ rfl (w.heap.size + 1) rfl rfl HZ8.out ?_)
              intro W9 hk9 hg9
              have HG9 := Hid.intro' hg9
              have HB9 := Hid.intro' (hk9.below HC8.out.bel HC8.out.bel.size (fun i hi e => by omega))
              clear hk9 hg9 HZ8 HC8
              go_wp2
              exact bodyPost_ret (retJ2 Try.results13 rfl rfl HG9.out) rfl (CkP.no HCK.out HB9.out)
        · have hcz : (ct != co) = true := by simpa using hct
          have HCK : Hid (ckw s b = (10, clm0)) := by show _ = _; rw [HCR.out, if_neg hct]
          go_wp2_with (refine wpList_storeJ rfl _ _ rfl (w.heap.size + 1) rfl rfl HZ7.out ?_)
          intro W9 hk9 hg9
          have HG9 := Hid.intro' hg9
          have HB9 := Hid.intro' (hk9.below HC7.out.bel HC7.out.bel.size (fun i hi e => by omega))
          clear hk9 hg9 HZ7 HC7
          go_wp2
          exact bodyPost_ret (retJ2 Try.results13 rfl rfl HG9.out) rfl (CkP.no HCK.out HB9.out)
end Go.Proofs.Ytagmidolcdefiah
