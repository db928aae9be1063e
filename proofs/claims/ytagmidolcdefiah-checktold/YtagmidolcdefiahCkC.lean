/- What bytes show, as the document looks at them. -/
import Derived.Test.YtagmidolcdefiahPk11
import Derived.Test.YtagmidolcdefiahCkR
import Derived.Test.YtagmidolcdefiahCkV
import Derived.Test.YtagmidolcdefiahPk5
import Derived.Test.YtagmidolcdefiahPk4
import Derived.Test.YtagmidolcdefiahSrO
namespace Go.Proofs.Ytagmidolcdefiah
open Go.RowKit Go.Shelf
theorem loadPl (w : World) (b o : Nat) (v : Value) (h : w.cell? ⟨b, o, none⟩ = some v) : (Instr.loadAt 32 (.pointer (some ⟨b, o, none⟩))).run Try.prog w = .ok v w := by simp [go_sem, h]
theorem quiet_loadPl {C : World → Prop} {K : Act → Prop} {o : Oper} {a : Act} (x : Operand) (b k : Nat) {v : Value} (ho : o.op = .load 32 x) (hx : a.eval x = .pointer (some ⟨b, k, none⟩)) (hr : ∀ w, C w → w.cell? ⟨b, k, none⟩ = some v)
    (h : K (a.put o.dst v)) : o.quiet Try.prog a C K :=
  quiet_val _ (fun w hw => by unfold execOp; simp only [ho, hx, Sem.run_bind, Sem.run_pure, Result.andThen_ok, loadPl w b k v (hr w hw)]) h
theorem calm_restY {W0 : World} {K : Act → Prop} {o : Oper} {a : Act} (x y : Operand) {aa : Option Addr} {n cap j : Nat} (ho : o.op = .slice 33 x (some y) none none) (hx : a.eval x = .slice aa n cap) (hy : a.eval y = .int .i64 (j : Int)) (hj : j ≤ n)
    (h : K (a.put o.dst (.slice (restA aa cap j) (n - j) (cap - j)))) : Oper.calm Try.prog W0 o a K :=
  calm_val _ (fun w hw => by unfold execOp; simp only [ho, hx, hy, Option.map_none, Option.map_some, Sem.run_bind, Sem.run_pure, Result.andThen_ok, sliceY_rest aa n cap j w hj]) h
theorem retK2 {fn : Func} {p t : Tmp} (hf : fn.results = #[.cell p 46, .tmp t]) {tmps : Array Value} {w : World} {b : Nat} {vp : Value} {co : Int} {ok : Bool} {u : Value} (hp : tmps.getD p undef = .pointer (some ⟨b, 0, none⟩)) (ht : tmps.getD t undef = u) (H : DcB w b ok co vp) :
    (results fn tmps).run Try.prog w = .ok (.tuple #[.agg #[.bool ok, .int .i64 co, vp], u]) w := by
  have hp' : tmps[p]?.getD undef = .pointer (some ⟨b, 0, none⟩) := by simpa using hp
  have ht' : tmps[t]?.getD undef = u := by simpa using ht
  have H' : w.heap[b]? = some (.cells #[.bool ok, .int .i64 co, vp] 46 (0, 0)) := H
  simp [results, hf, hp', ht', asAddr, run_loadVar_row w b 46 46 _ _ _ H' Try.underlying46 rfl infoDc]
theorem built_walk (s : St) (vc vw : Value) (a : Option Addr) (n c : Nat) (co : Int) : Try.prog.built 79 [(0, .agg (nv s vc vw).toArray), (1, .int .i64 co), (2, .slice a n c), (3, .bool true)] = some (wcl s vc vw co (.slice a n c) true).toArray := by kernel_rfl
set_option maxRecDepth 100000 in
set_option maxHeartbeats 4000000 in
theorem rcheck_any (s : Sn) (D : Nat → Prop) (vc vw v : Value) (b : List Nat) (w : World) (hc : R2 D w vc s.cs) (hw : R2 D w vw s.ws) (hb : RY D w v b) (hl : b.length ≤ 1000000) :
    Calls Try.prog 14 #[.agg (nv s.st vc vw).toArray, v] w fun e w' => CkP s b w e w' := by
  obtain ⟨av, kv, rfl, _, _, _⟩ := hb.form
  have hbx := (Below.refl w.heap.size w).alloc (Nat.le_refl _) (.cells (nv s.st vc vw).toArray 27)
  have hb2 := hbx.alloc (by simp) (.cells #[.bool false, .int .i64 0, .slice none 0 0] 46)
  have HG := Hid.intro' (DcB.new (w.alloc (.cells (nv s.st vc vw).toArray 27)) false 0 (.slice none 0 0))
  have hn := (NB.new w s.st vc vw).below' ((Below.refl _ (w.alloc (.cells (nv s.st vc vw).toArray 27))).alloc (Nat.le_refl _) (.cells #[.bool false, .int .i64 0, .slice none 0 0] 46))
  have HN := Hid.intro' hn
  have HB := Hid.intro' hb2
  have HRR := Hid.intro' (rsnapRight_any s D vc vw _ (hc.below' hb2) (hw.below' hb2))
  have HC : Hid (R2 (fun g => g < w.heap.size) w vc s.cs) := hc.mono fun g _ h _ => h
  have HW : Hid (R2 (fun g => g < w.heap.size) w vw s.ws) := hw.mono fun g _ h _ => h
  have HR : Hid (RY (fun g => g < w.heap.size) w (.slice av b.length kv) b) := hb.mono fun g _ h _ => h
  have hsz : (w.alloc (.cells (nv s.st vc vw).toArray 27)).heap.size = w.heap.size + 1 := by simp
  rw [hsz] at HG
  obtain ⟨ac, kc, rfl, _, _⟩ := hc.form
  clear hbx hb2 hsz hn hc hw hb
  go_enter Try.func14, Try.ntmps14
  go_wp2_with (refine wpList_load27g rfl _ rfl w.heap.size s.st _ _ rfl HN.out ?_)
  refine HRR.out.mono ?_
  rintro e W2 ⟨rfl, hb2⟩
  have HG2 := Hid.intro' (HG.out.below' hb2)
  have HB2 := Hid.intro' (below_class HB.out hb2)
  have HN2 := Hid.intro' (HN.out.below' hb2)
  clear hb2 HG HB HN HRR
  cases hr : rgt s with
  | false =>
    have HCK : Hid (ckw s b = (1, clm0)) := by show _ = _; unfold ckw; rw [hr]; rfl
    clear hr
    go_wp2_with (refine wpList_storeDc rfl _ _ rfl (w.heap.size + 1) rfl rfl HG2.out ?_)
    intro W3 hk3 hg3
    have HG3 := Hid.intro' hg3
    have HB3 := Hid.intro' (hk3.below HB2.out HB2.out.size (fun i hi e => by omega))
    clear hk3 hg3 HG2 HB2
    go_wp2
    exact bodyPost_ret (retK2 Try.results14 rfl rfl HG3.out) rfl (CkP.no HCK.out HB3.out)
  | true =>
    have HRG := Hid.intro' hr
    obtain ⟨n8, hrs⟩ := rgt_rs hr
    have hcl : s.cs.length ≤ 8 := by have := hrs.cl; have := hrs.n8; omega
    have hwl : s.ws.length ≤ 128 := hrs.wl
    clear hr hrs
    have HRD := Hid.intro' (rread_any s.cs.length (fun g => g < w.heap.size) b _ W2 (HR.out.below' HB2.out) hcl hl)
    have c13 : W2.cell? ⟨w.heap.size, 13, none⟩ = some (.slice ac s.cs.length kc) := HN2.out.cell 13
    go_wp2_with fail
    refine HRD.out.mono ?_
    rintro e W4 ⟨hb4, hout⟩
    have HG4 := Hid.intro' (HG2.out.below' hb4)
    have HB4 := Hid.intro' (below_class HB2.out hb4)
    have HN4 := Hid.intro' (HN2.out.below' hb4)
    have hW2 := HG2.out.lt
    have hW4 := hb4.size
    clear hb4 HG2 HB2 HN2 HRD c13
    have HZ := Hid.intro' (DcB.new W4 false 0 (.slice none 0 0))
    have hbz := (Below.refl W4.heap.size W4).alloc (Nat.le_refl _) (.cells #[.bool false, .int .i64 0, .slice none 0 0] 46)
    have HBZ := Hid.intro' hbz
    clear hbz
    rcases hout with ⟨hno, ok0, co0, a0, n0, k0, ax, rfl⟩ | ⟨c, a, vp, hyes, rfl, hrl⟩
    · have HCK : Hid (ckw s b = (3, clm0)) := by show _ = _; unfold ckw; rw [if_pos HRG.out, hno]
      clear hno
      go_wp2_with (refine wpList_storeDc rfl _ _ rfl W4.heap.size rfl rfl HZ.out ?_)
      intro W5 hk5 hg5
      have hb5 := hk5.below HBZ.out HBZ.out.size (fun i hi e => by omega)
      have HG5 := Hid.intro' (HG4.out.below' hb5)
      have HB5 := Hid.intro' (below_class HB4.out hb5)
      clear hk5 hg5 hb5 HG4 HB4 HN4 HZ HBZ
      go_wp2_with (refine wpList_storeDc rfl _ _ rfl (w.heap.size + 1) rfl rfl HG5.out ?_)
      intro W9 hk9 hg9
      have HG9 := Hid.intro' hg9
      have HB9 := Hid.intro' (hk9.below HB5.out HB5.out.size (fun i hi e => by omega))
      clear hk9 hg9 HG5 HB5
      go_wp2
      exact bodyPost_ret (retK2 Try.results14 rfl rfl HG9.out) rfl (CkP.no HCK.out HB9.out)
    · have HRC := Hid.intro' hyes
      obtain ⟨h9, hrk⟩ := rdc_some hyes
      obtain ⟨hpl, ha9, hal⟩ := rdk_form h9 hrk
      have HLL := Hid.intro' (rdk_len HR.out.1 hrk)
      have HPL := Hid.intro' hpl
      obtain ⟨ok, co, p⟩ := c
      obtain ⟨ap, kp, rfl, _, _⟩ := hrl.form
      have HRL : Hid (RL (fun g => W2.heap.size ≤ g) W4 (.slice ap p.length kp) p) := hrl
      clear hyes hrk hpl hrl h9
      dsimp only at HPL HLL ⊢
      go_wp2_with (refine wpList_storeDc rfl _ _ rfl W4.heap.size rfl rfl HZ.out ?_)
      intro W5 hk5 hg5
      have hb5 := hk5.below HBZ.out HBZ.out.size (fun i hi e => by omega)
      have HG5 := Hid.intro' (HG4.out.below' hb5)
      have HB5 := Hid.intro' (below_class HB4.out hb5)
      have HN5 := Hid.intro' (HN4.out.below' hb5)
      have HRL5 := Hid.intro' (HRL.out.below' hb5)
      have HK5 := Hid.intro' hg5
      clear hk5 hg5 hb5 HG4 HB4 HN4 HZ HBZ HRL
      generalize hcb : W4.heap.size = cb at HK5 ⊢
      have hcb2 : w.heap.size + 2 ≤ cb := by omega
      have hW2' : w.heap.size + 2 ≤ W2.heap.size := by omega
      clear hcb hW4 hW2
      have HF := Hid.intro' (rfeasible_any s (fun _ => True) (.slice ac s.cs.length kc) vw (.slice ap p.length kp) p W5 ((HC.out.below' HB5.out).mono fun _ _ _ _ => trivial) ((HW.out.below' HB5.out).mono fun _ _ _ _ => trivial) (HRL5.out.mono fun _ _ _ _ => trivial) (by have := HPL.out; omega) (fun l hl => by have := HLL.out l hl; omega))
      have c2 : W5.cell? ⟨cb, 2, none⟩ = some (.slice ap p.length kp) := HK5.out.cell 2
      go_wp2_with (refine wpList_load27g rfl _ rfl w.heap.size s.st _ _ rfl HN5.out ?_)
      refine HF.out.mono ?_
      rintro e W6 ⟨rfl, hb6⟩
      have HG6 := Hid.intro' (HG5.out.below' hb6)
      have HB6 := Hid.intro' (below_class HB5.out hb6)
      have HN6 := Hid.intro' (HN5.out.below' hb6)
      have HRL6 := Hid.intro' (HRL5.out.below' hb6)
      have HK6 := Hid.intro' (HK5.out.below' hb6)
      clear hb6 c2 HF HG5 HB5 HN5 HRL5 HK5
      cases hf : fsb s p with
      | false =>
        have HCK : Hid (ckw s b = (9, clm0)) := by
          show _ = _
          unfold ckw
          rw [if_pos HRG.out, HRC.out]
          show (if fsb s p = true then _ else _) = _
          rw [hf]; rfl
        clear hf
        go_wp2_with (refine wpList_storeDc rfl _ _ rfl (w.heap.size + 1) rfl rfl HG6.out ?_)
        intro W9 hk9 hg9
        have HG9 := Hid.intro' hg9
        have HB9 := Hid.intro' (hk9.below HB6.out HB6.out.size (fun i hi e => by omega))
        clear hk9 hg9 HG6 HB6
        go_wp2
        exact bodyPost_ret (retK2 Try.results14 rfl rfl HG9.out) rfl (CkP.no HCK.out HB9.out)
      | true =>
        have HFE := Hid.intro' hf
        clear hf
        obtain ⟨ct, HCT⟩ : ∃ c, Hid (RM.cst s.st s.ws s.cs p = c) := ⟨_, Hid.intro' rfl⟩
        have HNB : Hid (∀ w', Below W6.heap.size W6 w' → NB w' w.heap.size s.st (.slice ac s.cs.length kc) vw) := fun w' hw => HN6.out.below' hw
        have H2 : Hid (∀ w', Below W6.heap.size W6 w' → w'.cell? ⟨cb, 2, none⟩ = some (.slice ap p.length kp)) := fun w' hw => (HK6.out.below' hw).cell 2
        have H1 : Hid (∀ w', Below W6.heap.size W6 w' → w'.cell? ⟨cb, 1, none⟩ = some (.int .i64 co)) := fun w' hw => (HK6.out.below' hw).cell 1
        have HCO : Hid (∀ w', Below W6.heap.size W6 w' → Calls Try.prog 17 #[.agg (nv s.st (.slice ac s.cs.length kc) vw).toArray, .slice ap p.length kp] w' fun e w'' => e = .returned (.int .i64 ct) ∧ Below w'.heap.size w' w'') := fun w' hw => by
          have h := rcost_any s (fun _ => True) (.slice ac s.cs.length kc) vw (.slice ap p.length kp) p w' ((HC.out.below' (below_class HB6.out hw)).mono fun _ _ _ _ => trivial) ((HW.out.below' (below_class HB6.out hw)).mono fun _ _ _ _ => trivial) ((HRL6.out.below' hw).mono fun _ _ _ _ => trivial) HFE.out (fun l hl => by have := HLL.out l hl; omega)
          rw [HCT.out] at h
          exact h
        go_wp2_with fail
        refine wp_region_quiet (C := fun w' => Below W6.heap.size W6 w') (by kernel_rfl) (by kernel_rfl) ((Below.refl _ _).drew) ?_
        simp only []
        unfold wpQuiet
        generalize hK : wpQuiet Try.prog _ _ _ _ = K
        rw [if_pos (by go_simp)]
        refine quiet_load27 _ w.heap.size s.st _ _ rfl rfl HNB.out ?_
        go_simp
        subst hK
        unfold wpQuiet
        generalize hK : wpQuiet Try.prog _ _ _ _ = K
        go_simp
        refine ⟨_, fun _ _ => rfl, ?_⟩
        subst hK
        unfold wpQuiet
        generalize hK : wpQuiet Try.prog _ _ _ _ = K
        rw [if_pos (by go_simp)]
        refine quiet_loadPl _ _ _ rfl rfl H2.out ?_
        go_simp
        subst hK
        unfold wpQuiet
        generalize hK : wpQuiet Try.prog _ _ _ _ = K
        go_simp
        refine ⟨_, fun w' hw => (HCO.out w' hw).mono fun e w'' hh => ⟨hh.1, below_class hw hh.2⟩, ?_⟩
        subst hK
        unfold wpQuiet
        generalize hK : wpQuiet Try.prog _ _ _ _ = K
        go_simp
        refine ⟨_, fun _ _ => rfl, ?_⟩
        subst hK
        unfold wpQuiet
        generalize hK : wpQuiet Try.prog _ _ _ _ = K
        rw [if_pos (by go_simp)]
        refine quiet_load3 _ _ _ rfl rfl H1.out ?_
        go_simp
        subst hK
        unfold wpQuiet
        generalize hK : wpQuiet Try.prog _ _ _ _ = K
        go_simp
        refine ⟨_, fun _ _ => rfl, ?_⟩
        subst hK
        refine wpQuiet_nil ?_
        intro W7 hb7
        have HG7 := Hid.intro' (HG6.out.below' hb7)
        have HB7 := Hid.intro' (below_class HB6.out hb7)
        have HN7 := Hid.intro' (HN6.out.below' hb7)
        have HRL7 := Hid.intro' (HRL6.out.below' hb7)
        have HK7 := Hid.intro' (HK6.out.below' hb7)
        clear hb7 HNB H1 H2 HCO HG6 HB6 HN6 HRL6 HK6
        by_cases hct : ct = co
        · subst hct
          have c0 : W7.cell? ⟨cb, 0, none⟩ = some (.bool ok) := HK7.out.cell 0
          have HCH : Hid (ckw s b = if ok = true ∧ mrk s ct (b.drop a) = false then (10, clm0) else (0, ⟨ok, ct, p⟩)) := by
            show _ = _
            unfold ckw
            rw [if_pos HRG.out, HRC.out]
            show (if fsb s p = true then (if RM.cst s.st s.ws s.cs p = ct then _ else _) else _) = _
            rw [if_pos HFE.out, HCT.out, if_pos rfl]
          cases ok with
          | false =>
            have HCK : Hid (ckw s b = (0, ⟨false, ct, p⟩)) := by show _ = _; rw [HCH.out, if_neg (by simp)]
            go_wp2_with (first | (refine wpList_loadDc rfl _ rfl cb rfl HK7.out ?_) | (refine wpList_storeDc rfl _ _ rfl (w.heap.size + 1) rfl rfl HG7.out ?_))
            intro W9 hk9 hg9
            have HG9 := Hid.intro' hg9
            have HB9 := Hid.intro' (hk9.below HB7.out HB7.out.size (fun i hi e => by omega))
            have HRL9 : Hid (RL (fun g => w.heap.size ≤ g) W9 (.slice ap p.length kp) p) := (HRL7.out.keep hk9.size fun g hg hlt => hk9.block g hlt (fun e => by omega)).mono fun g hg _ _ => by omega
            clear hk9 hg9 HG7 HB7 HK7 HRL7
            go_wp2
            exact bodyPost_ret (retK2 Try.results14 rfl rfl HG9.out) rfl (CkP.yes HCK.out HB9.out HRL9.out)
          | true =>
            have hdr := (Below.refl W7.heap.size W7).drew
            have HNB : Hid (∀ w', Below W7.drew.heap.size W7.drew w' → NB w' w.heap.size s.st (.slice ac s.cs.length kc) vw) := fun w' hw => HN7.out.below' (hdr.trans hw)
            have H1 : Hid (∀ w', Below W7.drew.heap.size W7.drew w' → w'.cell? ⟨cb, 1, none⟩ = some (.int .i64 ct)) := fun w' hw => (HK7.out.below' (hdr.trans hw)).cell 1
            go_wp2_with fail
            clear c0
            refine wp_region_tail 6 (by kernel_rfl) (by kernel_rfl) ?_
            simp only [List.take_succ_cons, List.take_zero, List.drop_succ_cons, List.drop_zero]
            unfold wpCalm
            generalize hK : wpCalm Try.prog _ _ _ _ = K
            rw [if_pos (by go_simp)]
            refine calm_load27 _ w.heap.size s.st _ _ rfl rfl HNB.out ?_
            go_simp
            subst hK
            unfold wpCalm
            generalize hK : wpCalm Try.prog _ _ _ _ = K
            unfold Oper.calm
            go_simp
            refine ⟨_, fun _ _ => rfl, ?_⟩
            subst hK
            unfold wpCalm
            generalize hK : wpCalm Try.prog _ _ _ _ = K
            rw [if_pos (by go_simp)]
            refine calm_load3 _ _ _ rfl rfl H1.out ?_
            go_simp
            subst hK
            unfold wpCalm
            generalize hK : wpCalm Try.prog _ _ _ _ = K
            unfold Oper.calm
            go_simp
            refine ⟨_, fun _ _ => rfl, ?_⟩
            subst hK
            unfold wpCalm
            generalize hK : wpCalm Try.prog _ _ _ _ = K
            unfold Oper.calm
            go_simp
            refine ⟨_, fun _ _ => rfl, ?_⟩
            subst hK
            unfold wpCalm
            generalize hK : wpCalm Try.prog _ _ _ _ = K
            rw [if_pos (by go_simp)]
            refine calm_restY _ _ rfl rfl rfl hal ?_
            go_simp
            subst hK
            refine wpCalm_nil ?_
            intro W8 hb8
            have hbd := hdr.trans hb8
            have HG8 := Hid.intro' (HG7.out.below' hbd)
            have HB8 := Hid.intro' (below_class HB7.out hbd)
            have HN8 := Hid.intro' (HN7.out.below' hbd)
            have HRL8 := Hid.intro' (HRL7.out.below' hbd)
            have HK8 := Hid.intro' (HK7.out.below' hbd)
            have HRY := Hid.intro' ((HR.out.below' HB8.out).rest hal)
            clear hbd hb8 hdr HNB H1 HG7 HB7 HN7 HRL7 HK7
            generalize restA av kv a = ar at HRY ⊢
            generalize hrn : b.length - a = rn at HRY ⊢
            generalize kv - a = rk at HRY ⊢
            clear hrn
            have hbs := built_walk s.st (.slice ac s.cs.length kc) vw ar rn rk ct
            have hby := (Below.refl W8.heap.size W8).alloc (Nat.le_refl _) (.cells (wcl s.st (.slice ac s.cs.length kc) vw ct (.slice ar rn rk) true).toArray 79)
            have HHL : Hid ((W8.alloc (.cells (wcl s.st (.slice ac s.cs.length kc) vw ct (.slice ar rn rk) true).toArray 79)).heap[W8.heap.size]? = some (.cells (wcl s.st (.slice ac s.cs.length kc) vw ct (.slice ar rn rk) true).toArray 79 (0, 0))) := World.alloc_heap_new W8 _
            have HBY := Hid.intro' hby
            have c13 : (W8.alloc (.cells (wcl s.st (.slice ac s.cs.length kc) vw ct (.slice ar rn rk) true).toArray 79)).cell? ⟨w.heap.size, 13, none⟩ = some (.slice ac s.cs.length kc) := (HN8.out.below' hby).cell 13
            generalize hY : W8.alloc (.cells (wcl s.st (.slice ac s.cs.length kc) vw ct (.slice ar rn rk) true).toArray 79) = Y at hby HHL HBY c13
            clear hby
            have hmk := mkL s.cs.length (by omega)
            go_wp2_with (refine wpList_buildS rfl _ _ rfl [(0, .agg (nv s.st (.slice ac s.cs.length kc) vw).toArray), (1, .int .i64 ct), (2, .slice ar rn rk), (3, .bool true)] (by simp [Act.eval]) _ hbs ?_)
            clear hmk
            have hbz := (Below.refl Y.heap.size Y).alloc (Nat.le_refl _) (.cells (Array.replicate s.cs.length (Value.slice none 0 0)) 55)
            have how := OW.make (B := Y.heap.size) Y s.cs.length (Nat.le_refl _)
            rw [List.toArray_replicate] at how
            have hb3z := below_class HBY.out hbz
            have hwy : W8.heap.size < Y.heap.size := (Array.getElem?_eq_some_iff.1 HHL.out).1
            have hwz := HB8.out.size
            have hcb8 := HK8.out.lt
            have hWS : WS (Y.alloc (.cells (Array.replicate s.cs.length (Value.slice none 0 0)) 55)) W8.heap.size s (.slice ac s.cs.length kc) vw ct (.slice ar rn rk) true (b.drop a) :=
              ⟨(hbz.block _ hwy).trans HHL.out, (HRY.out.mono fun g hg _ _ => by omega).below' hb3z, ((HC.out.below' HB8.out).mono fun g hg _ _ => by omega).below' hb3z, ((HW.out.below' HB8.out).mono fun g hg _ _ => by omega).below' hb3z⟩
            have hP := how.rl (D := fun g => g ≠ W8.heap.size) fun j hj => by omega
            rw [List.length_replicate] at hP
            have hlf : PM.lf (List.replicate s.ws.length false) = s.ws.length := by unfold PM.lf; rw [List.count_replicate]; simp
            have HV := Hid.intro' (cvisit_any s ct W8.heap.size _ _ (s.cs.length + s.ws.length) 0 _ _ (some (b.drop a)) _ _ _ _ _ (by rw [hlf, List.length_replicate]; omega) (root_bgn HRG.out) (fun l hl => by
              rw [List.eq_of_mem_replicate hl, hlf]
              simp; omega) (Rov.yes _) hWS hP)
            rw [show ((0 : Nat) : Int) = 0 from rfl] at HV
            have HBZ := Hid.intro' (HB8.out.trans (hb3z.mono HB8.out.size))
            have HGZ := Hid.intro' (HG8.out.below' hb3z)
            have HKZ := Hid.intro' (HK8.out.below' hb3z)
            have HRLZ := Hid.intro' ((HRL8.out.mono (D' := fun g => W2.heap.size ≤ g ∧ g < W8.heap.size) fun g hg hlt _ => ⟨hg, hlt⟩).below' hb3z)
            have hg8 := HG8.out.lt
            clear hbz how hb3z hwy hWS hP hlf hY HHL HBY c13 hbs HRY HG8 HB8 HN8 HRL8 HK8
            generalize Y.alloc (.cells (Array.replicate s.cs.length (Value.slice none 0 0)) 55) = Z at HV HBZ HGZ HKZ HRLZ ⊢
            generalize W8.heap.size = xb at HV HRLZ hwz hcb8 hg8 ⊢
            refine HV.out.mono ?_
            rintro e W9 ⟨rfl, hk9, hwr⟩
            obtain ⟨vm, ok9, ms9, hws, hro⟩ := hwr.out
            have HB9 := Hid.intro' (Kp.below hk9 HBZ.out HBZ.out.size (fun i hi e => by omega))
            have HG9 := Hid.intro' (HGZ.out.kp hk9 (fun e => by omega))
            have HK9 := Hid.intro' (HKZ.out.kp hk9 (fun e => by omega))
            have HRL9 : Hid (RL (fun g => W2.heap.size ≤ g) W9 (.slice ap p.length kp) p) := (HRLZ.out.keep (Kp.size hk9) fun g hg hlt => Kp.block hk9 g hlt (fun e => by omega)).mono fun g hg _ _ => hg.1
            have c17 : W9.cell? ⟨xb, 17, none⟩ = some (.bool ok9) := hws.cell 17
            obtain ⟨a9, k9, rfl, _, _, _⟩ := hws.ms.form
            have c16 : W9.cell? ⟨xb, 16, none⟩ = some (.slice a9 ms9.length k9) := hws.cell 16
            rw [Option.bind_some] at hro
            clear hwr hws hk9 HV HBZ HGZ HKZ HRLZ
            rcases hro with ⟨rfl, hro⟩ | ⟨rfl, hro⟩
            · cases ms9 with
              | nil =>
                have HCK : Hid (ckw s b = (0, ⟨true, ct, p⟩)) := by
                  show _ = _
                  rw [HCH.out, if_neg]
                  unfold mrk
                  rw [hro]
                  simp
                clear hro
                go_wp2_with (first | (refine wpList_loadDc rfl _ rfl cb rfl HK9.out ?_) | (refine wpList_storeDc rfl _ _ rfl (w.heap.size + 1) rfl rfl HG9.out ?_))
                intro W11 hk11 hg11
                have HG11 := Hid.intro' hg11
                have HB11 := Hid.intro' (hk11.below HB9.out HB9.out.size (fun i hi e => by omega))
                have HRL11 : Hid (RL (fun g => w.heap.size ≤ g) W11 (.slice ap p.length kp) p) := (HRL9.out.keep hk11.size fun g hg hlt => hk11.block g hlt (fun e => by omega)).mono fun g hg _ _ => by omega
                clear hk11 hg11 HG9 HB9 HK9 HRL9
                go_wp2
                exact bodyPost_ret (retK2 Try.results14 rfl rfl HG11.out) rfl (CkP.yes HCK.out HB11.out HRL11.out)
              | cons m9 r9 =>
                have HCK : Hid (ckw s b = (10, clm0)) := by
                  show _ = _
                  rw [HCH.out, if_pos]
                  unfold mrk
                  rw [hro]
                  simp
                have q9 : (0 : Int) < (r9.length : Int) + 1 := by omega
                clear hro
                go_wp2_with (refine wpList_storeDc rfl _ _ rfl (w.heap.size + 1) rfl rfl HG9.out ?_)
                intro W11 hk11 hg11
                have HG11 := Hid.intro' hg11
                have HB11 := Hid.intro' (hk11.below HB9.out HB9.out.size (fun i hi e => by omega))
                clear hk11 hg11 HG9 HB9
                go_wp2
                exact bodyPost_ret (retK2 Try.results14 rfl rfl HG11.out) rfl (CkP.no HCK.out HB11.out)
            · have HCK : Hid (ckw s b = (10, clm0)) := by
                show _ = _
                rw [HCH.out, if_pos]
                unfold mrk
                rw [hro]
                simp
              clear hro
              go_wp2_with (refine wpList_storeDc rfl _ _ rfl (w.heap.size + 1) rfl rfl HG9.out ?_)
              intro W11 hk11 hg11
              have HG11 := Hid.intro' hg11
              have HB11 := Hid.intro' (hk11.below HB9.out HB9.out.size (fun i hi e => by omega))
              clear hk11 hg11 HG9 HB9
              go_wp2
              exact bodyPost_ret (retK2 Try.results14 rfl rfl HG11.out) rfl (CkP.no HCK.out HB11.out)
        · have hcz : (ct != co) = true := by simpa using hct
          have HCK : Hid (ckw s b = (10, clm0)) := by
            show _ = _
            unfold ckw
            rw [if_pos HRG.out, HRC.out]
            show (if fsb s p = true then (if RM.cst s.st s.ws s.cs p = co then _ else _) else _) = _
            rw [if_pos HFE.out, HCT.out, if_neg hct]
          go_wp2_with (refine wpList_storeDc rfl _ _ rfl (w.heap.size + 1) rfl rfl HG7.out ?_)
          intro W9 hk9 hg9
          have HG9 := Hid.intro' hg9
          have HB9 := Hid.intro' (hk9.below HB7.out HB7.out.size (fun i hi e => by omega))
          clear hk9 hg9 HG7 HB7
          go_wp2
          exact bodyPost_ret (retK2 Try.results14 rfl rfl HG9.out) rfl (CkP.no HCK.out HB9.out)
end Go.Proofs.Ytagmidolcdefiah
