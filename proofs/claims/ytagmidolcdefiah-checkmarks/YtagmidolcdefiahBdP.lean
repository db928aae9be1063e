/- The least cost of a beginning, as the program tells it: its loop. -/
import Derived.Test.YtagmidolcdefiahPk17
namespace Go.Proofs.Ytagmidolcdefiah
open Go.RowKit Go.Shelf
attribute [local go_sem] Oper.semAt_some
section
variable (s : Sn) (k B b eb mb : Nat) (vc vw : Value) (Wz : World)
/-- what the loop keeps -/
def LI (pre : List (Int × Int)) (F : Nat → Prop) (A : World) : Prop := KB Wz (bp b eb mb) F A ∧ (∀ i, bp b eb mb i → i < Wz.heap.size) ∧ ∃ z, bfold s k (some (bz0 s)) pre = some z ∧ Bg A b eb mb s.st vc vw z.es (lfm s z.st) z.co ∧ Bok s z
/-- what it leaves where it ends early -/
def LX (c : Code) (pre : List (Int × Int)) (F : Nat → Prop) (A : World) : Prop := c = .ret ∧ bfold s k (some (bz0 s)) pre = none ∧ B + 1 + 1 + 1 < Wz.heap.size ∧ KB Wz (fun i => bp b eb mb i ∨ i = B + 1 + 1 ∨ i = B + 1 + 1 + 1) F A ∧
  A.heap[B + 1 + 1]? = some (.cells #[.int .i64 0] 3 (0, 0)) ∧ A.heap[B + 1 + 1 + 1]? = some (.cells #[.int .i64 9] 36 (0, 0))
theorem li_stb : Stb (LI s k b eb mb vc vw Wz) := by
  rintro pre F F' A A' ⟨h1, h2, z, h3, h4, h5⟩ hk hF
  exact ⟨h1.stb hk hF, h2, z, h3, h4.keep fun i hi => hk.block i (h4.lt i hi) (h1.2 i (h2 i hi)), h5⟩
theorem lx_stb (c : Code) : Stb (LX s k B b eb mb Wz c) := by
  rintro pre F F' A A' ⟨h1, h2, h3, h4, h5, h6⟩ hk hF
  exact ⟨h1, h2, h3, h4.stb hk hF, (hk.block _ (Array.getElem?_eq_some_iff.1 h5).1 (h4.2 _ (by omega))).trans h5, (hk.block _ (Array.getElem?_eq_some_iff.1 h6).1 (h4.2 _ (by omega))).trans h6⟩
end
/-- the end: what was put off is taken -/
theorem ends_least {w A : World} {Dd b c : Nat} {x y : Int} {t u : TypeId} (hb : Below w.heap.size w A) (h1 : A.heap[b]? = some (.cells #[.int .i64 x] t (0, 0))) (h2 : A.heap[c]? = some (.cells #[.int .i64 y] u (0, 0))) (n1 : Dd ≠ b) (n2 : Dd ≠ c) (hD : w.heap.size ≤ Dd) :
    (A.putObj Dd (.deferred none)).cell? ⟨b, 0, none⟩ = some (.int .i64 x) ∧ (A.putObj Dd (.deferred none)).cell? ⟨c, 0, none⟩ = some (.int .i64 y) ∧ Below w.heap.size w (A.putObj Dd (.deferred none)) := by
  have hk : Kp (fun k => k = Dd) A (A.putObj Dd (.deferred none)) := (Kp.refl _ A).put Dd _ (fun _ => rfl)
  exact ⟨one_cell ((hk.block b (Array.getElem?_eq_some_iff.1 h1).1 (fun e => n1 e.symm)).trans h1), one_cell ((hk.block c (Array.getElem?_eq_some_iff.1 h2).1 (fun e => n2 e.symm)).trans h2), hk.below hb hb.size (fun i hi e => by omega)⟩
set_option maxRecDepth 100000 in
set_option maxHeartbeats 8000000 in
theorem least_in (s : Sn) (D : Nat → Prop) (vc vw vp : Value) (k : Nat) (p : List (List Int)) (w : World) (hc : R2 D w vc s.cs) (hw : R2 D w vw s.ws) (hp : RL D w vp p) (hr : rgt s = true) (hl : p.length = s.cs.length) (hk : k < p.length) (hll : ∀ l ∈ p, l.length ≤ 1000)
    (r1 r2 : Int) (HR1 : Hid (∀ st, bgn s (k : Int) p = some st → r1 = lsv s k p st ∧ r2 = 0)) (HR2 : Hid (bgn s (k : Int) p = none → r1 = 0 ∧ r2 = 9)) :
    Calls Try.prog 72 #[.agg (nv s.st vc vw).toArray, .int .i64 (k : Int), vp] w fun e w' => e = .returned (.tuple #[.int .i64 r1, .int .i64 r2]) ∧ Below w.heap.size w w' := by
  have HZ := Hid.intro' (Lz.new w s vc vw (k : Int))
  have hri := snapRight_any s D vc vw _ (hc.below' HZ.out.bel) (hw.below' HZ.out.bel)
  rw [hr] at hri
  have HR := Hid.intro' hri
  have HC : Hid (R2 (fun g => g < w.heap.size) w vc s.cs) := hc.mono fun g _ h _ => h
  have HW : Hid (R2 (fun g => g < w.heap.size) w vw s.ws) := hw.mono fun g _ h _ => h
  have HP : Hid (RL (fun g => g < w.heap.size) w vp p) := hp.mono fun g _ h _ => h
  obtain ⟨n8, hrs⟩ := rgt_rs hr
  have HRZ := Hid.intro' (rgt_rz hr)
  have hwl : s.ws.length ≤ 128 := hrs.wl
  have hcl : s.cs.length ≤ 8 := by have := hrs.cl; have := hrs.n8; omega
  have HBF := Hid.intro' (bfold_bgn (k := k) hr hl hk)
  have HB0 := Hid.intro' (Bok.zero hr)
  have HLL := Hid.intro' hll
  have HRG := Hid.intro' hr
  have HLE := Hid.intro' hl
  have HMK : Hid (∀ (i : Nat) y, s.ws[i]? = some y → ∃ m : Nat, y.2 = (m : Int)) := fun i y hy => by obtain ⟨m, _, h⟩ := hrs.mm.eq i y hy; exact ⟨m, h⟩
  obtain ⟨ac, kc, rfl, _, _⟩ := hc.form
  obtain ⟨aw, kw, rfl, _, _⟩ := hw.form
  obtain ⟨ap, kp, rfl, _, _⟩ := hp.form
  rw [hl] at HP ⊢
  clear hc hw hp hri hrs hll
  refine (callsIn_wide (n := 0)).1 ?_
  refine callsIn_of_wp_marks Try.func72 rfl trivial ?_ rfl
  simp only [Try.ntmps72, List.size_toArray, List.length_cons, List.length_nil, Nat.reduceAdd, Nat.reduceSub, Array.replicate_succ, Array.replicate_zero, List.push_toArray, List.append_toArray, List.nil_append, List.cons_append]
  have hwf : ∀ k, Fence.wide.fn k := fun _ => trivial
  gi_wp2_with (refine wpListIn_load27g rfl _ rfl w.heap.size s.st _ _ rfl HZ.out.nb ?_)
  refine ⟨rfl, (callsIn_wide.2 HR.out).mono ?_⟩
  rintro e W1 ⟨rfl, hb1⟩
  have HZ1 := Hid.intro' (HZ.out.next hb1)
  have dc := one_cell HZ1.out.cb
  have c13 : W1.cell? ⟨w.heap.size, 13, none⟩ = some (.slice ac s.cs.length kc) := HZ1.out.nb.cell 13
  have HH := Hid.intro' (hasList_any ap s.cs.length kp (k : Int) W1)
  rw [show (decide (0 ≤ (k : Int)) && decide ((k : Int) < (s.cs.length : Int))) = true by simp; omega] at HH
  clear hb1 HR HZ hr hl
  gi_wp2_with fail
  refine ⟨rfl, (callsIn_wide.2 HH.out).mono ?_⟩
  rintro e w' ⟨rfl, hw'⟩
  rw [hw']
  clear hw'
  have HNB := Hid.intro' (newBeginning_any s (fun g => g < w.heap.size) _ _ W1 (HC.out.below' HZ1.out.bel) (HW.out.below' HZ1.out.bel) hcl hwl)
  clear HH c13 dc
  gi_wp2_with (refine wpListIn_load27g rfl _ rfl w.heap.size s.st _ _ rfl HZ1.out.nb ?_)
  refine ⟨rfl, (callsIn_wide.2 HNB.out).mono ?_⟩
  rintro e W2 ⟨b, eb, mb, rfl, hg2, hb2, hn2⟩
  have hba := (Below.refl W2.heap.size W2).alloc (Nat.le_refl _) (.cells #[.pointer (some ⟨b, 0, none⟩)] 165)
  have HZ2 := Hid.intro' ((HZ1.out.next hb2).next hba)
  have HG2 := Hid.intro' (hg2.below' hba)
  have HN2 : Hid (∀ i, bp b eb mb i → w.heap.size + 1 + 1 + 1 < i ∧ i < W2.heap.size) := fun i hi => ⟨Nat.lt_of_lt_of_le HZ1.out.size (hn2 i hi), hg2.lt i hi⟩
  have HB2 : Hid ((W2.alloc (.cells #[.pointer (some ⟨b, 0, none⟩)] 165)).heap[W2.heap.size]? = some (.cells #[.pointer (some ⟨b, 0, none⟩)] 165 (0, 0))) := World.alloc_heap_new W2 _
  have HS2 : Hid ((W2.alloc (.cells #[.pointer (some ⟨b, 0, none⟩)] 165)).heap.size = W2.heap.size + 1) := by show _ = _; simp
  clear hg2 hb2 hn2 hba HNB HZ1
  gi_wp2_with fail
  generalize (W2.alloc (.cells #[.pointer (some ⟨b, 0, none⟩)] 165)) = Y at HZ2 HG2 HB2 HS2 ⊢
  generalize W2.heap.size = bb at HN2 HB2 HS2 ⊢
  refine ⟨rfl, (callsIn_wide.2 (placed_any ap s.cs.length kp Y)).mono ?_⟩
  rintro e W3 ⟨rfl, rfl⟩
  gi_wp2_with fail
  have hbz := (Below.refl Y.heap.size Y).alloc (Nat.le_refl _) (.cells #[.slice ap s.cs.length kp] 32)
  have HZ3 := Hid.intro' (HZ2.out.next hbz)
  have HG3 := Hid.intro' (HG2.out.below' hbz)
  have HB3 : Hid ((Y.alloc (.cells #[.slice ap s.cs.length kp] 32)).heap[bb]? = some (.cells #[.pointer (some ⟨b, 0, none⟩)] 165 (0, 0))) := (hbz.block bb (Array.getElem?_eq_some_iff.1 HB2.out).1).trans HB2.out
  have HC3 : Hid ((Y.alloc (.cells #[.slice ap s.cs.length kp] 32)).heap[Y.heap.size]? = some (.cells #[.slice ap s.cs.length kp] 32 (0, 0))) := World.alloc_heap_new Y _
  have HS3 : Hid ((Y.alloc (.cells #[.slice ap s.cs.length kp] 32)).heap.size = bb + 1 + 1) := by show _ = _; rw [World.size_alloc, HS2.out]
  have HY : Hid (Y.heap.size = bb + 1) := HS2.out
  clear hbz HZ2 HG2 HB2 HS2
  generalize (Y.alloc (.cells #[.slice ap s.cs.length kp] 32)) = Z at HZ3 HG3 HB3 HC3 HS3 ⊢
  generalize Y.heap.size = c1 at HC3 HY ⊢
  have hG : ∀ i, (i < w.heap.size ∨ i = c1) → i < Z.heap.size ∧ ¬ bp b eb mb i := fun i hi => by
    have e1 := HS3.out
    have e2 := HY.out
    have e3 := HZ3.out.size
    refine ⟨by rcases hi with h | h <;> omega, fun hb => ?_⟩
    have := HN2.out i hb
    rcases hi with h | h <;> omega
  have hseq := placed_seq c1 (.slice ap s.cs.length kp) p (fun i => i < w.heap.size ∨ i = c1) Z HC3.out ((HP.out.below' HZ3.out.bel).mono fun g hg _ _ => .inl hg) (.inr rfl) (fun i hi => (hG i hi).1) (by have := HLE.out; omega) HLL.out
  have HG := Hid.intro' hG
  have HI0 : Hid (LI s k b eb mb (.slice ac s.cs.length kc) (.slice aw s.ws.length kw) Z [] (fun _ => False) Z) := by
    refine ⟨⟨Kp.refl _ _, fun _ _ h => h⟩, fun i hi => HG3.out.lt i hi, bz0 s, rfl, ?_, HB0.out⟩
    have e : (msk s).length = s.ws.length := by unfold msk; rw [List.length_map]
    have := HG3.out
    unfold bz0
    rw [e]
    exact this
  have eg : ∀ args w, (callFunc 96 args).run Try.prog w = .ok (.enter 96 args) w := by intro args w; simp [go_sem]
  generalize Value.agg (nv s.st (.slice ac s.cs.length kc) (.slice aw s.ws.length kw)).toArray = jn
  clear hG
  obtain ⟨vc, hvc⟩ : ∃ vc, Value.slice ac s.cs.length kc = vc := ⟨_, rfl⟩
  obtain ⟨jp, hjp⟩ : ∃ jp, Value.slice ap s.cs.length kp = jp := ⟨_, rfl⟩
  have HVC := Hid.intro' hvc
  rw [hvc] at HI0 HZ3 HG3
  rw [hvc, hjp]
  clear hvc hjp HC HP HC3 HG3
  generalize hjc : vc = jc
  clear hjc
  refine wpIn_rangeFunc_B (gf := 96) (lb := #[.pointer (some ⟨c1, 0, none⟩)]) rfl eg hseq (Below.refl _ _) (fun x F A args h => by rw [h.1]; rfl) (fun i hi => (HG.out i hi).1) (fun i h => h.elim)
    (LI s k b eb mb vc (.slice aw s.ws.length kw) Z) (LX s k w.heap.size b eb mb Z) (li_stb s k b eb mb _ _ Z) (fun c => lx_stb s k w.heap.size b eb mb Z c) HI0.out
    (fun x a' _ => 0 ≤ x.1 ∧ x.1 < (p.length : Int) ∧ a' = { tmps := #[jn, .int .i64 (k : Int), jp, .pointer (some ⟨w.heap.size, 0, none⟩), .pointer (some ⟨w.heap.size + 1, 0, none⟩), undef, .pointer (some ⟨w.heap.size + 1 + 1, 0, none⟩), .pointer (some ⟨w.heap.size + 1 + 1 + 1, 0, none⟩), .pointer (some ⟨bb, 0, none⟩), .int .i64 x.1, .int .i64 x.2, jn, .bool true, .bool false, .bool false, jp, .int .i64 (s.cs.length : Int), .pointer (some ⟨w.heap.size, 13, none⟩), jc, .int .i64 (s.cs.length : Int), .bool false, .bool false, .bool false, jp, .int .i64 (k : Int), .bool true, .bool false, .bool false, jn, .pointer (some ⟨b, 0, none⟩), jp, .func (.func 96) #[] #[.pointer (some ⟨c1, 0, none⟩)], .int .i64 x.1, .int .i64 x.2, undef, undef, undef, undef, undef, undef, undef, undef, undef, undef, undef, undef, undef], defers := [] }) (fun x a' A A' h _ _ => h) ?assign ?body ?done ?stop
  case assign =>
    rintro l' x F A args K ⟨rfl, h1, h2⟩ hK
    obtain ⟨x, y⟩ := x
    have HK := Hid.intro' hK
    clear hK hseq
    gi_wp2
    exact HK.out _ _ (Below.refl _ A) ⟨h1, h2, rfl⟩
  case body =>
    rintro l' pre x F A a' ⟨hkb, hbl, z, hz, hg, hok⟩ ⟨h1, h2, rfl⟩
    obtain ⟨x, y⟩ := x
    obtain ⟨c, rfl⟩ : ∃ c : Nat, x = (c : Int) := ⟨x.toNat, by have : 0 ≤ x := h1; omega⟩
    have hcl2 : c < s.cs.length := by have : (c : Int) < (p.length : Int) := h2; have := HLE.out; omega
    have hwf' : ∀ k, (Fence.wide.inRound l').fn k := fun _ => trivial
    have far : ∀ i, bp b eb mb i → w.heap.size + 1 + 1 + 1 < i ∧ i ≠ bb := fun i hi => by have := HN2.out i hi; omega
    have HZA := Hid.intro' (HZ3.out.kp hkb.1 (fun i hi => (far i hi).1))
    have hbb : A.heap[bb]? = some (.cells #[.pointer (some ⟨b, 0, none⟩)] 165 (0, 0)) := (hkb.1.block bb (Array.getElem?_eq_some_iff.1 HB3.out).1 (fun e => (far bb e).2 rfl)).trans HB3.out
    have dc := one_cell HZA.out.cb
    have db := one_cell hbb
    -- where it ends early
    have HXX : Hid (∀ A' : World, Below A.heap.size A A' → bstep s k z ((c : Int), y) = none →
        Lz w A' s vc (.slice aw s.ws.length kw) (k : Int) ∧ postF (fun i => i < w.heap.size ∨ i = c1) (LI s k b eb mb vc (.slice aw s.ws.length kw) Z) (LX s k w.heap.size b eb mb Z) (pre ++ [((c : Int), y)]) F A .ret { tmps := #[], defers := [] } ((A'.setCell ⟨w.heap.size + 1 + 1, 0, none⟩ (.int .i64 0)).setCell ⟨w.heap.size + 1 + 1 + 1, 0, none⟩ (.int .i64 9))) := by
      intro A' hbA hno
      have hlz := HZA.out.next hbA
      obtain ⟨p1, p2, p3⟩ := hlz.put 0 9
      have hzs := HZ3.out.size
      refine ⟨hlz, (Kept.ofBelow hbA).trans (Kept.ofKp p3 (fun i _ hf e => ?_)), rfl, by rw [bfold_snoc, hz, Option.bind_some, hno], hzs, ⟨?_, hkb.2⟩, p1, p2⟩
      · exact hkb.2 i (by omega) hf
      · exact (hkb.1.mono fun i _ hi => .inl hi).trans ((Kp.ofBelow (fun i => bp b eb mb i ∨ i = w.heap.size + 1 + 1 ∨ i = w.heap.size + 1 + 1 + 1) hbA).trans (p3.mono fun i _ hi => .inr hi) (fun _ _ h => h)) (fun _ _ h => h)
    by_cases hck : (k : Int) < (c : Int)
    · have HE := Hid.intro' (HXX.out A (Below.refl _ _) (bstep_far hck))
      have d2 := one_cell HZA.out.nb2
      have f2 := one_fr HZA.out.nb2
      have d3 := one_cell HZA.out.eb2
      have f3 := one_fr HZA.out.eb2
      clear hkb hbl hz hg hok h1 h2 hseq HI0 hbb far HXX
      gi_wp2
      exact HE.out.2
    · have hck2 : c ≤ k := by omega
      have hck3 : ¬ (k : Int) < (c : Int) := hck
      obtain ⟨a, ha⟩ : ∃ a, z.es[c]? = some a := ⟨_, List.getElem?_eq_getElem (by rw [hok.el]; exact hcl2)⟩
      cases hf : lfm s z.st y with
      | none =>
        have HT := Hid.intro' (take_none hg c y hf)
        have HNO := Hid.intro' (bstep_no (k := k) (c := c) (x := y) hok (fun u hu => by rw [hf] at hu; cases hu))
        clear hkb hbl hz hg hok h1 h2 hseq HI0 hbb far ha hf
        gi_wp2_with fail
        refine ⟨rfl, (CallsIn.inRound l' (callsIn_wide.2 HT.out)).mono ?_⟩
        rintro e A2 ⟨rfl, hbA⟩
        have HE := Hid.intro' (HXX.out A2 hbA HNO.out)
        have d2 := one_cell HE.out.1.nb2
        have f2 := one_fr HE.out.1.nb2
        have d3 := one_cell HE.out.1.eb2
        have f3 := one_fr HE.out.1.eb2
        clear hbA HT HXX dc db
        gi_wp2
        exact HE.out.2
      | some u =>
        obtain ⟨g, u2⟩ := u
        obtain ⟨q1, q2, q3⟩ := lfm_some hf
        obtain ⟨m, hm⟩ := HMK.out _ _ q3
        simp only at hm
        subst hm
        cases hbt : PM.bt m c with
        | false =>
          have HT := Hid.intro' (take_not hg c (by omega) y g m hf hbt)
          have HNO := Hid.intro' (bstep_no (k := k) (c := c) (x := y) hok (fun u hu => by rw [hf] at hu; cases hu; exact hbt))
          clear hkb hbl hz hg hok h1 h2 hseq HI0 hbb far ha hf q1 q2 q3 hbt
          gi_wp2_with fail
          refine ⟨rfl, (CallsIn.inRound l' (callsIn_wide.2 HT.out)).mono ?_⟩
          rintro e A2 ⟨rfl, hbA⟩
          have HE := Hid.intro' (HXX.out A2 hbA HNO.out)
          have d2 := one_cell HE.out.1.nb2
          have f2 := one_fr HE.out.1.nb2
          have d3 := one_cell HE.out.1.eb2
          have f3 := one_fr HE.out.1.eb2
          clear hbA HT HXX dc db
          gi_wp2
          exact HE.out.2
        | true =>
          have oka := hok.ok a (List.mem_of_getElem? ha)
          have hlf := lf_le z.st
          have hco := hok.c1
          have hsl := hok.sl
          have hyr := HRZ.out.wr _ (List.mem_of_getElem? q3)
          have HT := Hid.intro' (take_yes hg c (by omega) a ha y g m hf hbt HRZ.out.rt oka.1 (by have := oka.2; omega) hyr.1 hyr.2 hok.c0 (by omega))
          have HST := Hid.intro' (bstep_yes (k := k) (z := z) hck2 ha hf hbt)
          have HOK := Hid.intro' (hok.step HRZ.out hwl ha hf)
          have HLF := Hid.intro' (lfm_set (s := s) (z := z) q1 hok.sl)
          have HKB := Hid.intro' (And.intro hkb (And.intro hbl hz))
          clear hkb hbl hz hg hok h1 h2 hseq HI0 hbb far ha hf q1 q2 q3 hbt oka hlf hco hsl hyr HXX
          gi_wp2_with fail
          refine ⟨rfl, (CallsIn.inRound l' (callsIn_wide.2 HT.out)).mono ?_⟩
          rintro e A2 ⟨rfl, hg2, hk2⟩
          rw [HLF.out] at hg2
          have HE : Hid (Kept (fun i => F i ∨ (i < w.heap.size ∨ i = c1)) A A2 ∧ LI s k b eb mb vc (.slice aw s.ws.length kw) Z (pre ++ [((c : Int), y)]) F A2) := by
            refine ⟨Kept.ofKp hk2 (fun i _ hf e => ?_), ⟨HKB.out.1.1.trans hk2 (fun _ _ h => h), HKB.out.1.2⟩, HKB.out.2.1, _, by rw [bfold_snoc, HKB.out.2.2, Option.bind_some, HST.out], hg2, HOK.out⟩
            rcases hf with hf | hf
            · exact HKB.out.1.2 i (HKB.out.2.1 i e) hf
            · exact (HG.out i hf).2 e
          clear hg2 hk2 HT HKB dc db
          gi_wp2
          exact HE.out
  case done =>
    rintro Dd xs F A hD hFD rfl ⟨hkb, hbl, z, hz, hg, hok⟩ hK
    have far : ∀ i, bp b eb mb i → w.heap.size + 1 + 1 + 1 < i ∧ i ≠ bb := fun i hi => by have := HN2.out i hi; omega
    have hDz : ∀ i, i < Z.heap.size → Dd ≠ i := fun i hi e => hkb.2 i hi (e ▸ hFD)
    have HZA := Hid.intro' (HZ3.out.kp hkb.1 (fun i hi => (far i hi).1))
    have hbb : A.heap[bb]? = some (.cells #[.pointer (some ⟨b, 0, none⟩)] 165 (0, 0)) := (hkb.1.block bb (Array.getElem?_eq_some_iff.1 HB3.out).1 (fun e => (far bb e).2 rfl)).trans HB3.out
    have dc := one_cell HZA.out.cb
    have db := one_cell hbb
    rw [HBF.out] at hz
    obtain ⟨st, hst, rfl⟩ := Option.map_eq_some_iff.1 hz
    have HLM := Hid.intro' (leastm_any k (bgn_bs hst) aw kw hg HLL.out)
    obtain ⟨e1, e2⟩ := HR1.out st hst
    rw [← e1] at HLM
    have HRR : Hid (r2 = 0) := e2
    have HDZ := Hid.intro' hDz
    clear hkb hbl hz hg hok hseq HI0 hbb far hst e1 e2 hDz
    gi_wp2_with fail
    refine ⟨rfl, (callsIn_wide.2 HLM.out).mono ?_⟩
    rintro e A2 ⟨rfl, hbA⟩
    have HZB := Hid.intro' (HZA.out.next hbA)
    have hKA : A2.heap[Dd]? = some (.deferred (some [])) := (hbA.block Dd (Array.getElem?_eq_some_iff.1 hK).1).trans hK
    have d2 := one_cell HZB.out.nb2
    have f2 := one_fr HZB.out.nb2
    have d3 := one_cell HZB.out.eb2
    have f3 := one_fr HZB.out.eb2
    have HE := Hid.intro' (HZB.out.put r1 0)
    clear hbA HLM dc db hK
    have HK2 : Hid (((A2.setCell ⟨w.heap.size + 1 + 1, 0, none⟩ (.int .i64 r1)).setCell ⟨w.heap.size + 1 + 1 + 1, 0, none⟩ (.int .i64 0)).heap[Dd]? = some (.deferred (some []))) := (HE.out.2.2.block Dd (Array.getElem?_eq_some_iff.1 hKA).1 (fun e => by
      have hzs := HZ3.out.size
      rcases e with e | e
      · exact HDZ.out _ (by omega) e
      · exact HDZ.out _ hzs e)).trans hKA
    have HF := Hid.intro' (ends_least (HE.out.2.2.below HZB.out.bel HZB.out.bel.size (fun i hi e => by omega)) HE.out.1 HE.out.2.1 (HDZ.out _ (by have := HZ3.out.size; omega)) (HDZ.out _ HZ3.out.size) (by have := hD; have := HZ3.out.size; omega))
    clear HE HZB hKA
    gi_wp2
    refine ⟨by simp, .inl ⟨_, _, rfl, run_takeDeferred HK2.out, ?_⟩⟩
    exact ⟨_, ret_least Try.results72 rfl rfl HF.out.1 HF.out.2.1, by rw [HRR.out], HF.out.2.2⟩
  case stop =>
    rintro Dd c pre F A hD hFD hSp ⟨rfl, hno, hsz, hkb, hr1, hr2⟩ hK
    have hbn : bgn s (k : Int) p = none := by
      have := bfold_pre hSp hno
      rw [HBF.out] at this
      cases e : bgn s (k : Int) p with
      | none => rfl
      | some st => rw [e] at this; cases this
    obtain ⟨e1, e2⟩ := HR2.out hbn
    have HRR := Hid.intro' (And.intro e1 e2)
    have hDz : ∀ i, i < Z.heap.size → Dd ≠ i := fun i hi e => hkb.2 i hi (e ▸ hFD)
    have hbA : Below w.heap.size w A := hkb.1.below HZ3.out.bel HZ3.out.bel.size (fun i hi e => by
      rcases e with e | e
      · have := HN2.out i e; omega
      · omega)
    have HF := Hid.intro' (ends_least hbA hr1 hr2 (hDz _ (by omega)) (hDz _ hsz) (by have := HZ3.out.size; omega))
    clear hkb hseq HI0 hno hSp hr1 hr2 hbn e1 e2 hDz hbA
    gi_wp2
    refine ⟨by simp, .inl ⟨_, _, rfl, run_takeDeferred hK, ?_⟩⟩
    exact ⟨_, ret_least Try.results72 rfl rfl HF.out.1 HF.out.2.1, by rw [HRR.out.1, HRR.out.2], HF.out.2.2⟩
theorem least_yes (s : Sn) (D : Nat → Prop) (vc vw vp : Value) (k : Nat) (p : List (List Int)) (st : List Bool) (w : World) (hc : R2 D w vc s.cs) (hw : R2 D w vw s.ws) (hp : RL D w vp p) (hb : bgn s (k : Int) p = some st) (_hpl : p.length ≤ 1000) (hll : ∀ l ∈ p, l.length ≤ 1000) :
    Calls Try.prog 72 #[.agg (nv s.st vc vw).toArray, .int .i64 (k : Int), vp] w fun e w' => e = .returned (.tuple #[.int .i64 (lsv s k p st), .int .i64 0]) ∧ Below w.heap.size w w' := by
  have h := bgn_bs hb
  exact least_in s D vc vw vp k p w hc hw hp h.rg h.pc.symm h.kl hll _ _ (fun st' h' => by rw [hb] at h'; cases h'; exact ⟨rfl, rfl⟩) (fun h' => by rw [hb] at h'; cases h')
theorem least_no (s : Sn) (D : Nat → Prop) (vc vw vp : Value) (car : Int) (p : List (List Int)) (w : World) (hc : R2 D w vc s.cs) (hw : R2 D w vw s.ws) (hp : RL D w vp p) (hb : bgn s car p = none) (_hpl : p.length ≤ 1000) (hll : ∀ l ∈ p, l.length ≤ 1000) :
    Calls Try.prog 72 #[.agg (nv s.st vc vw).toArray, .int .i64 car, vp] w fun e w' => e = .returned (.tuple #[.int .i64 0, .int .i64 9]) ∧ Below w.heap.size w w' := by
  by_cases hn : rgt s = true ∧ p.length = s.cs.length ∧ 0 ≤ car ∧ car < (p.length : Int)
  · obtain ⟨h1, h2, h3, h4⟩ := hn
    obtain ⟨k, rfl⟩ : ∃ k : Nat, car = (k : Int) := ⟨car.toNat, by omega⟩
    exact least_in s D vc vw vp k p w hc hw hp h1 h2 (by omega) hll _ _ (fun st' h' => by rw [hb] at h'; cases h') (fun _ => ⟨rfl, rfl⟩)
  · exact least_out s D vc vw vp car p w hc hw hp hn
end Go.Proofs.Ytagmidolcdefiah
