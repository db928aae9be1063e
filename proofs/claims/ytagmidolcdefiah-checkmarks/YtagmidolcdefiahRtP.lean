/- Routes, as the program tells them: when each want is served, and the cost. -/
import Derived.Test.YtagmidolcdefiahRtU
import Derived.Test.YtagmidolcdefiahPk15
import Derived.Test.YtagmidolcdefiahPk13
namespace Go.Proofs.Ytagmidolcdefiah
open Go.RowKit Go.Shelf
attribute [local go_sem] Oper.semAt_some
theorem stops_any (vs : List Value) (ap : Option Addr) (n k : Nat) (w : World) :
    Calls Try.prog 67 #[.agg vs.toArray, .slice ap n k] w fun e w' => e = .returned (.func (.func 81) #[] #[.pointer (some ⟨w.heap.size + 1, 0, none⟩), .pointer (some ⟨w.heap.size, 0, none⟩)]) ∧ w' = (w.alloc (.cells vs.toArray 27)).alloc (.cells #[.slice ap n k] 32) := by
  have hmf : ∀ (fn : Fn) (first cap : Array Value) (w : World), (Instr.makeFunc fn first cap).run Try.prog w = .ok (.func fn first cap) w := fun _ _ _ _ => rfl
  go_enter Try.func67, Try.ntmps67
  go_wp2
  go_ret
  exact ⟨rfl, rfl⟩
/-- the times that were written behind these stops -/
def wtp (n : Nat) (pre : List (Int × RM.Sp)) : List Int := RM.put (List.replicate n 0) (pre.map fun x => (x.1, x.2.he))
theorem wtp_nil (n : Nat) : wtp n [] = List.replicate n 0 := rfl
theorem wtp_snoc (n : Nat) (pre : List (Int × RM.Sp)) (x : Int × RM.Sp) : wtp n (pre ++ [x]) = (wtp n pre).set x.1.toNat x.2.he := by
  unfold wtp
  rw [List.map_append, RM.put_append]; rfl
theorem wtp_length (n : Nat) (pre : List (Int × RM.Sp)) : (wtp n pre).length = n := by unfold wtp; rw [RM.put_length, List.length_replicate]
/-- what the loop over the stops keeps -/
def WI (Wz : World) (cb n : Nat) (pre : List (Int × RM.Sp)) (F : Nat → Prop) (A : World) : Prop := KB Wz (fun k => k = cb) F A ∧ cb < Wz.heap.size ∧ OI A cb (.slice (some ⟨cb, 0, none⟩) n n) (wtp n pre)
theorem wi_stb (Wz : World) (cb n : Nat) : Stb (WI Wz cb n) := fun _ _ _ _ _ h hk hF =>
  ⟨h.1.stb hk hF, h.2.1, h.2.2.keep fun g hg => by cases hg; exact hk.block _ (Nat.lt_of_lt_of_le h.2.1 h.1.1.size) (h.1.2 _ h.2.1)⟩
section
variable (s : Sn) (D : Nat → Prop) (vc vw vp : Value) (p : List (List Int)) (w : World)
set_option maxRecDepth 100000 in
set_option maxHeartbeats 8000000 in
theorem waits_yes (hc : R2 D w vc s.cs) (hw : R2 D w vw s.ws) (hp : RL D w vp p) (hf : fsb s p = true) (hpl : p.length ≤ 1000) (hll : ∀ l ∈ p, l.length ≤ 1000) :
    Calls Try.prog 38 #[.agg (nv s.st vc vw).toArray, vp] w fun e w' => ∃ v, e = .returned (.tuple #[v, .int .i64 0]) ∧ RI (fun g => w.heap.size ≤ g) w' v (RM.wts s.st s.ws s.cs p) ∧ Below w.heap.size w w' := by
  have hbx := (Below.refl w.heap.size w).alloc (Nat.le_refl _) (.cells (nv s.st vc vw).toArray 27)
  have HN := Hid.intro' (NB.new w s.st vc vw)
  have HB := Hid.intro' hbx
  have hfe := feasible_any s D vc vw vp p _ (hc.below' hbx) (hw.below' hbx) (hp.below' hbx) hpl hll
  rw [hf] at hfe
  have HFS := Hid.intro' (fsb_fs hf)
  have HLL := Hid.intro' hll
  have HP : Hid (RL (fun g => g < w.heap.size) w vp p) := hp.mono fun g _ h _ => h
  have HW : Hid (R2 (fun g => g < w.heap.size) w vw s.ws) := hw.mono fun g _ h _ => h
  have HC : Hid (R2 (fun g => g < w.heap.size) w vc s.cs) := hc.mono fun g _ h _ => h
  obtain ⟨ac, kc, rfl, _, _⟩ := hc.form
  obtain ⟨aw, kw, rfl, _, _⟩ := hw.form
  obtain ⟨ap, kp, rfl, _, _⟩ := hp.form
  have HFE := Hid.intro' hfe
  have hwl : s.ws.length ≤ 128 := HFS.out.wl
  have hmk := mkI s.ws.length (by omega)
  clear hc hw hp hf hll hbx hpl hfe
  refine (callsIn_wide (n := 0)).1 ?_
  refine callsIn_of_wp_marks Try.func38 rfl trivial ?_ rfl
  simp only [Try.ntmps38, List.size_toArray, List.length_cons, List.length_nil, Nat.reduceAdd, Nat.reduceSub, Array.replicate_succ, Array.replicate_zero, List.push_toArray, List.append_toArray, List.nil_append, List.cons_append]
  have hwf : ∀ k, Fence.wide.fn k := fun _ => trivial
  gi_wp2_with (refine wpListIn_load27g rfl _ rfl w.heap.size s.st _ _ rfl HN.out ?_)
  refine ⟨rfl, (callsIn_wide.2 HFE.out).mono ?_⟩
  rintro e W1 ⟨rfl, hb1⟩
  have HN1 := Hid.intro' (HN.out.below' hb1)
  have HB1 := Hid.intro' (below_class HB.out hb1)
  have HZ1 : Hid (w.heap.size < W1.heap.size) := HN1.out.lt
  have c14 : W1.cell? ⟨w.heap.size, 14, none⟩ = some (.slice aw s.ws.length kw) := HN1.out.cell 14
  clear hb1 HN HB HFE
  gi_wp2_with (refine wpListIn_load27g rfl _ rfl w.heap.size s.st _ _ rfl ((HN1.out.alloc _).alloc _) ?_)
  clear c14 hmk
  have hbY := ((Below.refl W1.heap.size W1).alloc (Nat.le_refl _) (.cells (Array.replicate s.ws.length (Value.int .i64 0)) 3)).alloc (by simp) (.cells #[.slice (some ⟨W1.heap.size, 0, none⟩) s.ws.length s.ws.length] 55)
  have HBY := Hid.intro' (below_class HB1.out hbY)
  have HOY : Hid (OI ((W1.alloc (.cells (Array.replicate s.ws.length (Value.int .i64 0)) 3)).alloc (.cells #[.slice (some ⟨W1.heap.size, 0, none⟩) s.ws.length s.ws.length] 55)) W1.heap.size (.slice (some ⟨W1.heap.size, 0, none⟩) s.ws.length s.ws.length) (wtp s.ws.length [])) := by
    have := OI.lit (B := W1.heap.size) W1 (List.replicate s.ws.length 0) (Nat.le_refl _) (by rw [List.length_replicate]; unfold maxLen; omega)
    rw [ic_rep, List.length_replicate, List.toArray_replicate] at this
    rw [wtp_nil]
    exact this.alloc _
  have HCY : Hid (((W1.alloc (.cells (Array.replicate s.ws.length (Value.int .i64 0)) 3)).alloc (.cells #[.slice (some ⟨W1.heap.size, 0, none⟩) s.ws.length s.ws.length] 55)).heap[W1.heap.size + 1]? = some (.cells #[.slice (some ⟨W1.heap.size, 0, none⟩) s.ws.length s.ws.length] 55 (0, 0))) := by
    have := World.alloc_heap_new (W1.alloc (.cells (Array.replicate s.ws.length (Value.int .i64 0)) 3)) (.cells #[.slice (some ⟨W1.heap.size, 0, none⟩) s.ws.length s.ws.length] 55)
    rwa [World.size_alloc] at this
  have HZY : Hid (((W1.alloc (.cells (Array.replicate s.ws.length (Value.int .i64 0)) 3)).alloc (.cells #[.slice (some ⟨W1.heap.size, 0, none⟩) s.ws.length s.ws.length] 55)).heap.size = W1.heap.size + 1 + 1) := by show _ = _; simp
  clear hbY HB1 HN1
  generalize ((W1.alloc (.cells (Array.replicate s.ws.length (Value.int .i64 0)) 3)).alloc (.cells #[.slice (some ⟨W1.heap.size, 0, none⟩) s.ws.length s.ws.length] 55)) = Y at HBY HOY HCY HZY ⊢
  generalize W1.heap.size = cb at HOY HCY HZY HZ1 ⊢
  refine ⟨rfl, (callsIn_wide.2 (stops_any (nv s.st (.slice ac s.cs.length kc) (.slice aw s.ws.length kw)) ap p.length kp _)).mono ?_⟩
  rintro e W2 ⟨rfl, rfl⟩
  gi_wp2_with fail
  have hb1 := (Below.refl Y.heap.size Y).alloc (Nat.le_refl _) (.cells (nv s.st (.slice ac s.cs.length kc) (.slice aw s.ws.length kw)).toArray 27)
  have hb2 := hb1.alloc (by simp) (.cells #[.slice ap p.length kp] 32)
  have HSQ : Hid (Sq ((Y.alloc (.cells (nv s.st (.slice ac s.cs.length kc) (.slice aw s.ws.length kw)).toArray 27)).alloc (.cells #[.slice ap p.length kp] 32)) (Y.heap.size + 1) Y.heap.size s (.slice ac s.cs.length kc) (.slice aw s.ws.length kw) (.slice ap p.length kp) p (fun k => k < w.heap.size ∨ k = Y.heap.size + 1 ∨ k = Y.heap.size)) := by
    have hbw := HBY.out.trans (hb2.mono HBY.out.size)
    have h3 := World.alloc_heap_new (Y.alloc (.cells (nv s.st (.slice ac s.cs.length kc) (.slice aw s.ws.length kw)).toArray 27)) (.cells #[.slice ap p.length kp] 32)
    rw [World.size_alloc] at h3
    exact ⟨(NB.new Y s.st _ _).alloc _, h3, (HC.out.below' hbw).mono fun g hg _ _ => .inl hg, (HW.out.below' hbw).mono fun g hg _ _ => .inl hg, (HP.out.below' hbw).mono fun g hg _ _ => .inl hg⟩
  have HBZ := Hid.intro' (below_class HBY.out hb2)
  have HI0 : Hid (WI ((Y.alloc (.cells (nv s.st (.slice ac s.cs.length kc) (.slice aw s.ws.length kw)).toArray 27)).alloc (.cells #[.slice ap p.length kp] 32)) cb s.ws.length [] (fun _ => False) ((Y.alloc (.cells (nv s.st (.slice ac s.cs.length kc) (.slice aw s.ws.length kw)).toArray 27)).alloc (.cells #[.slice ap p.length kp] 32))) :=
    ⟨⟨Kp.refl _ _, fun _ _ h => h⟩, by have := HZY.out; have := hb2.size; omega, (HOY.out.alloc _).alloc _⟩
  have HZZ : Hid (((Y.alloc (.cells (nv s.st (.slice ac s.cs.length kc) (.slice aw s.ws.length kw)).toArray 27)).alloc (.cells #[.slice ap p.length kp] 32)).heap.size = Y.heap.size + 1 + 1) := by show _ = _; simp
  have HCZ : Hid (((Y.alloc (.cells (nv s.st (.slice ac s.cs.length kc) (.slice aw s.ws.length kw)).toArray 27)).alloc (.cells #[.slice ap p.length kp] 32)).heap[cb + 1]? = some (.cells #[.slice (some ⟨cb, 0, none⟩) s.ws.length s.ws.length] 55 (0, 0))) := (hb2.block (cb + 1) (by have := HZY.out; omega)).trans HCY.out
  clear hb1 hb2 HOY HCY HBY HC HW HP
  generalize ((Y.alloc (.cells (nv s.st (.slice ac s.cs.length kc) (.slice aw s.ws.length kw)).toArray 27)).alloc (.cells #[.slice ap p.length kp] 32)) = Z at HSQ HBZ HI0 HZZ HCZ ⊢
  generalize hG0 : (fun k => k < w.heap.size ∨ k = Y.heap.size + 1 ∨ k = Y.heap.size) = G at HSQ
  have hG : ∀ k, G k → k < Z.heap.size ∧ k ≠ cb := fun k hk => by
    rw [← hG0] at hk
    have := HZZ.out; have := HZY.out; have := HZ1.out; have := HBZ.out.size
    rcases hk with h | h | h <;> omega
  have hseq := stops_seq s (Y.heap.size + 1) Y.heap.size _ _ _ p G Z HSQ.out (by rw [← hG0]; exact .inr (.inl rfl)) (by rw [← hG0]; exact .inr (.inr rfl)) (fun k hk => (hG k hk).1) HFS.out HLL.out
  have HG := Hid.intro' hG
  have eg : ∀ args w, (callFunc 81 args).run Try.prog w = .ok (.enter 81 args) w := by intro args w; simp [go_sem]
  clear hG hG0 HSQ
  generalize Value.agg (nv s.st (.slice ac s.cs.length kc) (.slice aw s.ws.length kw)).toArray = jn
  generalize Value.slice ap p.length kp = jp
  generalize Value.slice aw s.ws.length kw = jw
  generalize Y.heap.size = yz at hseq HZY HZZ ⊢
  refine wpIn_rangeFunc_B (gf := 81) (lb := #[.pointer (some ⟨yz + 1, 0, none⟩), .pointer (some ⟨yz, 0, none⟩)]) rfl eg hseq (Below.refl _ _) (fun x F A args h => by rw [h.1]; rfl) (fun k hk => (HG.out k hk).1) (fun k h => h.elim)
    (WI Z cb s.ws.length) (fun _ _ _ _ => False) (wi_stb _ _ _) (fun _ _ _ _ _ _ h _ _ => h) HI0.out
    (fun x a' A => 0 ≤ x.1 ∧ x.1 < (s.ws.length : Int) ∧ ∃ b8, TB A b8 x.2 ∧ a' = { tmps := #[jn, jp, .pointer (some ⟨w.heap.size, 0, none⟩), undef, .slice none 0 0, .int .i64 0, .pointer (some ⟨cb + 1, 0, none⟩), .int .i64 x.1, .pointer (some ⟨b8, 0, none⟩), jn, jp, .bool true, .bool false, .pointer (some ⟨w.heap.size, 14, none⟩), jw, .int .i64 (s.ws.length : Int), .slice (some ⟨cb, 0, none⟩) s.ws.length s.ws.length, jn, jp,
      .func (.func 81) #[] #[.pointer (some ⟨yz + 1, 0, none⟩), .pointer (some ⟨yz, 0, none⟩)], .int .i64 x.1, .agg #[.int .i64 x.2.fl, .int .i64 x.2.he, .int .i64 x.2.le], undef, undef, undef, undef, undef, undef], defers := [] }) ?hB ?assign ?body ?done ?stop
  case hB =>
    rintro x a' A A' ⟨h1, h2, b8, h3, h4⟩ _ hk
    exact ⟨h1, h2, b8, (hk b8 h3.lt ⟨_, h3, rfl⟩).trans h3, h4⟩
  case assign =>
    rintro l' x F A args K ⟨rfl, h1, h2⟩ hK
    obtain ⟨x, fl, he, le⟩ := x
    have HK := Hid.intro' hK
    have HT := Hid.intro' (TB.new A ⟨fl, he, le⟩)
    clear hK hseq
    gi_wp2
    refine HK.out _ _ ((Below.refl _ A).alloc (Nat.le_refl _) _) ⟨h1, h2, A.heap.size, HT.out, rfl⟩
  case body =>
    rintro l' pre x F A a' ⟨hk, hl, ho⟩ ⟨h1, h2, b8, h3, rfl⟩
    obtain ⟨x, fl, he, le⟩ := x
    obtain ⟨i, rfl⟩ : ∃ i : Nat, x = (i : Int) := ⟨x.toNat, by have : 0 ≤ x := h1; omega⟩
    have hi : i < s.ws.length := by have : (i : Int) < _ := h2; omega
    have hil : (i : Int) < (s.ws.length : Int) := by omega
    have hwf' : ∀ k, (Fence.wide.inRound l').fn k := fun _ => trivial
    have hcb : A.cell? ⟨cb + 1, 0, none⟩ = some (.slice (some ⟨cb, 0, none⟩) s.ws.length s.ws.length) := by
      rw [cell_of_row _ _ 0 _ _ _ ((hk.1.block (cb + 1) (by have := HZY.out; have := HZZ.out; omega) (by omega)).trans HCZ.out)]; rfl
    have hc8 := h3.c1
    obtain ⟨y, hy⟩ : ∃ y, (wtp s.ws.length pre)[i]? = some y := ⟨_, List.getElem?_eq_getElem (by rw [wtp_length]; exact hi)⟩
    have s4 : A.cell? ⟨cb, i, none⟩ = some (.int .i64 y) := ho.cell hy
    have t4 := ho.fr i
    have HF : Hid (Kept (fun k => F k ∨ G k) A (A.setCell ⟨cb, i, none⟩ (.int .i64 he)) ∧ WI Z cb s.ws.length (pre ++ [((i : Int), ⟨fl, he, le⟩)]) F (A.setCell ⟨cb, i, none⟩ (.int .i64 he))) := by
      have hkp : Kp (fun k => k = cb) A (A.setCell ⟨cb, i, none⟩ (.int .i64 he)) := (Kp.refl _ A).set _ _ _ (fun _ => rfl)
      refine ⟨Kept.ofKp hkp (fun k _ hf e => ?_), ⟨hk.1.trans hkp (fun _ _ h => h), hk.2⟩, hl, ?_⟩
      · rcases hf with hf | hf
        · rw [e] at hf; exact hk.2 _ hl hf
        · exact (HG.out k hf).2 e
      · rw [wtp_snoc]
        exact ho.put i he
    clear hk hl ho h1 h2 h3 hy hseq HI0
    gi_wp2
    exact HF.out
  case done =>
    rintro Dd xs F A hD hFD rfl ⟨hk, hl, ho⟩ hK
    have hcb : A.cell? ⟨cb + 1, 0, none⟩ = some (.slice (some ⟨cb, 0, none⟩) s.ws.length s.ws.length) := by
      rw [cell_of_row _ _ 0 _ _ _ ((hk.1.block (cb + 1) (by have := HZY.out; have := HZZ.out; omega) (by omega)).trans HCZ.out)]; rfl
    have hDc : Dd ≠ cb := fun e => hk.2 cb hl (e ▸ hFD)
    have HE : Hid (RI (fun g => w.heap.size ≤ g) (A.putObj Dd (.deferred none)) (.slice (some ⟨cb, 0, none⟩) s.ws.length s.ws.length) (RM.wts s.st s.ws s.cs p) ∧ Below w.heap.size w (A.putObj Dd (.deferred none))) := by
      have hz := HZ1.out
      have e : wtp s.ws.length (RM.stp s.st s.ws s.cs p) = RM.wts s.st s.ws s.cs p := by unfold wtp RM.wts; rw [RM.stp_prs]
      rw [e] at ho
      have hkd : Kp (fun k => k = Dd) A (A.putObj Dd (.deferred none)) := (Kp.refl _ A).put Dd _ (fun _ => rfl)
      refine ⟨(ho.keep fun g hg => by cases hg; exact hkd.block cb (by have := hk.1.size; omega) (fun h => hDc h.symm)).ri (fun g hg => by cases hg; show _ ≤ cb; omega), ?_⟩
      have hbA : Below w.heap.size w A := hk.1.below HBZ.out HBZ.out.size (fun i hi e => by omega)
      refine hkd.below hbA hbA.size (fun i hi e => ?_)
      have := HBZ.out.size
      omega
    clear hk hl ho hseq HI0
    gi_wp2
    refine ⟨by simp, .inl ⟨_, _, rfl, run_takeDeferred hK, ?_⟩⟩
    exact ⟨_, results_tmp2 rfl _ _ _, _, rfl, HE.out.1, HE.out.2⟩
  case stop =>
    rintro Dd c pre F A hD hFD hSp h hK
    exact h.elim
end
/-- the sum of numbers that aren't below 0, and aren't too great -/
theorem sum_nn : ∀ {l : List Int}, (∀ t ∈ l, 0 ≤ t) → 0 ≤ l.sum
  | [], _ => by simp
  | x :: l, h => by
    have h1 := h x (by simp)
    have h2 := sum_nn (l := l) fun t ht => h t (by simp [ht])
    rw [List.sum_cons]; omega
theorem fold_sum : ∀ (l : List Int) (a : Int), 0 ≤ a → (∀ t ∈ l, 0 ≤ t) → a + l.sum ≤ 1099511627776 → l.foldl (fun n x => NumM.cl (NumM.cl n + NumM.cl x)) a = a + l.sum
  | [], a, _, _, _ => by simp
  | x :: l, a, ha, h, hs => by
    have h1 := h x (by simp)
    have h3 : ∀ t ∈ l, 0 ≤ t := fun t ht => h t (by simp [ht])
    have h2 := sum_nn h3
    rw [List.sum_cons] at hs ⊢
    rw [List.foldl_cons, SM.addC ha h1 (by omega), fold_sum l (a + x) (by omega) h3 (by omega)]
    omega
theorem sumL_sum {l : List Int} (h0 : ∀ t ∈ l, 0 ≤ t) (hs : l.sum ≤ 1099511627776) : NumM.sumL l = l.sum := by
  unfold NumM.sumL
  rw [fold_sum l 0 (Int.le_refl _) h0 (by omega), Int.zero_add]
set_option maxHeartbeats 1000000 in
theorem sum_nil (a : Option Addr) (cap : Nat) (w : World) : Calls Try.prog 39 #[.slice a 0 cap] w fun e w' => e = .returned (.int .i64 0) ∧ w' = w := by
  go_enter Try.func39, Try.ntmps39
  go_wp2
  go_loop [3, 8] (fun t i => i = .int .i64 0 ∧ t = .int .i64 0) (fun _ _ => 0)
  case atStart => exact ⟨rfl, rfl⟩
  case round =>
    obtain ⟨rfl, rfl⟩ := hrel
    go_wp2
    go_ret
    exact ⟨rfl, rfl⟩
/-- the sum of a list that is read -/
theorem sum_ri (D : Nat → Prop) (W : World) (v : Value) (l : List Int) (h : RI D W v l) (hl : l.length ≤ 100000) (h0 : ∀ t ∈ l, 0 ≤ t) (hs : l.sum ≤ 1099511627776) : Calls Try.prog 39 #[v] W fun e w' => e = .returned (.int .i64 l.sum) ∧ w' = W := by
  obtain ⟨a, cap, rfl, _, _⟩ := h.form
  cases l with
  | nil => exact sum_nil a cap W
  | cons x l =>
    obtain ⟨g, o, rfl, _⟩ := h.at (i := 0) (y := x) rfl
    have := sum_any g o (x :: l).length cap (x :: l) W (Nat.le_refl _) (by omega) (fun i hi => by
      have e : (x :: l)[i]? = some ((x :: l)[i]) := List.getElem?_eq_getElem hi
      rw [e]
      exact h.cells i _ e)
    rw [List.take_length, sumL_sum h0 hs] at this
    exact this
section
variable (s : Sn) (D : Nat → Prop) (vc vw vp : Value) (p : List (List Int)) (w : World)
set_option maxHeartbeats 2000000 in
theorem cost_yes (hc : R2 D w vc s.cs) (hw : R2 D w vw s.ws) (hp : RL D w vp p) (hf : fsb s p = true) (hpl : p.length ≤ 1000) (hll : ∀ l ∈ p, l.length ≤ 1000) :
    Calls Try.prog 21 #[.agg (nv s.st vc vw).toArray, vp] w fun e w' => e = .returned (.tuple #[.int .i64 (RM.cst s.st s.ws s.cs p), .int .i64 0]) ∧ Below w.heap.size w w' := by
  have hbx := (Below.refl w.heap.size w).alloc (Nat.le_refl _) (.cells (nv s.st vc vw).toArray 27)
  have HN := Hid.intro' (NB.new w s.st vc vw)
  have HB := Hid.intro' hbx
  have HF := Hid.intro' (waits_yes s D vc vw vp p _ (hc.below' hbx) (hw.below' hbx) (hp.below' hbx) hf hpl hll)
  have hfs := fsb_fs hf
  have HS := Hid.intro' hfs.sum
  have HL : Hid ((RM.wts s.st s.ws s.cs p).length ≤ 100000) := by show _ ≤ _; rw [RM.wts_length]; have := hfs.wl; omega
  have HBD := Hid.intro' (hfs.bd hll)
  have HCO := Hid.intro' (hfs.cost hll)
  clear hc hw hp hf hll hbx hpl hfs
  generalize RM.wts s.st s.ws s.cs p = ts at HF HS HL HBD
  generalize RM.cst s.st s.ws s.cs p = ct at HS HCO ⊢
  go_enter Try.func21, Try.ntmps21
  go_wp2_with (refine wpList_load27g rfl _ rfl w.heap.size s.st _ _ rfl HN.out ?_)
  refine HF.out.mono ?_
  rintro e W1 ⟨v, rfl, hr, hb1⟩
  have HB1 := Hid.intro' (below_class HB.out hb1)
  have hsum := sum_ri _ W1 v ts hr HL.out (fun t ht => (HBD.out t ht).1) (by rw [HS.out]; have := HCO.out; omega)
  rw [HS.out] at hsum
  have HSU := Hid.intro' hsum
  clear hb1 HN HB HF hr hsum HBD HL HS HCO
  go_wp2_with fail
  refine HSU.out.mono ?_
  rintro e W2 ⟨rfl, rfl⟩
  go_wp2
  go_ret2
  exact ⟨rfl, HB1.out⟩
end
end Go.Proofs.Ytagmidolcdefiah
