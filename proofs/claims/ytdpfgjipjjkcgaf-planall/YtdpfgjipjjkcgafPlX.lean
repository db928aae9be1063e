/- How many plans there are, as the document tells it. -/
import Derived.Test.YtdpfgjipjjkcgafPlJ
import Derived.Test.YtdpfgjipjjkcgafPlC
namespace Go.Proofs.Ytdpfgjipjjkcgaf
open Go.RowKit

/-- the places of lists of such lengths -/
def tz (sz : List Nat) : Nat → Nat := fun c => sz[c]?.getD 0 + 1
theorem tz_set {sz : List Nat} {c z : Nat} (h : sz[c]? = some z) : tz (sz.set c (z + 1)) = PM.inc (tz sz) c := by
  have hc := (List.getElem?_eq_some_iff.1 h).1
  funext i
  unfold tz PM.inc
  by_cases e : i = c
  · subst e; rw [List.getElem?_set_self hc]; simp [h]
  · rw [List.getElem?_set_ne (Ne.symm e)]; simp [e]
/-- the plans of the wants from number i on, with lists of such lengths -/
def cn (n : Nat) (ms : List Nat) (i : Nat) (sz : List Nat) : Nat := PM.kp n (tz sz) (ms.drop i) (List.replicate (ms.length - i) false)
/-- what one car adds -/
def ca (n : Nat) (ms : List Nat) (i : Nat) (sz : List Nat) (m c : Nat) : Nat := if PM.bt m c = true then tz sz c * cn n ms (i + 1) (sz.set c (sz[c]?.getD 0 + 1)) else 0
theorem cn_end {n : Nat} {ms : List Nat} {i : Nat} {sz : List Nat} (h : ms.length ≤ i) : cn n ms i sz = 1 := by
  unfold cn
  rw [List.drop_of_length_le h]
  cases List.replicate (ms.length - i) false <;> rfl
theorem cn_step {n : Nat} {ms : List Nat} {i m : Nat} {sz : List Nat} (h : ms[i]? = some m) (hs : sz.length = n) : cn n ms i sz = PM.sm n (ca n ms i sz m) := by
  have hi := (List.getElem?_eq_some_iff.1 h).1
  unfold cn
  rw [drop_cons h, show ms.length - i = (ms.length - (i + 1)) + 1 by omega, List.replicate_succ, PM.kp_cons, if_neg (by simp)]
  refine PM.sm_congr fun c hc => ?_
  unfold ca
  by_cases hb : PM.bt m c = true
  · rw [if_pos hb, if_pos hb]
    have hz : sz[c]? = some (sz[c]?.getD 0) := by rw [List.getElem?_eq_getElem (by omega)]; rfl
    unfold cn
    rw [tz_set hz]
  · rw [if_neg hb, if_neg hb]
theorem sm_le_part {f : Nat → Nat} {k : Nat} : ∀ {n : Nat}, k ≤ n → PM.sm k f ≤ PM.sm n f
  | 0, h => by rw [show k = 0 by omega]; exact Nat.le_refl _
  | n + 1, h => by
    by_cases e : k = n + 1
    · rw [e]; exact Nat.le_refl _
    · have := sm_le_part (f := f) (k := k) (n := n) (by omega)
      rw [PM.sm]; omega
theorem up_13 : ∀ (k T : Nat), T + k ≤ 13 → PM.up T k ≤ 13 ^ k
  | 0, _, _ => by simp [PM.up]
  | k + 1, T, h => by
    rw [PM.up, Nat.pow_succ, Nat.mul_comm (13 ^ k)]
    exact Nat.mul_le_mul (by omega) (up_13 k (T + 1) (by omega))
theorem cn_small {n : Nat} {ms : List Nat} {i : Nat} {sz : List Nat} (h : PM.sm n (tz sz) + (ms.length - i) ≤ 13) (h5 : ms.length - i ≤ 5) : cn n ms i sz ≤ 371293 := by
  have h1 := PM.kp_up (n := n) (ms.drop i) (tz sz) (List.replicate (ms.length - i) false) (fun b hb => (List.mem_replicate.1 hb).2) (by simp)
  have h2 := up_13 (ms.drop i).length (PM.sm n (tz sz)) (by rw [List.length_drop]; exact h)
  have h3 : 13 ^ (ms.drop i).length ≤ 13 ^ 5 := Nat.pow_le_pow_right (by omega) (by rw [List.length_drop]; exact h5)
  unfold cn
  omega

/-- what holds while plans are counted -/
structure Cq (w W : World) (cb : Nat) (s : Sn) (D : Nat → Prop) (vc vw : Value) (sz : List Nat) : Prop where
  nb : NB W w.heap.size s.st vc vw
  hc : W.heap[cb]? = some (.cells (nc sz).toArray 3 (0, 0))
  lt : cb < w.heap.size
  rw : R2 D W vw s.ws
  dn : ∀ g, D g → g ≠ cb
section
variable {w W W' : World} {cb : Nat} {s : Sn} {D : Nat → Prop} {vc vw : Value} {sz : List Nat}
theorem Cq.next (h : Cq w W cb s D vc vw sz) (hb : Below W.heap.size W W') : Cq w W' cb s D vc vw sz :=
  ⟨h.nb.below' hb, (hb.block cb (Array.getElem?_eq_some_iff.1 h.hc).1).trans h.hc, h.lt, h.rw.below' hb, h.dn⟩
theorem Cq.put (h : Cq w W cb s D vc vw sz) (i x : Nat) : Cq w (W.setCell ⟨cb, i, none⟩ (.int .i64 (x : Int))) cb s D vc vw (sz.set i x) := by
  have keep : ∀ k, k ≠ cb → (W.setCell ⟨cb, i, none⟩ (.int .i64 (x : Int))).heap[k]? = W.heap[k]? := fun k hk => Below.heap_setCell W ⟨cb, i, none⟩ _ k hk
  have hl := h.lt
  exact ⟨(keep _ (by omega)).trans h.nb, by rw [← nc_set]; exact blk_set h.hc i _, h.lt, h.rw.keep (by simp [World.setCell]) fun g hg _ => keep g (h.dn g hg), h.dn⟩
end
theorem set_same {sz : List Nat} {c z : Nat} (h : sz[c]? = some z) : sz.set c z = sz := by
  obtain ⟨h1, h2⟩ := List.getElem?_eq_some_iff.1 h
  rw [← h2, List.set_getElem_self]
/-- one block is turned and turned back -/
theorem below_back {w A B : World} {cb i : Nat} {u v : Value} {C : List Value} {t : TypeId} (hA : Below w.heap.size w A) (hc : A.heap[cb]? = some (.cells C.toArray t (0, 0))) (hi : C[i]? = some v) (hB : Below A.heap.size (A.setCell ⟨cb, i, none⟩ u) B) :
    Below w.heap.size w (B.setCell ⟨cb, i, none⟩ v) := by
  have hcb := (Array.getElem?_eq_some_iff.1 hc).1
  have hz : (A.setCell ⟨cb, i, none⟩ u).heap.size = A.heap.size := by simp [World.setCell]
  have hBc := (hB.block cb hcb).trans (blk_set hc i u)
  refine ⟨hB.os.trans hA.os, hB.tape.trans hA.tape, hB.output.trans hA.output, ?_, fun k hk => ?_⟩
  · have h1 := hB.size
    rw [hz] at h1
    have : (B.setCell ⟨cb, i, none⟩ v).heap.size = B.heap.size := by simp [World.setCell]
    rw [this]; exact Nat.le_trans hA.size h1
  · by_cases e : k = cb
    · subst e
      rw [blk_set hBc i v, ← hA.block k hk, hc, List.set_set]
      obtain ⟨h1, h2⟩ := List.getElem?_eq_some_iff.1 hi
      rw [← h2, List.set_getElem_self]
    · rw [Below.heap_setCell B ⟨cb, i, none⟩ v k e, hB.block k (Nat.lt_of_lt_of_le hk hA.size), Below.heap_setCell A ⟨cb, i, none⟩ u k e, hA.block k hk]

set_option maxRecDepth 100000 in
set_option maxHeartbeats 8000000 in
theorem count_any (s : Sn) (n : Nat) (hrs : Rs s n) (vc vw : Value) (D : Nat → Prop) (r : Nat) : ∀ (i cb : Nat) (sz : List Nat) (w : World), i + r = s.ws.length → r ≤ 5 → R2 D w vw s.ws → (∀ g, D g → g ≠ cb) → w.heap[cb]? = some (.cells (nc sz).toArray 3 (0, 0)) → sz.length = n → PM.sm n (tz sz) + r ≤ 13 → (∀ x ∈ sz, x ≤ 5 - r) →
    Calls Try.prog 24 #[.agg (nv s.st vc vw).toArray, .int .i64 (i : Int), .slice (some ⟨cb, 0, none⟩) n n, .int .i64 1073741824] w fun e w' => e = .returned (.int .i64 (cn n (msk s) i sz : Nat)) ∧ Below w.heap.size w w' := by
  induction r with
  | zero =>
    intro i cb sz w hi _ hw _ _ _ _ _
    have HN := Hid.intro' (NB.new w s.st vc vw)
    have HB := Hid.intro' ((Below.refl w.heap.size w).alloc (Nat.le_refl _) (.cells (nv s.st vc vw).toArray 27))
    obtain ⟨aw, kw, rfl, _, _⟩ := hw.form
    have HC := Hid.intro' (cn_end (n := n) (ms := msk s) (i := i) (sz := sz) (by rw [hrs.mm.len]; omega))
    have c14 : (w.alloc (.cells (nv s.st vc (.slice aw s.ws.length kw)).toArray 27)).cell? ⟨w.heap.size, 14, none⟩ = some (.slice aw s.ws.length kw) := HN.out.cell 14
    obtain rfl : i = s.ws.length := by omega
    clear hw hi
    go_enter Try.func24, Try.ntmps24
    go_wp2
    go_ret
    exact ⟨ret_int (by rw [HC.out]; rfl), HB.out⟩
  | succ r ih =>
    intro i cb sz w hi hr5 hw hD hcb hsz h13 hx
    have hbx := (Below.refl w.heap.size w).alloc (Nat.le_refl _) (.cells (nv s.st vc vw).toArray 27)
    have hcl : cb < w.heap.size := (Array.getElem?_eq_some_iff.1 hcb).1
    have HQ0 : Hid (Cq w (w.alloc (.cells (nv s.st vc vw).toArray 27)) cb s D vc vw sz) := ⟨NB.new w s.st vc vw, (hbx.block cb hcl).trans hcb, hcl, hw.below' hbx, hD⟩
    have HB0 := Hid.intro' hbx
    obtain ⟨aw, kw, rfl, _, _⟩ := hw.form
    have hil : i < s.ws.length := by omega
    obtain ⟨y, hy⟩ : ∃ y, s.ws[i]? = some y := ⟨_, List.getElem?_eq_getElem hil⟩
    obtain ⟨m, hm, hym⟩ := hrs.mm.eq i y hy
    have hml : (msk s).length = s.ws.length := hrs.mm.len
    have HCN := Hid.intro' (cn_step (n := n) (sz := sz) hm hsz)
    have HSM := Hid.intro' (cn_small (n := n) (ms := msk s) (i := i) (sz := sz) (by omega) (by omega))
    have HIH := Hid.intro' ih
    have HRS := Hid.intro' hrs
    have HSZ := Hid.intro' hsz
    have HY := Hid.intro' hy
    have HYM := Hid.intro' hym
    have H13 := Hid.intro' h13
    have HXB := Hid.intro' hx
    have hn8 : n ≤ 8 := hrs.n8
    have hwl : s.ws.length ≤ 128 := hrs.wl
    have hm8 : m ≤ 100000 := by
      have h1 := hrs.lt m (List.mem_of_getElem? hm)
      have h2 : 2 ^ n ≤ 2 ^ 8 := Nat.pow_le_pow_right (by omega) hn8
      omega
    have q0 : ((i : Int) == (s.ws.length : Int)) = false := beq_eq_false_iff_ne.2 (by omega)
    have q0' : (i == s.ws.length) = false := beq_eq_false_iff_ne.2 (by omega)
    have c14 : (w.alloc (.cells (nv s.st vc (.slice aw s.ws.length kw)).toArray 27)).cell? ⟨w.heap.size, 14, none⟩ = some (.slice aw s.ws.length kw) := HQ0.out.nb.cell 14
    have hiz : (i : Int) ≤ 128 := by omega
    clear hbx hw hcb hcl hy hm hym hml ih hrs hsz h13 hx hD
    generalize hF : ca n (msk s) i sz m = f at HCN
    have HF := Hid.intro' hF
    clear hF
    go_enter Try.func24, Try.ntmps24
    go_wp2_with fail
    clear c14
    generalize (w.alloc (.cells (nv s.st vc (.slice aw s.ws.length kw)).toArray 27)) = W0 at HQ0 HB0 ⊢
    go_loopw [9, 10] (fun a j wr => ∃ c q : Nat, c ≤ n ∧ a = .int .i64 (q : Int) ∧ j = .int .i64 (c : Int) ∧ Hid (q = PM.sm c f) ∧ Hid (Cq w wr cb s D vc (.slice aw s.ws.length kw) sz) ∧ Hid (Below w.heap.size w wr)) (fun _ j _ => n - (intOf j).toNat)
    case atStart => exact ⟨0, 0, Nat.zero_le _, rfl, rfl, rfl, HQ0, HB0⟩
    case round =>
      clear HQ0 HB0
      obtain ⟨c, q, hc, rfl, rfl, HQV, HQ, HB⟩ := hrel
      have hqz : (q : Int) ≤ 371293 := by
        have h1 := HQV.out
        have h2 := sm_le_part (f := f) hc
        have h3 := HCN.out
        have h4 := HSM.out
        omega
      have hqb : decide ((q : Int) < 1073741824) = true := decide_eq_true (by omega)
      by_cases hlt : c < n
      · have hcz : (c : Int) < (n : Int) := by omega
        have HNB := Hid.intro' HQ.out.nb
        have HMT := Hid.intro' (may_any s D vc _ wr HQ.out.rw i c m y HY.out HYM.out hm8 (by omega))
        go_wp2_with (refine wpList_load27g ?hg _ rfl w.heap.size s.st _ _ rfl HNB.out ?_; (case hg => go_simp))
        refine HMT.out.mono ?_
        rintro e W1 ⟨rfl, hb1⟩
        have HQ1 := Hid.intro' (HQ.out.next hb1)
        have HB1 := Hid.intro' (below_class HB.out hb1)
        clear hb1 HMT HNB HQ HB
        cases hbt : PM.bt m c with
        | false =>
          have HFC : Hid (f c = 0) := by
            show f c = 0
            rw [← HF.out]; unfold ca; rw [hbt]; rfl
          go_wp2
          go_roundw
          case rel => exact ⟨c + 1, q, by omega, rfl, by go_num, (show q = _ by rw [PM.sm, HFC.out, ← HQV.out]; rfl), HQ1, HB1⟩
          case measure => simp [intOf]; omega
        | true =>
          obtain ⟨z, hz⟩ : ∃ z, sz[c]? = some z := ⟨_, List.getElem?_eq_getElem (by rw [HSZ.out]; exact hlt)⟩
          have hz5 : z ≤ 5 := by have := HXB.out z (List.mem_of_getElem? hz); omega
          have HFC : Hid (f c = (z + 1) * cn n (msk s) (i + 1) (sz.set c (z + 1))) := by
            show f c = _
            rw [← HF.out]; unfold ca; rw [hbt, if_pos rfl, hz, Option.getD_some]; unfold tz; rw [hz]; rfl
          have HFB : Hid (f c ≤ 371293) := by
            show f c ≤ _
            have h2 := sm_le_part (f := f) (k := c + 1) (n := n) (by omega)
            rw [PM.sm] at h2
            have h3 := HCN.out
            have h4 := HSM.out
            omega
          have HTZ := Hid.intro' (tz_set hz)
          have d0 : W1.cell? ⟨cb, c, none⟩ = some (.int .i64 (z : Int)) := (blk_cell HQ1.out.hc c).trans (nc_some hz)
          have d1 : W1.frozen? ⟨cb, c, none⟩ = false := blk_fr HQ1.out.hc c
          have HZ := Hid.intro' hz
          have HQ2 := Hid.intro' (HQ1.out.put c (z + 1))
          have e1 : ((z + 1 : Nat) : Int) = (z : Int) + 1 := by omega
          rw [e1] at HQ2
          have hzz : (z : Int) ≤ 5 := by omega
          clear hz e1
          go_wp2_with fail
          clear d0 d1
          have HCell : Hid (∀ w', Below (W1.setCell ⟨cb, c, none⟩ (.int .i64 ((z : Int) + 1))).heap.size (W1.setCell ⟨cb, c, none⟩ (.int .i64 ((z : Int) + 1))) w' → w'.cell? ⟨cb, c, none⟩ = some (.int .i64 ((z : Int) + 1))) := fun w' h => by
            show _ = _
            rw [blk_cell (HQ2.out.next h).hc c, nc_some (x := z + 1) (by rw [List.getElem?_set_self (by rw [HSZ.out]; exact hlt)])]; rfl
          have HNBs : Hid (∀ w', Below (W1.setCell ⟨cb, c, none⟩ (.int .i64 ((z : Int) + 1))).heap.size (W1.setCell ⟨cb, c, none⟩ (.int .i64 ((z : Int) + 1))) w' → NB w' w.heap.size s.st vc (.slice aw s.ws.length kw)) := fun w' h => (HQ2.out.next h).nb
          generalize hX : cn n (msk s) (i + 1) (sz.set c (z + 1)) = X at HFC
          have HCall : Hid (∀ w', Below (W1.setCell ⟨cb, c, none⟩ (.int .i64 ((z : Int) + 1))).heap.size (W1.setCell ⟨cb, c, none⟩ (.int .i64 ((z : Int) + 1))) w' → Calls Try.prog 24 #[.agg (nv s.st vc (.slice aw s.ws.length kw)).toArray, .int .i64 ((i + 1 : Nat) : Int), .slice (some ⟨cb, 0, none⟩) n n, .int .i64 1073741824] w' fun e w'' => e = .returned (.int .i64 (X : Int)) ∧ Below w'.heap.size w' w'') := fun w' h => by
            have hq := HQ2.out.next h
            have := HIH.out (i + 1) cb (sz.set c (z + 1)) w' (by omega) (by omega) hq.rw hq.dn hq.hc (by rw [List.length_set]; exact HSZ.out) (by rw [HTZ.out, PM.sm_inc hlt]; have := H13.out; omega) (fun x hx => by
              rcases List.mem_or_eq_of_mem_set hx with h | h
              · have := HXB.out x h; omega
              · have := HXB.out z (List.mem_of_getElem? HZ.out); omega)
            rwa [hX] at this
          clear hX
          have hXz : (X : Int) ≤ 371293 := by
            have h1 := HFC.out
            have h2 := HFB.out
            have h3 : X ≤ (z + 1) * X := Nat.le_mul_of_pos_left X (by omega)
            omega
          have hw1 : IntKind.i64.wrap ((i : Int) + 1) = ((i + 1 : Nat) : Int) := by rw [IntWalk.i64_in _ (by omega)]; omega
          generalize hFC : f c = FC at HFC HFB
          have hfz : (FC : Int) ≤ 371293 := by have := HFB.out; omega
          have hw2 : IntKind.i64.wrap (((z : Int) + 1) * (X : Int)) = (FC : Int) := by
            have : ((z : Int) + 1) * (X : Int) = (FC : Int) := by rw [HFC.out, Int.natCast_mul]; rfl
            rw [this, IntWalk.i64_in _ (by omega)]
          have hw3 : IntKind.i64.wrap ((q : Int) + (FC : Int)) = ((q + FC : Nat) : Int) := by rw [IntWalk.i64_in _ (by omega)]; omega
          have HFCc := Hid.intro' hFC
          have HQW := Hid.intro' HQ1.out.hc
          have HZW := Hid.intro' (show (W1.setCell ⟨cb, c, none⟩ (.int .i64 ((z : Int) + 1))).heap.size = W1.heap.size by simp [World.setCell])
          have HBK : Hid (∀ B, Below (W1.setCell ⟨cb, c, none⟩ (.int .i64 ((z : Int) + 1))).heap.size (W1.setCell ⟨cb, c, none⟩ (.int .i64 ((z : Int) + 1))) B → Below w.heap.size w (B.setCell ⟨cb, c, none⟩ (.int .i64 (z : Int)))) := fun B hB => by
            rw [HZW.out] at hB
            exact below_back HB1.out HQW.out (nc_some HZ.out) hB
          clear hFC HQ1 HB1
          generalize (W1.setCell ⟨cb, c, none⟩ (.int .i64 ((z : Int) + 1))) = W2 at HQ2 HCell HNBs HCall HBK ⊢
          refine wp_region_quiet (C := fun w' => Below W2.heap.size W2 w') (by kernel_rfl) (by kernel_rfl) ((Below.refl _ _).drew) ?_
          simp only []
          unfold wpQuiet
          generalize hK : wpQuiet Try.prog _ _ _ _ = K
          go_simp
          refine ⟨_, fun _ _ => rfl, ?_⟩
          subst hK
          unfold wpQuiet
          generalize hK : wpQuiet Try.prog _ _ _ _ = K
          go_simp
          refine ⟨_, fun _ _ => rfl, ?_⟩
          subst hK
          unfold wpQuiet
          generalize hK : wpQuiet Try.prog _ _ _ _ = K
          go_simp
          refine ⟨_, fun _ _ => rfl, ?_⟩
          subst hK
          unfold wpQuiet
          generalize hK : wpQuiet Try.prog _ _ _ _ = K
          go_simp
          refine ⟨_, fun _ _ => rfl, ?_⟩
          subst hK
          unfold wpQuiet
          generalize hK : wpQuiet Try.prog _ _ _ _ = K
          rw [if_pos (by go_simp)]
          refine quiet_load3 _ cb c rfl rfl HCell.out ?_
          go_simp
          subst hK
          unfold wpQuiet
          generalize hK : wpQuiet Try.prog _ _ _ _ = K
          rw [if_pos (by go_simp)]
          refine quiet_load27 _ w.heap.size s.st _ _ rfl rfl HNBs.out ?_
          go_simp
          subst hK
          unfold wpQuiet
          generalize hK : wpQuiet Try.prog _ _ _ _ = K
          go_simp
          refine ⟨_, fun _ _ => rfl, ?_⟩
          subst hK
          unfold wpQuiet
          generalize hK : wpQuiet Try.prog _ _ _ _ = K
          go_simp
          refine ⟨_, fun _ _ => rfl, ?_⟩
          subst hK
          unfold wpQuiet
          generalize hK : wpQuiet Try.prog _ _ _ _ = K
          go_simp
          refine ⟨_, fun _ _ => rfl, ?_⟩
          subst hK
          unfold wpQuiet
          generalize hK : wpQuiet Try.prog _ _ _ _ = K
          go_simp
          refine ⟨_, fun _ _ => rfl, ?_⟩
          subst hK
          unfold wpQuiet
          generalize hK : wpQuiet Try.prog _ _ _ _ = K
          go_simp
          refine ⟨_, fun w' hw => (HCall.out w' hw).mono fun e w'' hh => ⟨hh.1, below_class hw hh.2⟩, ?_⟩
          subst hK
          unfold wpQuiet
          generalize hK : wpQuiet Try.prog _ _ _ _ = K
          go_simp
          refine ⟨_, fun _ _ => rfl, ?_⟩
          subst hK
          unfold wpQuiet
          generalize hK : wpQuiet Try.prog _ _ _ _ = K
          go_simp
          refine ⟨_, fun _ _ => rfl, ?_⟩
          subst hK
          unfold wpQuiet
          generalize hK : wpQuiet Try.prog _ _ _ _ = K
          go_simp
          refine ⟨_, fun _ _ => rfl, ?_⟩
          subst hK
          refine wpQuiet_nil ?_
          intro W3 hb3
          have d3 := HCell.out W3 hb3
          have d4 : W3.frozen? ⟨cb, c, none⟩ = false := blk_fr (HQ2.out.next hb3).hc c
          have HQ4 : Hid (Cq w (W3.setCell ⟨cb, c, none⟩ (.int .i64 (z : Int))) cb s D vc (.slice aw s.ws.length kw) sz) := by
            have h := (HQ2.out.next hb3).put c z
            rwa [List.set_set, set_same HZ.out] at h
          have HB4 := Hid.intro' (HBK.out W3 hb3)
          clear hb3 HCell HNBs HCall HBK HQ2 hw1 hw2 hw3
          go_wp2
          go_roundw
          case rel => exact ⟨c + 1, q + FC, by omega, by go_num, by go_num, (show q + FC = _ by rw [PM.sm, ← HQV.out, HFCc.out]), HQ4, HB4⟩
          case measure => simp [intOf]; omega
      · have hcz : ¬ (c : Int) < (n : Int) := by omega
        have HE : Hid (cn n (msk s) i sz = q) := by
          show _ = q
          rw [HCN.out, HQV.out, show c = n by omega]
        go_wp2
        go_ret
        exact ⟨ret_int (by rw [HE.out]), HB.out⟩

theorem R2.mono' {D : Nat → Prop} {w W : World} {v : Value} {l : List (Int × Int)} (h : R2 D W v l) (h0 : R2 D w v l) : R2 (fun g => g < w.heap.size) W v l := by
  obtain ⟨a, cap, rfl, hc, hn, h⟩ := h
  refine ⟨a, cap, rfl, hc, hn, ?_⟩
  obtain ⟨a', cap', e, _, _, h0⟩ := h0
  cases e
  rcases h0 with h0 | ⟨g0, o0, e0, _, hlt0, _⟩
  · exact .inl h0
  · subst e0
    rcases h with h | ⟨g, o, e, _, hlt, h⟩
    · exact .inl h
    · cases e
      exact .inr ⟨g0, o0, rfl, hlt0, hlt, h⟩
theorem tz_rep (n : Nat) : tz (List.replicate n 0) = fun _ => 1 := by
  funext c
  unfold tz
  rw [List.getElem?_replicate]
  split <;> rfl
theorem sm_ones (n : Nat) : PM.sm n (fun _ => 1) = n := by
  induction n with
  | zero => rfl
  | succ n ih => rw [PM.sm, ih]

set_option maxHeartbeats 2000000 in
theorem counts_any (s : Sn) (n : Nat) (hrs : Rs s n) (h5 : s.ws.length ≤ 5) (vc vw : Value) (D : Nat → Prop) (w : World) (hc : R2 D w vc s.cs) (hw : R2 D w vw s.ws) :
    Calls Try.prog 11 #[.agg (nv s.st vc vw).toArray, .int .i64 1073741824] w fun e w' => e = .returned (.int .i64 (PM.kp n (fun _ => 1) (msk s) (List.replicate (msk s).length false) : Nat)) ∧ Below w.heap.size w w' := by
  have hbx := (Below.refl w.heap.size w).alloc (Nat.le_refl _) (.cells (nv s.st vc vw).toArray 27)
  have hn8 := hrs.n8
  have hmk := mkI n (by omega)
  have HE : Hid (cn n (msk s) 0 (List.replicate n 0) = PM.kp n (fun _ => 1) (msk s) (List.replicate (msk s).length false)) := by
    show _ = _
    unfold cn
    rw [tz_rep, List.drop_zero, Nat.sub_zero]
  have hb2 := hbx.alloc hbx.size (.cells (List.replicate n (Value.int .i64 0)).toArray 3)
  have HC := Hid.intro' (count_any s n hrs vc vw (fun g => g < w.heap.size) s.ws.length 0 (w.alloc (.cells (nv s.st vc vw).toArray 27)).heap.size (List.replicate n 0) ((w.alloc (.cells (nv s.st vc vw).toArray 27)).alloc (.cells (List.replicate n (Value.int .i64 0)).toArray 3)) (by omega) h5
    ((hw.below' hb2).mono' hw) (fun g hg => by simp; omega) (by rw [nc_rep]; exact World.alloc_heap_new _ _) (by simp) (by rw [tz_rep, sm_ones]; omega) (fun x hx => by rw [List.mem_replicate] at hx; omega))
  have HN := Hid.intro' ((NB.new w s.st vc vw).alloc (.cells (List.replicate n (Value.int .i64 0)).toArray 3))
  rw [HE.out, List.toArray_replicate, World.size_alloc] at HC
  rw [List.toArray_replicate] at hb2 HN
  have HB := Hid.intro' hb2
  obtain ⟨ac, kc, rfl, _, _⟩ := hc.form
  have c13 : (w.alloc (.cells (nv s.st (.slice ac s.cs.length kc) vw).toArray 27)).cell? ⟨w.heap.size, 13, none⟩ = some (.slice ac s.cs.length kc) := (NB.new w s.st _ vw).cell 13
  have HRS := Hid.intro' hrs.cl
  clear hbx hb2 hc hw hrs HE
  rw [HRS.out] at HN HC HB c13 ⊢
  go_enter Try.func11, Try.ntmps11
  go_wp2_with (refine wpList_load27g rfl _ rfl w.heap.size s.st _ _ rfl HN.out ?_)
  refine HC.out.mono ?_
  rintro e W1 ⟨rfl, hb1⟩
  have HB1 := Hid.intro' (below_class HB.out hb1)
  clear hb1
  go_wp2
  go_ret
  exact ⟨rfl, HB1.out⟩

end Go.Proofs.Ytdpfgjipjjkcgaf
