/- Whether a plan may be, as the program tells it. -/
import Derived.Test.YtkcppidmbojglafPlH
namespace Go.Proofs.Ytkcppidmbojglaf
open Go.RowKit

/-- may a plan of a snapshot be? -/
def fsb (s : Sn) (p : List (List Int)) : Bool := rgt s && decide (p.length = s.cs.length) && PM.feas (msk s) p
/-- what holds while a plan is looked at -/
structure Fq (w W : World) (B b sb lb : Nat) (s : Sn) (D G : Nat → Prop) (vc vw vp : Value) (p : List (List Int)) (vs : List Value) (st : List Bool) (ls : List (List Int)) : Prop where
  nb : NB W w.heap.size s.st vc vw
  nB : w.heap.size < B
  dq : Dq W B b sb lb vw vs G s.ws st ls
  rp : RL D W vp p
  dl : ∀ g, D g → g < w.heap.size
  bel : Below w.heap.size w W
  sl : st.length = s.ws.length
  BW : B ≤ W.heap.size
section
variable {w W W' : World} {B b sb lb : Nat} {s : Sn} {D G : Nat → Prop} {vc vw vp : Value} {p : List (List Int)} {vs vs' : List Value} {st st' : List Bool} {ls ls' : List (List Int)}
theorem Fq.next (h : Fq w W B b sb lb s D G vc vw vp p vs st ls) (hb : Below W.heap.size W W') : Fq w W' B b sb lb s D G vc vw vp p vs st ls :=
  ⟨h.nb.below' hb, h.nB, h.dq.below' hb, h.rp.below' hb, h.dl, below_class h.bel hb, h.sl, Nat.le_trans h.BW hb.size⟩
theorem Fq.step (h : Fq w W B b sb lb s D G vc vw vp p vs st ls) (hd : Dq W' B b sb lb vw vs' G s.ws st' ls') (hk : Kp (fp b sb lb vs) W W') (hs : st'.length = st.length) : Fq w W' B b sb lb s D G vc vw vp p vs' st' ls' := by
  have far : ∀ k, k < B → ¬ fp b sb lb vs k := fun k hk hf => by have := (h.dq.fp_lo hf).1; omega
  have hB := h.nB
  exact ⟨h.nb.kp hk (far _ h.nB), h.nB, hd, h.rp.keep hk.size fun g hg hlt => hk.block g hlt (far g (by have := h.dl g hg; omega)), h.dl, hk.below h.bel h.bel.size (fun i hi => far i (by omega)), hs.trans h.sl, Nat.le_trans h.BW hk.size⟩
end
theorem RI.base {w W : World} {v : Value} {l : List Int} (h : RI (fun g => g < w.heap.size) W v l) (hb : Below w.heap.size w W) : RI (fun g => g < w.heap.size) w v l := by
  obtain ⟨a, cap, rfl, hc, hn, h⟩ := h
  refine ⟨a, cap, rfl, hc, hn, ?_⟩
  rcases h with h | ⟨g, o, rfl, hd, _, h⟩
  · exact .inl h
  · exact .inr ⟨g, o, rfl, hd, hd, fun i y hy => (hb.cell (p := ⟨g, o + i, none⟩) hd).symm.trans (h i y hy)⟩
/-- what is left of the look: R is the whole's outcome -/
def Lf (R : Option (List Bool)) (ms : List Nat) (k : Nat) (st : List Bool) (l : List Int) (p : List (List Int)) : Prop := R = (PM.run1 ms k st l).bind fun st' => PM.runs ms (k + 1) st' p
theorem Lf.no {R : Option (List Bool)} {ms : List Nat} {k : Nat} {st : List Bool} {x : Int} {l : List Int} {p : List (List Int)} (h : Lf R ms k st (x :: l) p) (hx : ¬ (PM.okx ms k x = true ∧ st[x.toNat]? = some false)) : R = none := by
  unfold Lf at h
  rw [h, PM.run1, if_neg hx]; rfl
theorem Lf.yes {R : Option (List Bool)} {ms : List Nat} {k : Nat} {st : List Bool} {x : Int} {l : List Int} {p : List (List Int)} (h : Lf R ms k st (x :: l) p) (hx : PM.okx ms k x = true ∧ st[x.toNat]? = some false) : Lf R ms k (st.set x.toNat true) l p := by
  unfold Lf at h ⊢
  rw [h, PM.run1, if_pos hx]
theorem drop_cons {α : Type} {l : List α} {k : Nat} {x : α} (h : l[k]? = some x) : l.drop k = x :: l.drop (k + 1) := by
  obtain ⟨hk, rfl⟩ := List.getElem?_eq_some_iff.1 h
  exact List.drop_eq_getElem_cons hk
theorem feas_none {ms : List Nat} {p : List (List Int)} (h : PM.runs ms 0 (List.replicate ms.length false) p = none) : PM.feas ms p = false := by unfold PM.feas; rw [h]; rfl
theorem feas_some {ms : List Nat} {p : List (List Int)} {st : List Bool} (h : PM.runs ms 0 (List.replicate ms.length false) p = some st) : PM.feas ms p = st.all id := by unfold PM.feas; rw [h]; rfl

set_option maxHeartbeats 8000000 in
theorem feasible_any (s : Sn) (D : Nat → Prop) (vc vw vp : Value) (p : List (List Int)) (w : World) (hc : R2 D w vc s.cs) (hw : R2 D w vw s.ws) (hp : RL D w vp p) (hpl : p.length ≤ 1000) (hll : ∀ l ∈ p, l.length ≤ 1000) :
    Calls Try.prog 16 #[.agg (nv s.st vc vw).toArray, vp] w fun e w' => e = .returned (.bool (fsb s p)) ∧ Below w.heap.size w w' := by
  have HP : Hid (RL (fun g => g < w.heap.size) w vp p) := hp.mono fun g _ h _ => h
  have HW : Hid (R2 (fun g => g < w.heap.size) w vw s.ws) := hw.mono fun g _ h _ => h
  have hbx := (Below.refl w.heap.size w).alloc (Nat.le_refl _) (.cells (nv s.st vc vw).toArray 27)
  have HR := Hid.intro' (snapRight_any s D vc vw _ (hc.below' hbx) (hw.below' hbx))
  have HN := Hid.intro' (NB.new w s.st vc vw)
  have HB := Hid.intro' hbx
  obtain ⟨ac, kc, rfl, _, _⟩ := hc.form
  obtain ⟨aw, kw, rfl, _, _⟩ := hw.form
  obtain ⟨ap, kp, rfl, _, _⟩ := hp.form
  have HLL := Hid.intro' hll
  clear hc hw hp hbx hll
  go_enter Try.func16, Try.ntmps16
  go_wp2_with (refine wpList_load27g rfl _ rfl w.heap.size s.st _ _ rfl HN.out ?_)
  refine HR.out.mono ?_
  rintro e W1 ⟨rfl, hb1⟩
  have HN1 := Hid.intro' (HN.out.below' hb1)
  have HB1 := Hid.intro' (below_class HB.out hb1)
  have HZ1 := Hid.intro' (show w.heap.size < W1.heap.size by have := hb1.size; simp at this; omega)
  clear hb1 HR HN HB
  cases hr : rgt s with
  | false =>
    go_wp2
    go_ret
    exact ⟨ret_bool (by unfold fsb; rw [hr]; rfl), HB1.out⟩
  | true =>
    obtain ⟨n, hrs⟩ := rgt_rs hr
    have HRS := Hid.intro' hrs
    have HRR := Hid.intro' hr
    have hcl : s.cs.length = n := hrs.cl
    have hn8 : n ≤ 8 := hrs.n8
    have hwl : s.ws.length ≤ 128 := hrs.wl
    clear hrs hr
    have c13 : W1.cell? ⟨w.heap.size, 13, none⟩ = some (.slice ac s.cs.length kc) := HN1.out.cell 13
    have c14 : W1.cell? ⟨w.heap.size, 14, none⟩ = some (.slice aw s.ws.length kw) := HN1.out.cell 14
    rw [hcl] at c13
    have HCL := Hid.intro' hcl
    by_cases hpn : p.length = n
    · have q1 : ((p.length : Int) != (n : Int)) = false := by simp; omega
      have HPN := Hid.intro' hpn
      clear hcl hpn
      go_wp2_with fail
      clear c13 c14 q1
      refine (newDraft_any n (by omega) (fun g => g < w.heap.size) _ s.ws W1 (HW.out.below' HB1.out) (fun g hg => Nat.lt_of_lt_of_le hg HB1.out.size) (by omega)).mono ?_
      rintro e W2 ⟨b, sb, lb, rfl, hd2, hb2⟩
      have HF2 : Hid (Fq w W2 W1.heap.size b sb lb s (fun g => g < w.heap.size) (fun g => g < w.heap.size) (.slice ac s.cs.length kc) (.slice aw s.ws.length kw) (.slice ap p.length kp) p (List.replicate n (Value.slice none 0 0)) (List.replicate s.ws.length false) (List.replicate n [])) :=
        ⟨HN1.out.below' hb2, HZ1.out, hd2, HP.out.below' (below_class HB1.out hb2), fun _ h => h, below_class HB1.out hb2, by simp, hb2.size⟩
      clear hd2 hb2 HN1 HZ1
      generalize W1.heap.size = B at HF2
      obtain ⟨R, HR⟩ : ∃ R, Hid (PM.runs (msk s) 0 (List.replicate (msk s).length false) p = R) := ⟨_, Hid.intro' rfl⟩
      have HFN : Hid (R = none → fsb s p = false) := fun e => by
        show fsb s p = false
        have := HR.out
        rw [e] at this
        unfold fsb; rw [feas_none this]; simp
      have HFS : Hid (∀ st, R = some st → fsb s p = st.all id) := fun st e => by
        show fsb s p = st.all id
        have := HR.out
        rw [e] at this
        unfold fsb; rw [feas_some this, HRR.out, HPN.out, HCL.out]; simp
      have HML : Hid ((msk s).length = s.ws.length) := HRS.out.mm.len
      go_wp2_with fail
      go_loopw [29] (fun i wr => ∃ (k : Nat) (vs : List Value) (st : List Bool) (ls : List (List Int)), k ≤ p.length ∧ i = .int .i64 (k : Int) ∧ Hid (Fq w wr B b sb lb s (fun g => g < w.heap.size) (fun g => g < w.heap.size) (.slice ac s.cs.length kc) (.slice aw s.ws.length kw) (.slice ap p.length kp) p vs st ls) ∧
        Hid (R = PM.runs (msk s) k st (p.drop k) ∧ ls.length = n ∧ ∀ c, k ≤ c → c < n → ls[c]? = some [])) (fun i _ => p.length - (intOf i).toNat)
      case atStart =>
        refine ⟨0, _, _, _, Nat.zero_le _, rfl, HF2, ?_, by simp, fun c _ hc => by simp [hc]⟩
        rw [← HR.out, HML.out, List.drop_zero]
      case round =>
        obtain ⟨k, vs, st, ls, hk, rfl, HF, HI⟩ := hrel
        clear HF2
        by_cases hlt : k < p.length
        · have hkz : (k : Int) < (p.length : Int) := by omega
          obtain ⟨l, hl⟩ : ∃ l, p[k]? = some l := ⟨_, List.getElem?_eq_getElem hlt⟩
          obtain ⟨gp, op, rfl, u, hcu, hru⟩ := HF.out.rp.at hl
          obtain ⟨au, ku, rfl, _, _⟩ := hru.form
          have HL := Hid.intro' hl
          have hln : l.length ≤ 1000 := HLL.out l (List.mem_of_getElem? hl)
          have HRU3 := Hid.intro' (hru.base HF.out.bel)
          clear hl hru
          go_wp2_with fail
          have HK2 : Hid (Lf R (msk s) k st l (p.drop (k + 1))) := by
            show R = _
            rw [HI.out.1, drop_cons HL.out, PM.runs]
          have HLN := Hid.intro' HI.out.2.1
          have HEM := Hid.intro' HI.out.2.2
          have hkn : k < n := by have := HPN.out; omega
          clear HI hcu
          have HF3 := HF
          clear HF
          generalize wr = W3 at HF3 ⊢
          go_loopw [36] (fun i wr => ∃ (j : Nat) (vs : List Value) (st : List Bool) (ls : List (List Int)), j ≤ l.length ∧ i = .int .i64 (j : Int) ∧ Hid (Fq w wr B b sb lb s (fun g => g < w.heap.size) (fun g => g < w.heap.size) (.slice ac s.cs.length kc) (.slice aw s.ws.length kw) (.slice (some ⟨gp, op, none⟩) p.length kp) p vs st ls) ∧
            Hid (Lf R (msk s) k st (l.drop j) (p.drop (k + 1))) ∧ Hid (ls.length = n ∧ ∃ l', ls[k]? = some l' ∧ l'.length ≤ j) ∧ Hid (∀ c, k < c → c < n → ls[c]? = some [])) (fun i _ => l.length - (intOf i).toNat)
          case atStart => exact ⟨0, vs, st, ls, Nat.zero_le _, rfl, HF3, HK2, ⟨HLN.out, [], HEM.out k (Nat.le_refl _) hkn, Nat.le_refl _⟩, fun c h1 h2 => HEM.out c (by omega) h2⟩
          case round =>
            clear HF3 HK2 HLN HEM
            obtain ⟨j, vs, st, ls, hj, rfl, HF, HK, HLN, HEM⟩ := hrel
            by_cases hjl : j < l.length
            · have hjz : (j : Int) < (l.length : Int) := by omega
              obtain ⟨x, hx⟩ : ∃ x, l[j]? = some x := ⟨_, List.getElem?_eq_getElem hjl⟩
              obtain ⟨gu, ou, rfl, hcx⟩ := (HRU3.out.below' HF.out.bel).at hx
              have c14 : wr.cell? ⟨w.heap.size, 14, none⟩ = some (.slice aw s.ws.length kw) := HF.out.nb.cell 14
              have HDC := Hid.intro' (drop_cons hx)
              have HXX := Hid.intro' hx
              have HK1 : Hid (Lf R (msk s) k st (x :: l.drop (j + 1)) (p.drop (k + 1))) := by
                have h := HK.out
                rw [HDC.out] at h
                exact h
              clear HK hx
              by_cases hx0 : x < 0
              · have HNO := Hid.intro' (HFN.out (HK1.out.no fun h => by have := (PM.okx_iff.1 h.1).1; omega))
                go_wp2
                go_ret
                exact ⟨ret_bool HNO.out.symm, HF.out.bel⟩
              · by_cases hx1 : (s.ws.length : Int) ≤ x
                · have HNO := Hid.intro' (HFN.out (HK1.out.no fun h => by have := (PM.okx_iff.1 h.1).2.1; have := HML.out; omega))
                  have q1 : decide (x < 0) = false := decide_eq_false hx0
                  clear hx0
                  go_wp2
                  go_ret
                  exact ⟨ret_bool HNO.out.symm, HF.out.bel⟩
                · obtain ⟨i, rfl⟩ : ∃ i : Nat, x = (i : Int) := ⟨x.toNat, by omega⟩
                  have hiw : i < s.ws.length := by omega
                  have q1 : decide ((i : Int) < 0) = false := decide_eq_false hx0
                  have q2 : decide ((s.ws.length : Int) ≤ (i : Int)) = false := decide_eq_false hx1
                  obtain ⟨y, hy⟩ : ∃ y, s.ws[i]? = some y := ⟨_, List.getElem?_eq_getElem hiw⟩
                  obtain ⟨z, hz⟩ : ∃ z, st[i]? = some z := ⟨_, List.getElem?_eq_getElem (by rw [HF.out.sl]; exact hiw)⟩
                  obtain ⟨m, hm, hym⟩ := HRS.out.mm.eq i y hy
                  have hmt := mayTake_any HF.out.dq k i m z y (by omega) hz hy hym
                  have HIFF : Hid ((PM.okx (msk s) k (i : Int) = true ∧ st[(i : Int).toNat]? = some false) ↔ (!z && PM.bt m k) = true) := by
                    show _ ↔ _
                    rw [PM.okx_iff, Int.toNat_natCast, hz, hm, Option.getD_some]
                    have := HML.out
                    constructor
                    · rintro ⟨⟨_, _, h1⟩, h2⟩
                      cases h2
                      rw [h1]; rfl
                    · intro h
                      rw [Bool.and_eq_true] at h
                      refine ⟨⟨by omega, by omega, h.2⟩, ?_⟩
                      cases z
                      · rfl
                      · cases h.1
                  have HZ := Hid.intro' hz
                  clear hx0 hx1 hy hz hm hym
                  cases hq : (!z && PM.bt m k) with
                  | false =>
                    rw [hq] at hmt HIFF
                    have HNO := Hid.intro' (HFN.out (HK1.out.no fun h => by have := HIFF.out.1 h; cases this))
                    go_wp2_with (go_at_call 38; refine hmt.mono ?_; rintro e w' ⟨rfl, rfl⟩)
                    go_ret
                    exact ⟨ret_bool HNO.out.symm, HF.out.bel⟩
                  | true =>
                    rw [hq] at hmt HIFF
                    have HK3 := Hid.intro' (HK1.out.yes (HIFF.out.2 rfl))
                    obtain ⟨l', hl', hll'⟩ := HLN.out.2
                    have HTK := Hid.intro' (take_any HF.out.dq k i z l' HZ.out hl' (by omega) HF.out.BW)
                    go_wp2_with (go_at_call 38; refine hmt.mono ?_; rintro e w' ⟨rfl, rfl⟩)
                    refine HTK.out.mono ?_
                    rintro e W5 ⟨⟨v, rfl⟩, vs', hd5, hk5, _⟩
                    have HF5 := Hid.intro' (HF.out.step hd5 hk5 (by rw [List.length_set]))
                    have HL5 : Hid ((ls.set k (l' ++ [(i : Int)])).length = n ∧ ∃ l'', (ls.set k (l' ++ [(i : Int)]))[k]? = some l'' ∧ l''.length ≤ j + 1) :=
                      ⟨by rw [List.length_set]; exact HLN.out.1, l' ++ [(i : Int)], by rw [List.getElem?_set_self (by rw [HLN.out.1]; exact hkn)], by simp; exact hll'⟩
                    have HE5 : Hid (∀ c, k < c → c < n → (ls.set k (l' ++ [(i : Int)]))[c]? = some []) := fun c h1 h2 => by
                      show _ = _
                      rw [List.getElem?_set_ne (by omega)]; exact HEM.out c h1 h2
                    rw [Int.toNat_natCast] at HK3
                    clear hd5 hk5 HTK hmt hcx c14 HF HLN HEM HK1
                    go_wp2
                    go_roundw
                    case rel => exact ⟨j + 1, vs', st.set i true, _, by omega, by go_num, HF5, HK3, HL5, HE5⟩
                    case measure => simp [intOf]; omega
            · have hjz : ¬ (j : Int) < (l.length : Int) := by omega
              have HK2 : Hid (R = PM.runs (msk s) (k + 1) st (p.drop (k + 1))) := by
                show R = _
                have h := HK.out
                unfold Lf at h
                rw [h, List.drop_of_length_le (by omega), PM.run1]; rfl
              go_wp2
              go_roundw
              case rel => exact ⟨k + 1, vs, st, ls, by omega, by go_num, HF, HK2.out, HLN.out.1, fun c h1 h2 => HEM.out c (by omega) h2⟩
              case measure => simp [intOf]; omega
        · have hkz : ¬ (k : Int) < (p.length : Int) := by omega
          have HS := Hid.intro' (HFS.out st (by rw [HI.out.1, List.drop_of_length_le (by omega), PM.runs]))
          go_wp2_with fail
          refine (nothingLeft_any HF.out.dq (by have := HF.out.sl; omega)).mono ?_
          rintro e w' ⟨rfl, rfl⟩
          go_wp2
          go_ret
          exact ⟨ret_bool HS.out.symm, HF.out.bel⟩
    · have q1 : ((p.length : Int) != (n : Int)) = true := by simp; omega
      have HQ : Hid (fsb s p = false) := by
        show fsb s p = false
        unfold fsb; rw [HCL.out, decide_eq_false hpn]; simp
      clear hpn hcl
      go_wp2
      go_ret
      exact ⟨ret_bool HQ.out.symm, HB1.out⟩
end Go.Proofs.Ytkcppidmbojglaf
