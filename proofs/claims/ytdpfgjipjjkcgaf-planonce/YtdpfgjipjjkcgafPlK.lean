/- All plans that go on from one: the walk through them. -/
import Derived.Test.YtdpfgjipjjkcgafPlH
import Derived.Test.YtdpfgjipjjkcgafRgF
import Derived.RangeFuncBound
import Derived.Shelf.RegionOpen
import Derived.TacticsInMore
import Derived.LoopNIn
import Derived.LoopIn
import Derived.OwnWalkIn
namespace Go.Proofs.Ytdpfgjipjjkcgaf
open Go.RowKit Go.Shelf
attribute [local go_sem] Oper.semAt_some

/-- what is the same at each step of the walk -/
structure Gz (n : Nat) (ms : List Nat) (ws : List (Int × Int)) : Prop where
  lt : ∀ m ∈ ms, m < 2 ^ n
  n8 : n ≤ 8
  mm : Mk ws ms
  wl : ws.length ≤ 128
/-- the plans of the first i wants -/
def fl (n : Nat) (ms : List Nat) (k c : Nat) (st : List Bool) (ls : List (List Int)) (i : Nat) : List (List (List Int)) :=
  (List.range i).flatMap fun w => if st[w]? = some false ∧ PM.bt (ms[w]?.getD 0) c = true then PM.gen n ms k c (st.set w true) (PM.add ls c w) else []
theorem fl_succ (n : Nat) (ms : List Nat) (k c : Nat) (st : List Bool) (ls : List (List Int)) (i : Nat) : fl n ms k c st ls (i + 1) = fl n ms k c st ls i ++ (if st[i]? = some false ∧ PM.bt (ms[i]?.getD 0) c = true then PM.gen n ms k c (st.set i true) (PM.add ls c i) else []) := by
  unfold fl; rw [List.range_succ, List.flatMap_append]; simp
theorem gen_fl {n : Nat} {ms : List Nat} {k c : Nat} {st : List Bool} {ls : List (List Int)} (hc : c ≠ n) : PM.gen n ms (k + 1) c st ls = fl n ms k c st ls ms.length ++ (if PM.meTo ms st c ms.length = true then PM.gen n ms k (c + 1) st ls else []) := by
  unfold fl; rw [PM.gen, if_neg hc]
theorem fl_pre {n : Nat} {ms : List Nat} {k c : Nat} {st : List Bool} {ls : List (List Int)} {i j : Nat} (h : i ≤ j) : fl n ms k c st ls i <+: fl n ms k c st ls j := by
  induction j with
  | zero => rw [show i = 0 by omega]; exact List.prefix_rfl
  | succ j ih =>
    by_cases e : i = j + 1
    · rw [e]; exact List.prefix_rfl
    · rw [fl_succ]; exact (ih (by omega)).trans (List.prefix_append _ _)

/-- a plan that isn't too long -/
def Sm (p : List (List Int)) : Prop := p.length ≤ 1000 ∧ ∀ l ∈ p, l.length ≤ 1000
section
variable (l n : Nat) (ms : List Nat) (ws : List (Int × Int)) (B b sb lb : Nat) (vw : Value) (G : Nat → Prop) (J Jx : List (List (List Int)) → (Nat → Prop) → World → Prop)
/-- what a round does -/
def Yd : Prop := ∀ m pre p F W v, J pre F W → RL F W v p → Sm p → YieldAt Fence.wide m Try.prog l #[v] W fun e W' =>
  (e = .returned (.bool true) ∧ J (pre ++ [p]) F W' ∧ Kept (fun k => F k ∨ G k) W W') ∨ (e = .returned (.bool false) ∧ Jx (pre ++ [p]) F W' ∧ Kept F W W')
/-- what is behind a walk -/
def Wd (P : List (List (List Int))) (st : List Bool) (ls : List (List Int)) (pre : List (List (List Int))) (e : Ending) (W' : World) : Prop :=
  (e = .returned (.bool true) ∧ ∃ vs', Dq W' B b sb lb vw vs' G ws st ls ∧ J (pre ++ P) (fp b sb lb vs') W') ∨ (e = .returned (.bool false) ∧ ∃ q F, q <+: P ∧ Jx (pre ++ q) F W')
end

set_option maxRecDepth 100000 in
set_option maxHeartbeats 4000000 in
theorem goOn_end (l n : Nat) (ws : List (Int × Int)) (B b sb lb : Nat) (vw : Value) (G : Nat → Prop) (J Jx : List (List (List Int)) → (Nat → Prop) → World → Prop)
    (hY : Yd l G J Jx) (nn : Nat) (st : List Bool) (ls : List (List Int)) (pre : List (List (List Int))) (vs : List Value) (W : World) (hd : Dq W B b sb lb vw vs G ws st ls) (hn : ls.length = n) (hsm : Sm ls) (hJ0 : J pre (fp b sb lb vs) W) :
    CallsIn Fence.wide nn Try.prog 35 #[.pointer (some ⟨b, 0, none⟩), .int .i64 (n : Int), .func (.yield l) #[] #[]] W (Wd ws B b sb lb vw G J Jx [ls] st ls pre) := by
  refine callsIn_of_wp Try.func35 rfl trivial ?_ rfl
  simp only [Try.ntmps35, List.size_toArray, List.length_cons, List.length_nil, Nat.reduceAdd, Nat.reduceSub, Array.replicate_succ, Array.replicate_zero, List.push_toArray, List.append_toArray, List.nil_append, List.cons_append]
  have hwf : ∀ k, Fence.wide.fn k := fun _ => trivial
  have c2 := hd.c2
  rw [hn] at c2
  obtain ⟨fn, tmps, assign, body, hy, hR⟩ := hY (nn - 1) pre ls (fp b sb lb vs) W _ hJ0 hd.rl hsm
  rw [hn] at hy
  have HD := Hid.intro' hd
  clear hd hJ0 hY hn hsm
  gi_wp2
  refine ⟨fun h => (by cases h), ?_⟩
  refine hR.mono ?_
  rintro e W3 (⟨rfl, hJ3, hk3⟩ | ⟨rfl, hJx3, _⟩)
  · have HQ := Hid.intro' (And.intro (HD.out.keep hk3.size fun k hk h => hk3.same k hk h) hJ3)
    clear hR hy c2 HD hJ3 hk3
    gi_wp2
    go_ret
    exact .inl ⟨rfl, vs, HQ.out.1, HQ.out.2⟩
  · clear hR hy c2 HD
    gi_wp2
    go_ret
    exact .inr ⟨rfl, [ls], _, List.prefix_rfl, hJx3⟩

theorem set_back {st : List Bool} {i : Nat} (h : st[i]? = some false) : (st.set i true).set i false = st := by
  rw [List.set_set]
  obtain ⟨hi, e⟩ := List.getElem?_eq_some_iff.1 h
  rw [← e, List.set_getElem_self]
theorem add_back {ls : List (List Int)} {c : Nat} {l : List Int} {x : Int} (h : ls[c]? = some l) : (PM.add ls c x).set c l = ls := by
  unfold PM.add
  rw [List.set_set]
  obtain ⟨hi, e⟩ := List.getElem?_eq_some_iff.1 h
  rw [← e, List.set_getElem_self]
theorem add_get {ls : List (List Int)} {c : Nat} {l : List Int} {x : Int} (h : ls[c]? = some l) : (PM.add ls c x)[c]? = some (l ++ [x]) := by
  unfold PM.add
  rw [List.getElem?_set_self (List.getElem?_eq_some_iff.1 h).1, h]; rfl
theorem add_eq {ls : List (List Int)} {c : Nat} {l : List Int} {x : Int} (h : ls[c]? = some l) : ls.set c (l ++ [x]) = PM.add ls c x := by
  unfold PM.add; rw [h]; rfl

/-- lists aren't too long -/
def Ln (st : List Bool) (ls : List (List Int)) : Prop := ∀ (d : Nat) l, ls[d]? = some l → l.length + PM.lf st ≤ 128
theorem ln_sm {st : List Bool} {ls : List (List Int)} (h : Ln st ls) (h8 : ls.length ≤ 8) : Sm ls := ⟨by omega, fun l hl => by
  obtain ⟨i, hi⟩ := List.getElem?_of_mem hl
  have := h i l hi
  omega⟩
theorem Ln.add {st : List Bool} {ls : List (List Int)} (h : Ln st ls) {i c : Nat} {l : List Int} (hs : st[i]? = some false) (hl : ls[c]? = some l) (x : Int) : Ln (st.set i true) (PM.add ls c x) := fun d l' hd => by
  have h1 := PM.lf_set hs
  by_cases e : c = d
  · subst e
    rw [add_get hl] at hd
    cases hd
    have := h c l hl
    simp
    omega
  · unfold PM.add at hd
    rw [List.getElem?_set_ne e] at hd
    have := h d l' hd
    omega

set_option maxRecDepth 100000 in
set_option maxHeartbeats 8000000 in
theorem goOn_in (l n : Nat) (ms : List Nat) (ws : List (Int × Int)) (hz : Gz n ms ws) (B b sb lb : Nat) (vw : Value) (G : Nat → Prop) (J Jx : List (List (List Int)) → (Nat → Prop) → World → Prop)
    (hJ : Stb J) (hY : Yd l G J Jx) (k : Nat) : ∀ (nn c : Nat) (st : List Bool) (ls : List (List Int)) (pre : List (List (List Int))) (vs : List Value) (W : World), n - c + PM.lf st ≤ k → PM.Iv n ms c st ls → Ln st ls →
    Dq W B b sb lb vw vs G ws st ls → B ≤ W.heap.size → J pre (fp b sb lb vs) W →
    CallsIn Fence.wide nn Try.prog 35 #[.pointer (some ⟨b, 0, none⟩), .int .i64 (c : Int), .func (.yield l) #[] #[]] W (Wd ws B b sb lb vw G J Jx (PM.gen n ms k c st ls) st ls pre) := by
  induction k with
  | zero =>
    intro nn c st ls pre vs W hk hi hn hd _ hj
    have hc : c = n := by have := hi.cl; omega
    rw [PM.gen_end hc]
    subst hc
    exact goOn_end l _ ws B b sb lb vw G J Jx hY nn st ls pre vs W hd hi.ll (ln_sm hn (by rw [hi.ll]; exact hz.n8)) hj
  | succ k ih =>
    intro nn c st ls pre vs W hk hi hn hd hBW hj
    by_cases hc : c = n
    · rw [PM.gen_end hc]
      subst hc
      exact goOn_end l _ ws B b sb lb vw G J Jx hY nn st ls pre vs W hd hi.ll (ln_sm hn (by rw [hi.ll]; exact hz.n8)) hj
    · rw [gen_fl hc]
      have hcn : c < n := by have := hi.cl; omega
      have hc8 : (c : Int) ≤ 8 := by have := hz.n8; omega
      have hcq : ((c : Int) == (n : Int)) = false := beq_eq_false_iff_ne.2 (by omega)
      have hcq2 : (c == n) = false := beq_eq_false_iff_ne.2 (by omega)
      have hcq3 : ¬ c = n := by omega
      obtain ⟨aw, kw, rfl, _, _⟩ := hd.rw.form
      have c0 := hd.c0
      have c2 := hd.c2
      rw [hi.ll] at c2
      have HI := Hid.intro' hi
      have HZ := Hid.intro' hz
      have HJ := Hid.intro' hJ
      have HIH := Hid.intro' ih
      have HK := Hid.intro' hk
      have HLN := Hid.intro' hn
      have HCN := Hid.intro' hc
      have HQ0 : Hid (Dq W B b sb lb (.slice aw ws.length kw) vs G ws st ls ∧ B ≤ W.heap.size ∧ J pre (fp b sb lb vs) W) := ⟨hd, hBW, hj⟩
      have hwz : (ws.length : Int) ≤ 128 := by have := hz.wl; omega
      generalize hg : (fl n ms k c st ls ms.length ++ (if PM.meTo ms st c ms.length = true then PM.gen n ms k (c + 1) st ls else [])) = PG
      have HPG := Hid.intro' hg
      clear hd hi hz hJ ih hk hj hBW hY hc hn hg
      refine callsIn_of_wp Try.func35 rfl trivial ?_ rfl
      simp only [Try.ntmps35, List.size_toArray, List.length_cons, List.length_nil, Nat.reduceAdd, Nat.reduceSub, Array.replicate_succ, Array.replicate_zero, List.push_toArray, List.append_toArray, List.nil_append, List.cons_append]
      have hwf : ∀ k, Fence.wide.fn k := fun _ => trivial
      have hdd : ∀ k : Nat, (Fence.wide.depth.isSome = true → 1 ≤ k) := fun k h => by cases h
      gi_wp2
      clear c0 c2
      gi_loopw [26] (fun i wr => ∃ (j : Nat) (vs : List Value), j ≤ ws.length ∧ i = .int .i64 (j : Int) ∧ Hid (Dq wr B b sb lb (.slice aw ws.length kw) vs G ws st ls ∧ B ≤ wr.heap.size ∧ J (pre ++ fl n ms k c st ls j) (fp b sb lb vs) wr)) (fun i _ => ws.length - (intOf i).toNat)
      case atStart =>
        refine ⟨0, vs, Nat.zero_le _, rfl, HQ0.out.1, HQ0.out.2.1, ?_⟩
        have : fl n ms k c st ls 0 = [] := rfl
        rw [this, List.append_nil]; exact HQ0.out.2.2
      case round =>
        clear HQ0
        obtain ⟨j, vs, hj, rfl, HQ⟩ := hrel
        by_cases hlt : j < ws.length
        · have hjz : (j : Int) < (ws.length : Int) := by omega
          obtain ⟨y, hy⟩ : ∃ y, ws[j]? = some y := ⟨_, List.getElem?_eq_getElem hlt⟩
          obtain ⟨z, hz⟩ : ∃ z, st[j]? = some z := ⟨_, List.getElem?_eq_getElem (by rw [HI.out.sl, HZ.out.mm.len]; exact hlt)⟩
          obtain ⟨m, hm, hym⟩ := HZ.out.mm.eq j y hy
          have hmt := callsIn_wide (n := nn - 1) |>.2 (mayTake_any HQ.out.1 c j m z y (by omega) hz hy hym)
          have HFL := Hid.intro' (fl_succ n ms k c st ls j)
          rw [hz, hm, Option.getD_some] at HFL
          have HZJ := Hid.intro' hz
          have HMJ := Hid.intro' hm
          clear hy hz hm hym
          cases hq : (!z && PM.bt m c) with
          | false =>
            rw [hq] at hmt
            have HFE : Hid (fl n ms k c st ls (j + 1) = fl n ms k c st ls j) := by
              show _ = _
              rw [HFL.out, if_neg, List.append_nil]
              rintro ⟨h1, h2⟩
              cases h1
              rw [h2] at hq
              cases hq
            gi_wp2_with ((try refine ⟨hdd _, ?_⟩); gi_at_call 25; refine hmt.mono ?_; rintro e w' ⟨rfl, rfl⟩)
            go_roundw
            case rel => exact ⟨j + 1, vs, by omega, by go_num, HQ.out.1, HQ.out.2.1, by rw [HFE.out]; exact HQ.out.2.2⟩
            case measure => simp [intOf]; omega
          | true =>
            rw [hq] at hmt
            rw [Bool.and_eq_true] at hq
            obtain rfl : z = false := by
              cases z
              · rfl
              · cases hq.1
            have hbt : PM.bt m c = true := hq.2
            have HFE : Hid (fl n ms k c st ls (j + 1) = fl n ms k c st ls j ++ PM.gen n ms k c (st.set j true) (PM.add ls c j)) := by
              show _ = _
              rw [HFL.out, if_pos ⟨rfl, hbt⟩]
            obtain ⟨lc, hlc⟩ : ∃ lc, ls[c]? = some lc := ⟨_, List.getElem?_eq_getElem (by rw [HI.out.ll]; exact hcn)⟩
            have HLC := Hid.intro' hlc
            have hll : lc.length ≤ 128 := by have := HLN.out c lc hlc; omega
            have htk := callsIn_wide (n := nn - 1) |>.2 (take_any HQ.out.1 c j false lc HZJ.out hlc (by omega) HQ.out.2.1)
            rw [add_eq hlc] at htk
            have HI2 := Hid.intro' (HI.out.take HCN.out HZJ.out (by rw [HMJ.out, Option.getD_some]; exact hbt))
            have HL2 := Hid.intro' (HLN.out.add HZJ.out hlc (j : Int))
            have HK2 := Hid.intro' (PM.fuel_take HK.out HZJ.out)
            clear hlc hq hbt HFL
            gi_wp2_with ((try refine ⟨hdd _, ?_⟩); gi_at_call 25; refine hmt.mono ?_; rintro e w' ⟨rfl, rfl⟩)
            refine ⟨hdd _, htk.mono ?_⟩
            rintro e W2 ⟨⟨v, rfl⟩, vs2, hd2, hk2, hf2⟩
            have HQ2 : Hid (Dq W2 B b sb lb (.slice aw ws.length kw) vs2 G ws (st.set j true) (PM.add ls c j) ∧ B ≤ W2.heap.size ∧ J (pre ++ fl n ms k c st ls j) (fp b sb lb vs2) W2) :=
              ⟨hd2, Nat.le_trans HQ.out.2.1 hk2.size, HJ.out _ _ _ _ _ HQ.out.2.2 hk2 (fun k h => (hf2 k h).elim .inl fun h2 => .inr ⟨h2, (hd2.fp_lo h).2⟩)⟩
            clear hd2 hk2 hf2 HQ hmt htk
            gi_wp2_with fail
            refine ⟨hdd _, (HIH.out (nn - 1) c _ _ _ vs2 W2 HK2.out HI2.out HL2.out HQ2.out.1 HQ2.out.2.1 HQ2.out.2.2).mono ?_⟩
            have HBW2 := Hid.intro' HQ2.out.2.1
            rintro e W3 (⟨rfl, vs3, hd3, hJ3⟩ | ⟨rfl, q, F, hq, hx⟩)
            · have hgb := callsIn_wide (n := nn - 1) |>.2 (giveBack_any hd3 c j true lc (by rw [List.getElem?_set_self (List.getElem?_eq_some_iff.1 HZJ.out).1]) (add_get HLC.out) (by omega))
              rw [set_back HZJ.out, add_back HLC.out] at hgb
              have HJ3 := Hid.intro' hJ3
              have HB3 : Hid (B ≤ W3.heap.size) := by
                show B ≤ _
                have h1 := (hd3.fp_lo (k := b) (.inl rfl))
                omega
              clear hd3 hJ3
              gi_wp2_with fail
              refine ⟨hdd _, hgb.mono ?_⟩
              rintro e W4 ⟨⟨v, rfl⟩, vs4, hd4, hk4, hf4⟩
              have HQ4 : Hid (Dq W4 B b sb lb (.slice aw ws.length kw) vs4 G ws st ls ∧ B ≤ W4.heap.size ∧ J (pre ++ fl n ms k c st ls (j + 1)) (fp b sb lb vs4) W4) := by
                refine ⟨hd4, Nat.le_trans HB3.out hk4.size, ?_⟩
                have h := HJ.out _ _ _ _ _ HJ3.out hk4 (fun k h => .inl (hf4 k h))
                rwa [List.append_assoc, ← HFE.out] at h
              clear hd4 hk4 hf4 hgb HJ3
              gi_wp2
              go_roundw
              case rel => exact ⟨j + 1, vs4, by omega, by go_num, HQ4⟩
              case measure => simp [intOf]; omega
            · have HX : Hid (∃ q F, q <+: PG ∧ Jx (pre ++ q) F W3) := by
                refine ⟨fl n ms k c st ls j ++ q, F, ?_, by rw [← List.append_assoc]; exact hx⟩
                rw [← HPG.out]
                have h1 : fl n ms k c st ls j ++ q <+: fl n ms k c st ls (j + 1) := by
                  rw [HFE.out]; exact (List.prefix_append_right_inj _).2 hq
                exact (h1.trans (fl_pre (by rw [HZ.out.mm.len]; omega))).trans (List.prefix_append _ _)
              clear hq hx
              gi_wp2
              go_ret
              exact .inr ⟨rfl, HX.out⟩
        · have hjz : ¬ (j : Int) < (ws.length : Int) := by omega
          have hmd := callsIn_wide (n := nn - 1) |>.2 (mayEnd_any HQ.out.1 ms HZ.out.mm (by rw [HI.out.sl, HZ.out.mm.len]) (by have := HZ.out.wl; omega) c (by omega))
          have HJL : Hid (j = ms.length) := by
            show j = _
            have := HZ.out.mm.len
            omega
          gi_wp2_with fail
          refine ⟨hdd _, hmd.mono ?_⟩
          rintro e W2 ⟨rfl, hb2⟩
          have HQ2 : Hid (Dq W2 B b sb lb (.slice aw ws.length kw) vs G ws st ls ∧ B ≤ W2.heap.size ∧ J (pre ++ fl n ms k c st ls ms.length) (fp b sb lb vs) W2) := by
            refine ⟨HQ.out.1.below' hb2, Nat.le_trans HQ.out.2.1 hb2.size, ?_⟩
            have h := HJ.out _ _ (fp b sb lb vs) _ _ HQ.out.2.2 (Kp.ofBelow _ hb2) (fun k h => .inl h)
            rwa [HJL.out] at h
          clear hb2 hmd HQ
          cases hq : PM.meTo ms st c ms.length with
          | false =>
            have HE : Hid (fl n ms k c st ls ms.length = PG) := by
              show _ = _
              rw [← HPG.out, if_neg (by rw [hq]; simp), List.append_nil]
            gi_wp2
            go_ret
            exact .inl ⟨rfl, vs, HQ2.out.1, by rw [← HE.out]; exact HQ2.out.2.2⟩
          | true =>
            have HE : Hid (fl n ms k c st ls ms.length ++ PM.gen n ms k (c + 1) st ls = PG) := by
              show _ = _
              rw [← HPG.out, if_pos hq]
            have hih := HIH.out (nn - 1) (c + 1) st ls _ vs W2 (PM.fuel_done HK.out HI.out HCN.out) (HI.out.done HCN.out HZ.out.lt hq) HLN.out HQ2.out.1 HQ2.out.2.1 HQ2.out.2.2
            have e1 : ((c + 1 : Nat) : Int) = (c : Int) + 1 := by omega
            rw [e1] at hih
            clear e1
            gi_wp2_with fail
            refine ⟨hdd _, hih.mono ?_⟩
            rintro e W3 (⟨rfl, vs3, hd3, hJ3⟩ | ⟨rfl, q, F, hq, hx⟩)
            · have HX : Hid (∃ vs', Dq W3 B b sb lb (.slice aw ws.length kw) vs' G ws st ls ∧ J (pre ++ PG) (fp b sb lb vs') W3) := ⟨vs3, hd3, by rw [← HE.out, ← List.append_assoc]; exact hJ3⟩
              clear hd3 hJ3 hih
              gi_wp2
              go_ret
              exact .inl ⟨rfl, HX.out⟩
            · have HX : Hid (∃ q F, q <+: PG ∧ Jx (pre ++ q) F W3) := by
                refine ⟨fl n ms k c st ls ms.length ++ q, F, ?_, by rw [← List.append_assoc]; exact hx⟩
                rw [← HE.out]
                exact (List.prefix_append_right_inj _).2 hq
              clear hq hx hih
              gi_wp2
              go_ret
              exact .inr ⟨rfl, HX.out⟩

end Go.Proofs.Ytdpfgjipjjkcgaf
