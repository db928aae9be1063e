/- What a plan on its way is asked, and what is done to it. -/
import Derived.Test.YtdfdkddjkhcgdahPlD
import Derived.Deep.RegionLaw
namespace Go.Proofs.Ytdfdkddjkhcgdah
open Go.RowKit

theorem bt_bits (m c : Nat) : (bits .and .i64 ((m : Int) / 2 ^ c) 1 == 1) = PM.bt m c := by
  have h : (m : Int) / 2 ^ c = ((m / 2 ^ c : Nat) : Int) := by rw [Int.natCast_ediv, Int.natCast_pow]; rfl
  rw [h, i64_and1]
  unfold PM.bt
  rw [Bool.eq_iff_iff]
  simp only [beq_iff_eq]
  omega
/-- append of one number, at a step of a region that draws -/
theorem step_appendI {ops : Array Oper} {o : Oper} {a : Act} {W : World} {K : Act → World → Prop} {Q : Exit → Act → World → Prop} {E : Prop} (hgd : o.guard = none) (s x : Operand)
    (ho : o.op = .call { callee := .builtin .append, args := #[s, x], argTypes := #[58, 58] }) (B : Nat) {v : Value} {M : List Int} {y : Int} {b c : Nat} (hs : a.eval s = v) (hR : OI W B v M) (hM : M.length ≤ 1000000)
    (hx : a.eval x = .slice (some ⟨b, 0, none⟩) 1 c) (hy : W.cell? ⟨b, 0, none⟩ = some (.int .i64 y)) (hB : B ≤ W.heap.size)
    (h : ∀ g cap W', OI W' B (.slice (some ⟨g, 0, none⟩) (M.length + 1) cap) (M ++ [y]) → W.grownBy W' v.ownBlock → (v.ownBlock = some g ∨ g = W.heap.size) → K (a.put o.dst (.slice (some ⟨g, 0, none⟩) (M.length + 1) cap)) W') :
    if Region.wanted o (yielded ops a.tmps) = true then Oper.wp Try.prog o a W K Q else E := by
  obtain ⟨i0, hi, hz0, hz1, hz2⟩ := info_parts infoI
  refine step_append_lies W hgd s x 58 ho B 3 i0 _ 1 8 Try.underlying58 hi hz0 hz1 hz2 rfl (by decide) v M.length (ic M) hs hR ⟨b, 0, none⟩ 1 c (ic [y]) hx rfl ?_ (ic_one [y]) (by omega) (by unfold maxLen; omega) (by omega) hB W.heap.size rfl ?_
  · intro j u hj
    cases j with
    | zero =>
      simp [ic] at hj
      subst hj
      rw [Addr.add_mid]; exact hy
    | succ j => simp [ic] at hj
  · intro g cap W' hown hg hat _
    refine h g cap W' ?_ hg hat
    unfold OI
    rw [List.length_append, ic_append]
    exact hown

section
variable {W : World} {B b sb lb : Nat} {vw : Value} {vs : List Value} {G : Nat → Prop} {ws : List (Int × Int)} {st : List Bool} {ls : List (List Int)}
set_option maxHeartbeats 1000000 in
theorem mayTake_any (h : Dq W B b sb lb vw vs G ws st ls) (c i m : Nat) (x : Bool) (y : Int × Int) (hc : c ≤ 8) (hx : st[i]? = some x) (hy : ws[i]? = some y) (hm : y.2 = (m : Int)) :
    Calls Try.prog 66 #[.pointer (some ⟨b, 0, none⟩), .int .i64 (c : Int), .int .i64 (i : Int)] W fun e w' => e = .returned (.bool (!x && PM.bt m c)) ∧ w' = W := by
  obtain ⟨aw, kw, rfl, _, _⟩ := h.rw.form
  obtain ⟨gw, ow, rfl, _, e1⟩ := h.rw.at hy
  rw [hm] at e1
  have c0 := h.c0
  have c1 := h.c1
  have d1 := h.cs hx
  have hi : (i : Int) < (st.length : Int) := by have := (List.getElem?_eq_some_iff.1 hx).1; omega
  have hj : (i : Int) < (ws.length : Int) := by have := (List.getElem?_eq_some_iff.1 hy).1; omega
  have hsh := shr_any m c (by omega)
  clear h hx hy hm
  cases x
  · go_enter Try.func66, Try.ntmps66
    go_wp2
    go_ret
    exact ⟨ret_bool (bt_bits m c), rfl⟩
  · go_enter Try.func66, Try.ntmps66
    go_wp2
    go_ret
    exact ⟨rfl, rfl⟩

set_option maxHeartbeats 4000000 in
theorem take_any (h : Dq W B b sb lb vw vs G ws st ls) (c i : Nat) (x : Bool) (l : List Int) (hx : st[i]? = some x) (hl : ls[c]? = some l) (hll : l.length ≤ 100000) (hBW : B ≤ W.heap.size) :
    Calls Try.prog 67 #[.pointer (some ⟨b, 0, none⟩), .int .i64 (c : Int), .int .i64 (i : Int)] W fun e w' => (∃ v, e = .returned v) ∧ ∃ vs', Dq w' B b sb lb vw vs' G ws (st.set i true) (ls.set c (l ++ [(i : Int)])) ∧
      Kp (fp b sb lb vs) W w' ∧ ∀ k, fp b sb lb vs' k → fp b sb lb vs k ∨ W.heap.size ≤ k := by
  obtain ⟨v, hv, hov⟩ := h.val hl
  have c1 := h.c1
  have d1 := h.cs hx
  have d2 := h.fs i
  have hi : (i : Int) < (st.length : Int) := by have := (List.getElem?_eq_some_iff.1 hx).1; omega
  have hj : (c : Int) < (ls.length : Int) := by have := (List.getElem?_eq_some_iff.1 hl).1; omega
  have HM := Hid.intro' (h.mark i true)
  have HK := Hid.intro' ((Kp.refl (fp b sb lb vs) W).set sb i (.bool true) (fun _ => .inr (.inl rfl)))
  have c2 := HM.out.c2
  have e2 := HM.out.cl hv
  have HV := Hid.intro' hv
  have HL := Hid.intro' hl
  clear h hx hl hv
  go_enter Try.func67, Try.ntmps67
  go_wp2_with fail
  clear c1 d1 d2 hov
  have HBZ := Hid.intro' (show B ≤ (W.setCell ⟨sb, i, none⟩ (.bool true)).heap.size by simpa [World.setCell] using hBW)
  have HSZ := Hid.intro' (show (W.setCell ⟨sb, i, none⟩ (.bool true)).heap.size = W.heap.size by simp [World.setCell])
  generalize W.setCell ⟨sb, i, none⟩ (.bool true) = W7 at HM HK c2 e2 HBZ HSZ ⊢
  have HMA := Hid.intro' (HM.out.drew.alloc (.cells #[.int .i64 (i : Int)] 3))
  have HZ := Hid.intro' (HMA.out.own c v l HV.out HL.out)
  have HZC : Hid ((W7.drew.alloc (.cells #[.int .i64 (i : Int)] 3)).cell? ⟨W7.heap.size, 0, none⟩ = some (.int .i64 (i : Int))) := by
    show (W7.drew.alloc _).cell? ⟨W7.drew.heap.size, 0, none⟩ = _
    rw [cell_of_row _ _ 0 _ _ _ (heap_alloc_new W7.drew _)]; rfl
  have c2a : (W7.alloc (.cells #[.int .i64 (i : Int)] 3)).cell? ⟨b, 2, none⟩ = some (.slice (some ⟨lb, 0, none⟩) ls.length ls.length) := HMA.out.c2
  have e2a : (W7.alloc (.cells #[.int .i64 (i : Int)] 3)).cell? ⟨lb, c, none⟩ = some v := HMA.out.cl HV.out
  have hne : some b ≠ v.ownBlock := fun e => (HM.out.far c v b HV.out e.symm).1 rfl
  have hnl : some lb ≠ v.ownBlock := fun e => (HM.out.far c v lb HV.out e.symm).2.2 rfl
  go_region_law ((refine step_appendI (by rfl) (.tmp 23) (.tmp 25) (by rfl) B (y := (i : Int)) (by rfl) HZ.out (by omega) (by rfl) HZC.out (by simp; exact Nat.le_succ_of_le HBZ.out) ?_; intro g' cap' W8 hr8 hg8 hat8; have r2 := hg8.cell c2a hne; have s2 := hg8.cell e2a hnl; have t2 := (hg8.frozen_far ⟨lb, c, none⟩ HMA.out.fp_l hnl).trans (HMA.out.fl c)))
  all_goals
    have hW8 : Hid (∃ vs', Dq (W8.setCell ⟨lb, c, none⟩ (.slice (some ⟨g', 0, none⟩) (l.length + 1) cap')) B b sb lb vw vs' G ws (st.set i true) (ls.set c (l ++ [(i : Int)])) ∧
        Kp (fp b sb lb vs) W (W8.setCell ⟨lb, c, none⟩ (.slice (some ⟨g', 0, none⟩) (l.length + 1) cap')) ∧ ∀ k, fp b sb lb vs' k → fp b sb lb vs k ∨ W.heap.size ≤ k) := by
      have hs7 : W7.heap.size = W.heap.size := HSZ.out
      have hat : v.ownBlock = some g' ∨ W.heap.size ≤ g' := by
        rcases hat8 with h | h
        · exact .inl h
        · right
          rw [h]
          show W.heap.size ≤ (W7.drew.alloc _).heap.size
          simp
          show W.heap.size ≤ W7.heap.size + 1
          omega
      refine ⟨_, HMA.out.store HV.out hg8.size (fun k hk hne => hg8.block k hk (fun e => hne e.symm)) hr8 (fun g hg => ?_), ?_, fun k hk => ?_⟩
      · obtain rfl : g' = g := by simpa [Value.ownBlock] using hg
        rcases hat8 with h | h
        · exact .inl h
        · right; rw [h]; exact Nat.le_refl _
      · exact (((HK.out.thenBelow ((Below.refl W7.heap.size W7).alloc (Nat.le_refl _) (.cells #[.int .i64 (i : Int)] 3))).drew).grown hg8 (fun k _ hk => .inr (.inr (.inr ⟨c, v, HV.out, hk⟩)))).set lb c _ (fun _ => .inr (.inr (.inl rfl)))
      · rcases fp_set hk with h | h
        · exact .inl h
        · obtain rfl : g' = k := by simpa [Value.ownBlock] using h
          rcases hat with h | h
          · exact .inl (.inr (.inr (.inr ⟨c, v, HV.out, h⟩)))
          · exact .inr h
    clear hat8 hr8 hg8 r2 s2 t2 HMA HZ HZC c2a e2a c2 e2 HM HK HBZ HSZ
    go_wp2
    go_end0
    exact ⟨⟨_, rfl⟩, hW8.out⟩
end
end Go.Proofs.Ytdfdkddjkhcgdah
