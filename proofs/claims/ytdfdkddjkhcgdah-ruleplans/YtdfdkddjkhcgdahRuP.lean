/- The rule's plan, as the document makes it. -/
import Derived.Test.YtdfdkddjkhcgdahRuF
import Derived.Test.YtdfdkddjkhcgdahPk6
namespace Go.Proofs.Ytdfdkddjkhcgdah
open Go.RowKit Go.Shelf

/-- the rule's plan on its way: the first cars' lists, this car's so far, none behind -/
def rpw (s : Sn) (c : Nat) (l : List Int) : List (List Int) := rpl s c ++ (l :: List.replicate (s.cs.length - (c + 1)) [])
section
variable {s : Sn} {c : Nat} {l : List Int}
theorem rpw_length (h : c < s.cs.length) : (rpw s c l).length = s.cs.length := by
  unfold rpw
  rw [List.length_append, List.length_cons, List.length_replicate, rpl_length]
  omega
theorem rpw_get : (rpw s c l)[c]? = some l := by
  unfold rpw
  rw [List.getElem?_append_right (by rw [rpl_length]; exact Nat.le_refl _), rpl_length, Nat.sub_self]
  rfl
theorem rpw_add (x : Int) : PM.add (rpw s c l) c x = rpw s c (l ++ [x]) := by
  unfold PM.add
  rw [rpw_get, Option.getD_some]
  unfold rpw
  rw [List.set_append_right _ _ (by rw [rpl_length]; exact Nat.le_refl _), rpl_length, Nat.sub_self]
  rfl
/-- as far as the first c cars -/
def rpx (s : Sn) (c : Nat) : List (List Int) := rpl s c ++ List.replicate (s.cs.length - c) []
theorem rpx_zero : rpx s 0 = List.replicate s.cs.length [] := by unfold rpx rpl; simp
theorem rpx_end : rpx s s.cs.length = rpl s s.cs.length := by unfold rpx; simp
theorem rpx_in (h : c < s.cs.length) : rpx s c = rpw s c [] := by
  unfold rpx rpw
  rw [show s.cs.length - c = (s.cs.length - (c + 1)) + 1 by omega, List.replicate_succ]
theorem rpx_next : rpw s c (rls s c s.st.fl.toNat) = rpx s (c + 1) := by
  unfold rpx rpw
  have : rpl s (c + 1) = rpl s c ++ [rls s c s.st.fl.toNat] := by unfold rpl; rw [List.range_succ, List.map_append]; rfl
  rw [this, List.append_assoc]
  rfl
theorem rlk_len (c d k : Nat) : (rlk s c d k).length ≤ k := by
  unfold rlk
  rw [List.length_map]
  exact Nat.le_trans (List.length_filter_le _ _) (by simp)
end
theorem rls_len {s : Sn} (c : Nat) : ∀ d, (rls s c d).length ≤ d * s.ws.length
  | 0 => by rw [rls_zero]; simp
  | d + 1 => by
    rw [rls_succ, List.length_append, Nat.add_mul, Nat.one_mul]
    have h1 := rls_len (s := s) c d
    have h2 := rlk_len (s := s) c d s.ws.length
    omega
/-- while it is made -/
structure Rpq (w W : World) (s : Sn) (vc vw : Value) (g : Nat) (us : List Value) (p : List (List Int)) : Prop where
  nb : NB W w.heap.size s.st vc vw
  ow : OW W (w.heap.size + 1) g us p
  bel : Below w.heap.size w W
section
variable {w W W' : World} {s : Sn} {vc vw : Value} {g : Nat} {us : List Value} {p : List (List Int)}
theorem Rpq.next (h : Rpq w W s vc vw g us p) (hb : Below W.heap.size W W') : Rpq w W' s vc vw g us p := ⟨h.nb.below' hb, h.ow.next hb, below_class h.bel hb⟩
theorem Rpq.add (h : Rpq w W s vc vw g us p) {c : Nat} {u u' : Value} {l : List Int} {x : Int} (hu : us[c]? = some u) (hl : p[c]? = some l) (hg : W.grownBy W' u.ownBlock) {q : Nat} (hq : u'.ownBlock = some q) (hor : u.ownBlock = some q ∨ q = W.heap.size) (ho : OI W' (w.heap.size + 1) u' (l ++ [x])) : Rpq w (W'.setCell ⟨g, c, none⟩ u') s vc vw g (us.set c u') (PM.add p c x) := by
  have ou := h.ow.li c u l hu hl
  have hs := h.bel.size
  have h1 := h.nb.lt
  have h2 := h.ow.bg
  refine ⟨?_, h.ow.add hu hl hg hq hor ho, ?_⟩
  · unfold NB
    rw [Below.heap_setCell W' ⟨g, c, none⟩ _ _ (by show w.heap.size ≠ g; omega), hg.block _ h1 (fun e => by have := (ou.lt _ e.symm).1; omega)]
    exact h.nb
  · exact (h.bel.grown hg hs (fun j hj => by have := (ou.lt j hj).1; omega)).setCell (p := ⟨g, c, none⟩) (by show w.heap.size ≤ g; omega) _
end

set_option maxRecDepth 100000 in
set_option maxHeartbeats 8000000 in
theorem rplan14_any (s : Sn) (D : Nat → Prop) (vc vw : Value) (w : World) (hc : R2 D w vc s.cs) (hw : R2 D w vw s.ws) (hr : rgt s = true) :
    Calls Try.prog 22 #[.agg (nv s.st vc vw).toArray] w fun e w' => Below w.heap.size w w' ∧ ∃ v, e = .returned v ∧ RL (fun g => w.heap.size ≤ g) w' v (rpl s s.cs.length) := by
  have hbx := (Below.refl w.heap.size w).alloc (Nat.le_refl _) (.cells (nv s.st vc vw).toArray 27)
  have HN := Hid.intro' (NB.new w s.st vc vw)
  have HB := Hid.intro' hbx
  have HC : Hid (R2 (fun g => g < w.heap.size) w vc s.cs) := hc.mono fun g _ h _ => h
  have HW : Hid (R2 (fun g => g < w.heap.size) w vw s.ws) := hw.mono fun g _ h _ => h
  obtain ⟨ac, kc, rfl, _, _⟩ := hc.form
  obtain ⟨aw, kw, rfl, _, _⟩ := hw.form
  have HR := Hid.intro' hr
  have HZ := Hid.intro' (rgt_rz hr)
  obtain ⟨n8, hrs⟩ := rgt_rs hr
  have hwl : s.ws.length ≤ 128 := hrs.wl
  have hcl : s.cs.length ≤ 8 := by have := hrs.cl; have := hrs.n8; omega
  have hfl : 0 ≤ s.st.fl ∧ s.st.fl ≤ 64 := ⟨by have := HZ.out.rt.fl1; omega, HZ.out.rt.fl2⟩
  have hmk := mkL s.cs.length (by omega)
  have c13 : (w.alloc (.cells (nv s.st (.slice ac s.cs.length kc) (.slice aw s.ws.length kw)).toArray 27)).cell? ⟨w.heap.size, 13, none⟩ = some (.slice ac s.cs.length kc) := HN.out.cell 13
  clear hc hw hbx hr hrs
  go_enter Try.func22, Try.ntmps22
  go_wp2_with fail
  have HS1 : Hid ((w.alloc (.cells (nv s.st (.slice ac s.cs.length kc) (.slice aw s.ws.length kw)).toArray 27)).heap.size = w.heap.size + 1) := by show _ = _; simp
  clear c13 hmk
  generalize w.alloc (.cells (nv s.st (.slice ac s.cs.length kc) (.slice aw s.ws.length kw)).toArray 27) = X at HN HB HS1 ⊢
  have HQ0 : Hid (Rpq w (X.alloc (.cells (Array.replicate s.cs.length (Value.slice none 0 0)) 58)) s (.slice ac s.cs.length kc) (.slice aw s.ws.length kw) (w.heap.size + 1) (List.replicate s.cs.length (Value.slice none 0 0)) (rpx s 0)) := by
    have hbY := (Below.refl X.heap.size X).alloc (Nat.le_refl _) (.cells (Array.replicate s.cs.length (Value.slice none 0 0)) 58)
    have := OW.make (B := w.heap.size + 1) X s.cs.length (by rw [HS1.out]; exact Nat.le_refl _)
    rw [List.toArray_replicate, HS1.out] at this
    rw [rpx_zero]
    exact ⟨HN.out.below' hbY, this, below_class HB.out hbY⟩
  clear HN HB HS1
  obtain ⟨F, HF⟩ : ∃ F : Nat, Hid (s.st.fl.toNat = F) := ⟨_, Hid.intro' rfl⟩
  have hF : s.st.fl = (F : Int) := by have := HF.out; omega
  have hF64 : F ≤ 64 := by omega
  have HFZ := Hid.intro' hF
  clear hF hfl
  go_loopw [4] (fun cv wr => ∃ (c : Nat) (us : List Value), c ≤ s.cs.length ∧ cv = .int .i64 (c : Int) ∧ Hid (Rpq w wr s (.slice ac s.cs.length kc) (.slice aw s.ws.length kw) (w.heap.size + 1) us (rpx s c))) (fun cv _ => s.cs.length - (intOf cv).toNat)
  case atStart => exact ⟨0, _, Nat.zero_le _, rfl, HQ0⟩
  case round =>
    clear HQ0
    obtain ⟨c, us, hcn, rfl, HQ⟩ := hrel
    by_cases hc : c < s.cs.length
    · have hcz : (c : Int) < (s.cs.length : Int) := by omega
      rw [rpx_in hc] at HQ
      obtain ⟨r, hr⟩ : ∃ r, s.cs[c]? = some r := ⟨_, List.getElem?_eq_getElem hc⟩
      have HRC := Hid.intro' hr
      clear hr
      go_wp2_with fail
      go_loopw [5] (fun dv wr => ∃ (d : Nat) (us : List Value), d ≤ F ∧ dv = .int .i64 (d : Int) ∧ Hid (Rpq w wr s (.slice ac s.cs.length kc) (.slice aw s.ws.length kw) (w.heap.size + 1) us (rpw s c (rls s c d)))) (fun dv _ => F - (intOf dv).toNat)
      case atStart => exact ⟨0, us, Nat.zero_le _, rfl, HQ⟩
      case round =>
        clear HQ us
        obtain ⟨d, us, hdF, rfl, HQ⟩ := hrel
        have c0 : wr.cell? ⟨w.heap.size, 0, none⟩ = some (.int .i64 (F : Int)) := by
          have := HQ.out.nb.cell 0
          rw [← HFZ.out]
          exact this
        by_cases hd : d < F
        · have hdz : (d : Int) < (F : Int) := by omega
          have HQ2 : Hid (Rpq w wr s (.slice ac s.cs.length kc) (.slice aw s.ws.length kw) (w.heap.size + 1) us (rpw s c (rls s c d ++ rlk s c d 0))) := by
            rw [rlk_zero, List.append_nil]; exact HQ
          clear HQ
          go_wp2_with fail
          clear c0
          go_loopw [6] (fun kv wr => ∃ (k : Nat) (us : List Value), k ≤ s.ws.length ∧ kv = .int .i64 (k : Int) ∧ Hid (Rpq w wr s (.slice ac s.cs.length kc) (.slice aw s.ws.length kw) (w.heap.size + 1) us (rpw s c (rls s c d ++ rlk s c d k)))) (fun kv _ => s.ws.length - (intOf kv).toNat)
          case atStart => exact ⟨0, us, Nat.zero_le _, rfl, HQ2⟩
          case round =>
            clear HQ2 us
            obtain ⟨k, us, hkn, rfl, HQ⟩ := hrel
            have c14 : wr.cell? ⟨w.heap.size, 14, none⟩ = some (.slice aw s.ws.length kw) := HQ.out.nb.cell 14
            by_cases hk : k < s.ws.length
            · have hkz : (k : Int) < (s.ws.length : Int) := by omega
              obtain ⟨y, hy⟩ : ∃ y, s.ws[k]? = some y := ⟨_, List.getElem?_eq_getElem hk⟩
              have HNW := Hid.intro' HQ.out.nb
              obtain ⟨gc, oc, rfl, e0, _⟩ := (HC.out.below' HQ.out.bel).at HRC.out
              obtain ⟨gw, ow, rfl, f0, _⟩ := (HW.out.below' HQ.out.bel).at hy
              obtain ⟨r1, r2⟩ := r
              obtain ⟨y1, y2⟩ := y
              have HFA : Hid (rfa s c (k : Int) = SM.dist r1 y1) := by
                show _ = _
                unfold rfa
                rw [HRC.out, RM.wf_get hy, Option.getD_some]
              obtain ⟨A, HA⟩ : ∃ A, Hid (SM.dist r1 y1 = A) := ⟨_, Hid.intro' rfl⟩
              obtain ⟨b0, HB0⟩ : ∃ b0, Hid ((rfc s (k : Int) s.cs.length).1 = b0) := ⟨_, Hid.intro' rfl⟩
              have HSU := Hid.intro' (rlk_succ (s := s) c d k)
              have HHS : Hid (rhas s c d k = (decide (A = (d : Int)) && decide (b0 = (c : Int)))) := by
                show _ = _
                unfold rhas
                rw [HFA.out, HA.out, HB0.out]
              rw [HHS.out] at HSU
              have hr1 := (HZ.out.cr (r1, r2) (List.mem_of_getElem? HRC.out)).f0
              have hr2 := (HZ.out.cr (r1, r2) (List.mem_of_getElem? HRC.out)).f1
              have hy1 := HZ.out.wr (y1, y2) (List.mem_of_getElem? hy)
              have HBR : Hid ((0 ≤ r1 ∧ r1 ≤ 1000) ∧ 0 ≤ y1 ∧ y1 ≤ 1000) := by
                have h1 : 0 ≤ r1 := hr1
                have h2 : r1 < s.st.fl := hr2
                have h3 : 0 ≤ y1 ∧ y1 < s.st.fl := hy1
                have := HFZ.out
                exact ⟨⟨h1, by omega⟩, h3.1, by omega⟩
              have HNB : Hid (∀ w', Below wr.heap.size wr w' → NB w' w.heap.size s.st (.slice (some ⟨gc, oc, none⟩) s.cs.length kc) (.slice (some ⟨gw, ow, none⟩) s.ws.length kw)) := fun w' hw => HNW.out.below' hw
              have H13 : Hid (∀ w', Below wr.heap.size wr w' → w'.cell? ⟨w.heap.size, 13, none⟩ = some (.slice (some ⟨gc, oc, none⟩) s.cs.length kc)) := fun w' hw => (HNW.out.below' hw).cell 13
              have H14 : Hid (∀ w', Below wr.heap.size wr w' → w'.cell? ⟨w.heap.size, 14, none⟩ = some (.slice (some ⟨gw, ow, none⟩) s.ws.length kw)) := fun w' hw => (HNW.out.below' hw).cell 14
              have E0 : Hid (∀ w', Below wr.heap.size wr w' → w'.cell? ⟨gc, oc + c * 2, none⟩ = some (.int .i64 r1)) := fun w' hw => (hw.cell (p := ⟨gc, oc + c * 2, none⟩) (cell_lt e0)).trans e0
              have F0 : Hid (∀ w', Below wr.heap.size wr w' → w'.cell? ⟨gw, ow + k * 2, none⟩ = some (.int .i64 y1)) := fun w' hw => (hw.cell (p := ⟨gw, ow + k * 2, none⟩) (cell_lt f0)).trans f0
              have HFR : Hid (∀ w', Below wr.heap.size wr w' → Calls Try.prog 45 #[.int .i64 r1, .int .i64 y1] w' fun e w'' => e = .returned (.int .i64 A) ∧ Below w'.heap.size w' w'') := fun w' hw => by
                have h := far_any r1 y1 w' (by have := HBR.out; omega) (by have := HBR.out; omega)
                rw [HA.out] at h
                exact h
              have HFI : Hid (∀ w', Below wr.heap.size wr w' → Calls Try.prog 46 #[.agg (nv s.st (.slice (some ⟨gc, oc, none⟩) s.cs.length kc) (.slice (some ⟨gw, ow, none⟩) s.ws.length kw)).toArray, .int .i64 (k : Int)] w' fun e w'' => e = .returned (.int .i64 b0) ∧ Below w'.heap.size w' w'') := fun w' hw => by
                have h := rfirst14_any s (fun g => g < w.heap.size) _ _ w' (HC.out.below' (below_class HQ.out.bel hw)) (HW.out.below' (below_class HQ.out.bel hw)) HR.out k hk
                rw [HB0.out] at h
                exact h
              clear e0 f0 hr1 hr2 hy1 hy
              go_wp2_with fail
              clear c14
              refine wp_region_quiet (C := fun w' => Below wr.heap.size wr w') (by kernel_rfl) (by kernel_rfl) ((Below.refl _ _).drew) ?_
              simp only []
              by_cases hA : A = (d : Int)
              · subst hA
                unfold wpQuiet
                generalize hK : wpQuiet Try.prog _ _ _ _ = K
                go_simp
                refine ⟨_, fun _ _ => rfl, ?_⟩
                subst hK
                unfold wpQuiet
                generalize hK : wpQuiet Try.prog _ _ _ _ = K
                rw [if_pos (by go_simp)]
                refine quiet_lR _ _ _ rfl rfl H13.out ?_
                go_simp
                subst hK
                unfold wpQuiet
                generalize hK : wpQuiet Try.prog _ _ _ _ = K
                go_simp
                refine ⟨_, fun _ _ => rfl, ?_⟩
                subst hK
                unfold wpQuiet
                generalize hK : wpQuiet Try.prog _ _ _ _ = K
                rw [if_pos (by go_simp)]
                refine quiet_iR _ _ rfl rfl rfl hc ?_
                go_simp
                subst hK
                unfold wpQuiet
                generalize hK : wpQuiet Try.prog _ _ _ _ = K
                go_simp
                refine ⟨_, fun _ _ => rfl, ?_⟩
                subst hK
                unfold wpQuiet
                generalize hK : wpQuiet Try.prog _ _ _ _ = K
                rw [if_pos (by go_simp)]
                refine quiet_load3 _ _ _ rfl rfl E0.out ?_
                go_simp
                subst hK
                unfold wpQuiet
                generalize hK : wpQuiet Try.prog _ _ _ _ = K
                go_simp
                refine ⟨_, fun _ _ => rfl, ?_⟩
                subst hK
                unfold wpQuiet
                generalize hK : wpQuiet Try.prog _ _ _ _ = K
                rw [if_pos (by go_simp)]
                refine quiet_lW _ _ _ rfl rfl H14.out ?_
                go_simp
                subst hK
                unfold wpQuiet
                generalize hK : wpQuiet Try.prog _ _ _ _ = K
                go_simp
                refine ⟨_, fun _ _ => rfl, ?_⟩
                subst hK
                unfold wpQuiet
                generalize hK : wpQuiet Try.prog _ _ _ _ = K
                rw [if_pos (by go_simp)]
                refine quiet_iW _ _ rfl rfl rfl hk ?_
                go_simp
                subst hK
                unfold wpQuiet
                generalize hK : wpQuiet Try.prog _ _ _ _ = K
                go_simp
                refine ⟨_, fun _ _ => rfl, ?_⟩
                subst hK
                unfold wpQuiet
                generalize hK : wpQuiet Try.prog _ _ _ _ = K
                rw [if_pos (by go_simp)]
                refine quiet_load3 _ _ _ rfl rfl F0.out ?_
                go_simp
                subst hK
                unfold wpQuiet
                generalize hK : wpQuiet Try.prog _ _ _ _ = K
                go_simp
                refine ⟨_, fun w' hw => (HFR.out w' hw).mono fun e w'' hh => ⟨hh.1, below_class hw hh.2⟩, ?_⟩
                subst hK
                unfold wpQuiet
                generalize hK : wpQuiet Try.prog _ _ _ _ = K
                go_simp
                refine ⟨_, fun _ _ => rfl, ?_⟩
                subst hK
                unfold wpQuiet
                generalize hK : wpQuiet Try.prog _ _ _ _ = K
                go_simp
                refine ⟨_, fun _ _ => rfl, ?_⟩
                subst hK
                unfold wpQuiet
                generalize hK : wpQuiet Try.prog _ _ _ _ = K
                go_simp
                refine ⟨_, fun _ _ => rfl, ?_⟩
                subst hK
                unfold wpQuiet
                generalize hK : wpQuiet Try.prog _ _ _ _ = K
                rw [if_pos (by go_simp)]
                refine quiet_load27 _ w.heap.size s.st _ _ rfl rfl HNB.out ?_
                go_simp
                subst hK
                unfold wpQuiet
                generalize hK : wpQuiet Try.prog _ _ _ _ = K
                go_simp
                refine ⟨_, fun _ _ => rfl, ?_⟩
                subst hK
                unfold wpQuiet
                generalize hK : wpQuiet Try.prog _ _ _ _ = K
                go_simp
                refine ⟨_, fun w' hw => (HFI.out w' hw).mono fun e w'' hh => ⟨hh.1, below_class hw hh.2⟩, ?_⟩
                subst hK
                unfold wpQuiet
                generalize hK : wpQuiet Try.prog _ _ _ _ = K
                go_simp
                refine ⟨_, fun _ _ => rfl, ?_⟩
                subst hK
                unfold wpQuiet
                generalize hK : wpQuiet Try.prog _ _ _ _ = K
                go_simp
                refine ⟨_, fun _ _ => rfl, ?_⟩
                subst hK
                unfold wpQuiet
                generalize hK : wpQuiet Try.prog _ _ _ _ = K
                go_simp
                refine ⟨_, fun _ _ => rfl, ?_⟩
                subst hK
                refine wpQuiet_nil ?_
                intro W3 hb3
                have HQ3 := Hid.intro' (HQ.out.next hb3)
                clear hb3 HNB H13 H14 E0 F0 HFR HFI HNW HQ
                by_cases hb0 : b0 = (c : Int)
                · subst hb0
                  rw [decide_eq_true rfl, decide_eq_true rfl, Bool.true_and, if_pos rfl] at HSU
                  obtain ⟨l, HL⟩ : ∃ l, Hid (rls s c d ++ rlk s c d k = l) := ⟨_, Hid.intro' rfl⟩
                  have HLS : Hid (rls s c d ++ rlk s c d (k + 1) = l ++ [(k : Int)]) := by
                    show _ = _
                    rw [HSU.out, ← List.append_assoc, HL.out]
                  have HLL : Hid (l.length ≤ 1000000) := by
                    show _ ≤ _
                    have h1 := rls_len (s := s) c d
                    have h2 := rlk_len (s := s) c d k
                    have h3 : d * s.ws.length ≤ 64 * 128 := Nat.mul_le_mul (by omega) hwl
                    rw [← HL.out, List.length_append]
                    omega
                  rw [HL.out] at HQ3
                  have hpg : (rpw s c l)[c]? = some l := rpw_get
                  obtain ⟨u, hu⟩ : ∃ u, us[c]? = some u := ⟨_, List.getElem?_eq_getElem (by rw [HQ3.out.ow.len, rpw_length hc]; exact hc)⟩
                  have ou := HQ3.out.ow.li c u l hu hpg
                  obtain ⟨au, ku, rfl⟩ := ou.slice
                  have HU := Hid.intro' hu
                  have hal := (Below.refl W3.heap.size W3).alloc (Nat.le_refl _) (.cells #[.int .i64 (k : Int)] 3)
                  have HQA := Hid.intro' (HQ3.out.next hal)
                  have HOA := Hid.intro' (ou.below' hal)
                  have HCX : Hid ((W3.alloc (.cells #[.int .i64 (k : Int)] 3)).cell? ⟨W3.heap.size, 0, none⟩ = some (.int .i64 (k : Int))) := (OI.lit (B := 0) W3 [(k : Int)] (Nat.zero_le _) (by unfold maxLen; simp)).cell (i := 0) rfl
                  have k1 : W3.cell? ⟨w.heap.size + 1, c, none⟩ = some (.slice au l.length ku) := (blk_cell HQ3.out.ow.hl c).trans hu
                  have HSZ : Hid (w.heap.size + 1 ≤ (W3.alloc (.cells #[.int .i64 (k : Int)] 3)).heap.size) := by
                    show _ ≤ _
                    have := HQ3.out.nb.lt
                    simp; omega
                  clear ou hu hal hpg HL HSU HHS HFA HB0 HA
                  go_wp2_with (at_builtin; refine wpList_appI rfl _ _ rfl (w.heap.size + 1) _ l rfl HOA.out W3.heap.size 1 (k : Int) rfl HCX.out HLL.out HSZ.out ?_)
                  intro g' cap' W7 ho7 hg7 hat7 hlt7
                  have hne : some (w.heap.size + 1) ≠ (Value.slice au l.length ku).ownBlock := fun e => HQA.out.ow.ne c _ HU.out e.symm
                  have p7 := (hg7.block (w.heap.size + 1) HQA.out.ow.lt hne).trans HQA.out.ow.hl
                  have q1 : W7.cell? ⟨w.heap.size + 1, c, none⟩ = some (.slice au l.length ku) := (blk_cell p7 c).trans HU.out
                  have q2 : W7.frozen? ⟨w.heap.size + 1, c, none⟩ = false := blk_fr p7 c
                  have hadd := HQA.out.add HU.out rpw_get (x := (k : Int)) hg7 (q := g') (u' := .slice (some ⟨g', 0, none⟩) (l.length + 1) cap') rfl (hat7.imp id fun e => by rw [e]; simp) ho7
                  rw [rpw_add, ← HLS.out] at hadd
                  have HAD := Hid.intro' hadd
                  clear hadd ho7 hg7 hat7 hlt7 p7 hne HQA HOA HCX HSZ HLL HLS k1 HQ3 HU
                  go_wp2
                  go_roundw
                  case rel => exact ⟨k + 1, _, by omega, by go_num, HAD⟩
                  case measure => simp [intOf]; omega
                · have hb1 : decide (b0 = (c : Int)) = false := decide_eq_false hb0
                  have hb2 : (b0 == (c : Int)) = false := by simpa using hb0
                  rw [hb1, Bool.and_false, if_neg (by simp), List.append_nil] at HSU
                  go_wp2
                  go_roundw
                  case rel => exact ⟨k + 1, us, by omega, by go_num, by rw [HSU.out]; exact HQ3⟩
                  case measure => simp [intOf]; omega
              · have hA1 : decide (A = (d : Int)) = false := decide_eq_false hA
                have hA2 : (A == (d : Int)) = false := by simpa using hA
                rw [hA1, Bool.false_and, if_neg (by simp), List.append_nil] at HSU
                unfold wpQuiet
                generalize hK : wpQuiet Try.prog _ _ _ _ = K
                go_simp
                refine ⟨_, fun _ _ => rfl, ?_⟩
                subst hK
                unfold wpQuiet
                generalize hK : wpQuiet Try.prog _ _ _ _ = K
                rw [if_pos (by go_simp)]
                refine quiet_lR _ _ _ rfl rfl H13.out ?_
                go_simp
                subst hK
                unfold wpQuiet
                generalize hK : wpQuiet Try.prog _ _ _ _ = K
                go_simp
                refine ⟨_, fun _ _ => rfl, ?_⟩
                subst hK
                unfold wpQuiet
                generalize hK : wpQuiet Try.prog _ _ _ _ = K
                rw [if_pos (by go_simp)]
                refine quiet_iR _ _ rfl rfl rfl hc ?_
                go_simp
                subst hK
                unfold wpQuiet
                generalize hK : wpQuiet Try.prog _ _ _ _ = K
                go_simp
                refine ⟨_, fun _ _ => rfl, ?_⟩
                subst hK
                unfold wpQuiet
                generalize hK : wpQuiet Try.prog _ _ _ _ = K
                rw [if_pos (by go_simp)]
                refine quiet_load3 _ _ _ rfl rfl E0.out ?_
                go_simp
                subst hK
                unfold wpQuiet
                generalize hK : wpQuiet Try.prog _ _ _ _ = K
                go_simp
                refine ⟨_, fun _ _ => rfl, ?_⟩
                subst hK
                unfold wpQuiet
                generalize hK : wpQuiet Try.prog _ _ _ _ = K
                rw [if_pos (by go_simp)]
                refine quiet_lW _ _ _ rfl rfl H14.out ?_
                go_simp
                subst hK
                unfold wpQuiet
                generalize hK : wpQuiet Try.prog _ _ _ _ = K
                go_simp
                refine ⟨_, fun _ _ => rfl, ?_⟩
                subst hK
                unfold wpQuiet
                generalize hK : wpQuiet Try.prog _ _ _ _ = K
                rw [if_pos (by go_simp)]
                refine quiet_iW _ _ rfl rfl rfl hk ?_
                go_simp
                subst hK
                unfold wpQuiet
                generalize hK : wpQuiet Try.prog _ _ _ _ = K
                go_simp
                refine ⟨_, fun _ _ => rfl, ?_⟩
                subst hK
                unfold wpQuiet
                generalize hK : wpQuiet Try.prog _ _ _ _ = K
                rw [if_pos (by go_simp)]
                refine quiet_load3 _ _ _ rfl rfl F0.out ?_
                go_simp
                subst hK
                unfold wpQuiet
                generalize hK : wpQuiet Try.prog _ _ _ _ = K
                go_simp
                refine ⟨_, fun w' hw => (HFR.out w' hw).mono fun e w'' hh => ⟨hh.1, below_class hw hh.2⟩, ?_⟩
                subst hK
                unfold wpQuiet
                generalize hK : wpQuiet Try.prog _ _ _ _ = K
                go_simp
                refine ⟨_, fun _ _ => rfl, ?_⟩
                subst hK
                unfold wpQuiet
                generalize hK : wpQuiet Try.prog _ _ _ _ = K
                go_simp
                refine ⟨_, fun _ _ => rfl, ?_⟩
                subst hK
                unfold wpQuiet
                generalize hK : wpQuiet Try.prog _ _ _ _ = K
                go_simp
                refine ⟨_, fun _ _ => rfl, ?_⟩
                subst hK
                unfold wpQuiet
                generalize hK : wpQuiet Try.prog _ _ _ _ = K
                go_simp
                subst hK
                unfold wpQuiet
                generalize hK : wpQuiet Try.prog _ _ _ _ = K
                go_simp
                subst hK
                unfold wpQuiet
                generalize hK : wpQuiet Try.prog _ _ _ _ = K
                go_simp
                subst hK
                unfold wpQuiet
                generalize hK : wpQuiet Try.prog _ _ _ _ = K
                go_simp
                subst hK
                unfold wpQuiet
                generalize hK : wpQuiet Try.prog _ _ _ _ = K
                go_simp
                subst hK
                unfold wpQuiet
                generalize hK : wpQuiet Try.prog _ _ _ _ = K
                go_simp
                refine ⟨_, fun _ _ => rfl, ?_⟩
                subst hK
                refine wpQuiet_nil ?_
                intro W3 hb3
                have HQ3 := Hid.intro' (HQ.out.next hb3)
                clear hb3 HNB H13 H14 E0 F0 HFR HFI HNW HQ
                go_wp2
                go_roundw
                case rel => exact ⟨k + 1, us, by omega, by go_num, by rw [HSU.out]; exact HQ3⟩
                case measure => simp [intOf]; omega
            · have hkz : ¬ (k : Int) < (s.ws.length : Int) := by omega
              have hke : k = s.ws.length := by omega
              rw [hke, ← rls_succ] at HQ
              clear hke
              go_wp2
              go_roundw
              case rel => exact ⟨d + 1, us, by omega, by go_num, HQ⟩
              case measure => simp [intOf]; omega
        · have hdz : ¬ (d : Int) < (F : Int) := by omega
          have hde : d = s.st.fl.toNat := by have := HF.out; omega
          rw [hde, rpx_next] at HQ
          clear hde
          go_wp2
          go_roundw
          case rel => exact ⟨c + 1, us, by omega, by go_num, HQ⟩
          case measure => simp [intOf]; omega
    · have hcz : ¬ (c : Int) < (s.cs.length : Int) := by omega
      have hce : c = s.cs.length := by omega
      rw [hce, rpx_end] at HQ
      clear hce
      have hrl := HQ.out.ow.rl (D := fun g => w.heap.size ≤ g) fun j hj => by omega
      rw [rpl_length] at hrl
      have HRL := Hid.intro' hrl
      have HBE := Hid.intro' HQ.out.bel
      clear hrl HQ
      go_wp2
      go_ret
      exact ⟨HBE.out, _, rfl, HRL.out⟩

end Go.Proofs.Ytdfdkddjkhcgdah
