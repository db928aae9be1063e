/- The first plan, as the document makes it. -/
import Derived.Test.YtigjbgecdaljkagPk15
namespace Go.Proofs.Ytigjbgecdaljkag
open Go.RowKit Go.Shelf

/-- while the first plan is made: k wants are given away -/
structure Fqr (w W : World) (s : Sn) (vc vw : Value) (g : Nat) (us : List Value) (k : Nat) : Prop where
  nb : NB W w.heap.size s.st vc vw
  ow : OW W (w.heap.size + 1) g us (ffp s k)
  bel : Below w.heap.size w W
section
variable {w W W' : World} {s : Sn} {vc vw : Value} {g : Nat} {us : List Value} {k : Nat}
theorem Fqr.next (h : Fqr w W s vc vw g us k) (hb : Below W.heap.size W W') : Fqr w W' s vc vw g us k := ⟨h.nb.below' hb, h.ow.next hb, below_class h.bel hb⟩
theorem Fqr.add (h : Fqr w W s vc vw g us k) {c : Nat} {u u' : Value} {l : List Int} (hu : us[c]? = some u) (hl : (ffp s k)[c]? = some l) (hg : W.grownBy W' u.ownBlock) {q : Nat} (hq : u'.ownBlock = some q) (hor : u.ownBlock = some q ∨ q = W.heap.size) (ho : OI W' (w.heap.size + 1) u' (l ++ [(k : Int)])) (hc : (fcar s (ffp s k) (k : Int) s.cs.length).1 = (c : Int)) : Fqr w (W'.setCell ⟨g, c, none⟩ u') s vc vw g (us.set c u') (k + 1) := by
  have ou := h.ow.li c u l hu hl
  have hs := h.bel.size
  have h1 := h.nb.lt
  have h2 := h.ow.bg
  refine ⟨?_, ?_, ?_⟩
  · unfold NB
    rw [Below.heap_setCell W' ⟨g, c, none⟩ _ _ (by show w.heap.size ≠ g; omega), hg.block _ h1 (fun e => by have := (ou.lt _ e.symm).1; omega)]
    exact h.nb
  · have := h.ow.add hu hl hg hq hor ho
    show OW _ _ _ _ (PM.add (ffp s k) (fcar s (ffp s k) (k : Int) s.cs.length).1.toNat (k : Int))
    rw [hc, Int.toNat_natCast]
    exact this
  · exact (h.bel.grown hg hs (fun j hj => by have := (ou.lt j hj).1; omega)).setCell (p := ⟨g, c, none⟩) (by show w.heap.size ≤ g; omega) _
end

set_option maxRecDepth 100000 in
set_option maxHeartbeats 8000000 in
theorem rfirst_any (s : Sn) (D : Nat → Prop) (vc vw : Value) (w : World) (hc : R2 D w vc s.cs) (hw : R2 D w vw s.ws) (hr : rgt s = true) :
    Calls Try.prog 23 #[.agg (nv s.st vc vw).toArray] w fun e w' => Below w.heap.size w w' ∧ ∃ v, e = .returned v ∧ RL (fun g => w.heap.size ≤ g) w' v (ffp s s.ws.length) := by
  have hbx := (Below.refl w.heap.size w).alloc (Nat.le_refl _) (.cells (nv s.st vc vw).toArray 27)
  have HN := Hid.intro' (NB.new w s.st vc vw)
  have HB := Hid.intro' hbx
  have HC : Hid (R2 (fun g => g < w.heap.size) w vc s.cs) := hc.mono fun g _ h _ => h
  have HW : Hid (R2 (fun g => g < w.heap.size) w vw s.ws) := hw.mono fun g _ h _ => h
  obtain ⟨ac, kc, rfl, _, _⟩ := hc.form
  obtain ⟨aw, kw, rfl, _, _⟩ := hw.form
  have HR := Hid.intro' hr
  have HZ := Hid.intro' (rgt_rz hr)
  have HAF := Hid.intro' (rgt_after hr)
  obtain ⟨n8, hrs⟩ := rgt_rs hr
  have HRS := Hid.intro' hrs
  have hwl : s.ws.length ≤ 128 := hrs.wl
  have hcl : s.cs.length ≤ 8 := by have := hrs.cl; have := hrs.n8; omega
  have hmk := mkL s.cs.length (by omega)
  have c13 : (w.alloc (.cells (nv s.st (.slice ac s.cs.length kc) (.slice aw s.ws.length kw)).toArray 27)).cell? ⟨w.heap.size, 13, none⟩ = some (.slice ac s.cs.length kc) := HN.out.cell 13
  clear hc hw hbx hr hrs
  go_enter Try.func23, Try.ntmps23
  go_wp2_with fail
  have HS1 : Hid ((w.alloc (.cells (nv s.st (.slice ac s.cs.length kc) (.slice aw s.ws.length kw)).toArray 27)).heap.size = w.heap.size + 1) := by show _ = _; simp
  clear c13 hmk
  generalize w.alloc (.cells (nv s.st (.slice ac s.cs.length kc) (.slice aw s.ws.length kw)).toArray 27) = X at HN HB HS1 ⊢
  have HQ0 : Hid (Fqr w (X.alloc (.cells (Array.replicate s.cs.length (Value.slice none 0 0)) 36)) s (.slice ac s.cs.length kc) (.slice aw s.ws.length kw) (w.heap.size + 1) (List.replicate s.cs.length (Value.slice none 0 0)) 0) := by
    have hbY := (Below.refl X.heap.size X).alloc (Nat.le_refl _) (.cells (Array.replicate s.cs.length (Value.slice none 0 0)) 36)
    have := OW.make (B := w.heap.size + 1) X s.cs.length (by rw [HS1.out]; exact Nat.le_refl _)
    rw [List.toArray_replicate, HS1.out] at this
    exact ⟨HN.out.below' hbY, this, below_class HB.out hbY⟩
  clear HN HB HS1
  generalize X.alloc (.cells (Array.replicate s.cs.length (Value.slice none 0 0)) 36) = Y at HQ0 ⊢
  generalize w.heap.size + 1 = g at HQ0 ⊢
  go_loopw [4] (fun i wr => ∃ (k : Nat) (us : List Value), k ≤ s.ws.length ∧ i = .int .i64 (k : Int) ∧ Hid (Fqr w wr s (.slice ac s.cs.length kc) (.slice aw s.ws.length kw) g us k)) (fun i _ => s.ws.length - (intOf i).toNat)
  case atStart => exact ⟨0, _, Nat.zero_le _, rfl, HQ0⟩
  case round =>
    clear HQ0
    obtain ⟨k, us, hk, rfl, HQ⟩ := hrel
    have c14 : wr.cell? ⟨w.heap.size, 14, none⟩ = some (.slice aw s.ws.length kw) := HQ.out.nb.cell 14
    by_cases hlt : k < s.ws.length
    · have hkz : (k : Int) < (s.ws.length : Int) := by omega
      obtain ⟨y, hy⟩ : ∃ y, s.ws[k]? = some y := ⟨_, List.getElem?_eq_getElem hlt⟩
      obtain ⟨m, hm, hym⟩ := HRS.out.mm.eq k y hy
      have hm8 : m ≤ 100000 := by
        have h1 := HRS.out.lt m (List.mem_of_getElem? hm)
        have h2 : 2 ^ n8 ≤ 2 ^ 8 := Nat.pow_le_pow_right (by omega) HRS.out.n8
        omega
      have HMY : Hid (∀ c, mayk s c (k : Int) = PM.bt m c) := fun c => by unfold mayk; rw [Int.toNat_natCast, hm]; rfl
      have HY := Hid.intro' hy
      have HYM := Hid.intro' hym
      have HPW := Hid.intro' (ffp_pw HR.out k hk)
      have HMX := Hid.intro' (ffp_max (s := s) k)
      clear hy hm hym
      go_wp2_with fail
      clear c14
      generalize wr = V at HQ ⊢
      go_loopw [5, 6, 7] (fun bv lv iv wr => ∃ c : Nat, c ≤ s.cs.length ∧ iv = .int .i64 (c : Int) ∧ bv = .int .i64 (fcar s (ffp s k) (k : Int) c).1 ∧ lv = .int .i64 (fcar s (ffp s k) (k : Int) c).2 ∧ Hid (Fqr w wr s (.slice ac s.cs.length kc) (.slice aw s.ws.length kw) g us k)) (fun _ _ iv _ => s.cs.length - (intOf iv).toNat)
      case atStart => exact ⟨0, Nat.zero_le _, rfl, rfl, rfl, HQ⟩
      case round =>
        clear HQ
        obtain ⟨c, hcn, rfl, rfl, rfl, HQ⟩ := hrel
        by_cases hcc : c < s.cs.length
        · have hcz : (c : Int) < (s.cs.length : Int) := by omega
          have HMAY := Hid.intro' (may_any s (fun g => g < w.heap.size) (.slice ac s.cs.length kc) (.slice aw s.ws.length kw) wr (HW.out.below' HQ.out.bel) k c m y HY.out HYM.out hm8 (by omega))
          go_wp2_with (refine wpList_load27g rfl _ rfl w.heap.size s.st _ _ rfl HQ.out.nb ?_)
          refine HMAY.out.mono ?_
          rintro e W5 ⟨rfl, hb5⟩
          have HQ5 := Hid.intro' (HQ.out.next hb5)
          clear hb5 HMAY HQ
          cases hbt : PM.bt m c with
          | false =>
            have HE := Hid.intro' (fcar_no (p := ffp s k) ((HMY.out c).trans hbt))
            clear hbt
            go_wp2
            go_roundw
            case rel => exact ⟨c + 1, by omega, by go_num, by rw [HE.out], by rw [HE.out], HQ5⟩
            case measure => simp [intOf]; omega
          | true =>
            have HM := Hid.intro' ((HMY.out c).trans hbt)
            clear hbt
            obtain ⟨l, hl⟩ : ∃ l, (ffp s k)[c]? = some l := ⟨_, List.getElem?_eq_getElem (by rw [HPW.out.len]; exact hcc)⟩
            obtain ⟨r, hr⟩ : ∃ r, s.cs[c]? = some r := ⟨_, List.getElem?_eq_getElem hcc⟩
            obtain ⟨u, hu⟩ : ∃ u, us[c]? = some u := ⟨_, List.getElem?_eq_getElem (by rw [HQ5.out.ow.len, HPW.out.len]; exact hcc)⟩
            have hln : l.length ≤ 128 := by have := HMX.out l (List.mem_of_getElem? hl); omega
            have HL := Hid.intro' hl
            have HRR := Hid.intro' hr
            have HTE := Hid.intro' (tend_at (s := s) (p := ffp s k) (w := (k : Int)) hr hl)
            have ou := HQ5.out.ow.li c u l hu hl
            obtain ⟨au, ku, rfl⟩ := ou.slice
            have HOU := Hid.intro' ou
            have cu : (W5.alloc (.cells #[] 3)).cell? ⟨g, c, none⟩ = some (.slice au l.length ku) := by
              rw [Below.cell ((Below.refl W5.heap.size W5).alloc (Nat.le_refl _) _) (p := ⟨g, c, none⟩) HQ5.out.ow.lt]
              exact (blk_cell HQ5.out.ow.hl c).trans hu
            have HBA := Hid.intro' ((Below.refl W5.heap.size W5).alloc (Nat.le_refl _) (.cells #[] 3))
            have HSA : Hid (W5.heap.size ≤ (W5.alloc (.cells #[] 3)).heap.size) := HBA.out.size
            have HO0 : Hid (OI (W5.alloc (.cells #[] 3)) W5.heap.size (.slice (some ⟨W5.heap.size, 0, none⟩) 0 0) []) := OI.lit (B := W5.heap.size) W5 [] (Nat.le_refl _) (Nat.zero_le _)
            clear hl hr hu ou
            go_wp2_with (at_builtin; refine wpList_appendRI rfl _ _ rfl W5.heap.size _ _ [] l (fun _ => True) rfl HO0.out rfl ?qa1 ?qa2 HSA.out ?_)
            case qa1 => exact (HOU.out.below' HBA.out).ri fun _ _ => trivial
            case qa2 => simp; omega
            intro v6 W6 ho6 hg6
            have HB6 := Hid.intro' (HBA.out.grown hg6 (Nat.le_trans (Nat.le_refl _) HSA.out) (fun q hq => (HO0.out.lt q hq).1))
            have HO6 := Hid.intro' ho6
            obtain ⟨a6, c6, rfl⟩ := ho6.slice
            clear ho6 hg6 HO0 HBA HSA cu HOU
            have HSZ : Hid (W5.heap.size ≤ W6.heap.size) := HB6.out.size
            have HOA := Hid.intro' (HO6.out.alloc (.cells #[.int .i64 (k : Int)] 3))
            have HCX : Hid ((W6.alloc (.cells #[.int .i64 (k : Int)] 3)).cell? ⟨W6.heap.size, 0, none⟩ = some (.int .i64 (k : Int))) := (OI.lit (B := 0) W6 [(k : Int)] (Nat.zero_le _) (by unfold maxLen; simp)).cell (i := 0) rfl
            have hl0 : l.length ≤ 1000000 := by omega
            go_wp2_with (at_builtin; refine wpList_appI rfl _ _ rfl W5.heap.size _ l rfl HOA.out W6.heap.size 1 (k : Int) rfl HCX.out hl0 ?qb2 ?_)
            case qb2 => have := HSZ.out; simp; omega
            intro g7 c7 W7 ho7 hg7 hat7 hlt7
            have HB7 := Hid.intro' ((HB6.out.alloc HSZ.out (.cells #[.int .i64 (k : Int)] 3)).grown hg7 (by have := HSZ.out; simp; omega) (fun q hq => (HO6.out.lt q hq).1))
            have HQ7 := Hid.intro' (HQ5.out.next HB7.out)
            have hw1 : IntKind.i64.wrap ((l.length : Int) + 1 - 1) = (l.length : Int) := by rw [IntWalk.i64_in _ (by omega)]; omega
            have hcast : ((l.length + 1 : Nat) : Int) = (l.length : Int) + 1 := by omega
            obtain ⟨t1, HT1⟩ : ∃ t, Hid (tend s (ffp s k) (k : Int) c = t) := ⟨_, Hid.intro' rfl⟩
            have HTM := Hid.intro' (rtime_at s (fun _ => True) _ _ (.slice (some ⟨g7, 0, none⟩) (l.length + 1) c7) c l.length r (l ++ [(k : Int)]) W7 ((HC.out.mono fun _ _ _ _ => trivial).below' HQ7.out.bel) ((HW.out.mono fun _ _ _ _ => trivial).below' HQ7.out.bel) (ho7.ri fun _ _ => trivial) HRR.out (k : Int) (by simp) HZ.out (fun x hx => by
              rcases List.mem_append.1 hx with hx | hx
              · exact HPW.out.fr HL.out x hx
              · simp at hx; subst hx; omega) (by omega) (by have := HAF.out r (List.mem_of_getElem? HRR.out); omega) t1 (by
              show _ = _
              rw [List.take_left' rfl, ← HTE.out]; exact HT1.out))
            have HY1 := Hid.intro' (fcar_yes (s := s) (p := ffp s k) HM.out)
            have HN1 := Hid.intro' (fcar_stay (s := s) (p := ffp s k) (w := (k : Int)) (c := c))
            rw [HT1.out] at HY1 HN1
            clear ho7 hg7 hat7 hlt7 HOA HCX HO6 HB6 HSZ HB7 HQ5
            go_wp2_with (refine wpList_load27g rfl _ rfl w.heap.size s.st _ _ rfl HQ7.out.nb ?_)
            refine HTM.out.mono ?_
            rintro e W8 ⟨rfl, hb8⟩
            have HQ8 := Hid.intro' (HQ7.out.next hb8)
            clear hb8 HTM HQ7
            obtain ⟨bc, HBC⟩ : ∃ b, Hid ((fcar s (ffp s k) (k : Int) c).1 = b) := ⟨_, Hid.intro' rfl⟩
            obtain ⟨lv, HLV⟩ : ∃ b, Hid ((fcar s (ffp s k) (k : Int) c).2 = b) := ⟨_, Hid.intro' rfl⟩
            rw [HBC.out, HLV.out] at HY1 HN1 ⊢
            by_cases h1 : bc < 0
            · have HE := Hid.intro' (HY1.out (.inl h1))
              clear HY1 HN1
              go_wp2
              go_roundw
              case rel => exact ⟨c + 1, by omega, by go_num, by rw [HE.out], by rw [HE.out], HQ8⟩
              case measure => simp [intOf]; omega
            · have q1 : decide (bc < 0) = false := decide_eq_false h1
              by_cases h2 : t1 < lv
              · have HE := Hid.intro' (HY1.out (.inr h2))
                clear HY1 HN1 h1
                go_wp2
                go_roundw
                case rel => exact ⟨c + 1, by omega, by go_num, by rw [HE.out], by rw [HE.out], HQ8⟩
                case measure => simp [intOf]; omega
              · have q2 : decide (t1 < lv) = false := decide_eq_false h2
                have HE := Hid.intro' (HN1.out (fun h => h.elim h1 h2))
                clear HY1 HN1 h1 h2
                go_wp2
                go_roundw
                case rel => exact ⟨c + 1, by omega, by go_num, by rw [HE.out, HBC.out], by rw [HE.out, HLV.out], HQ8⟩
                case measure => simp [intOf]; omega
        · have hcz : ¬ (c : Int) < (s.cs.length : Int) := by omega
          have hce : c = s.cs.length := by omega
          have hex : ∃ d : Nat, (fcar s (ffp s k) (k : Int) s.cs.length).1 = (d : Int) ∧ d < s.cs.length := by
            rcases fcar_some (s := s) (p := ffp s k) (w := (k : Int)) s.cs.length with ⟨_, h2⟩ | ⟨d, h1, h2, _⟩
            · obtain ⟨d, hd, hm⟩ := has_car HR.out hlt
              rw [h2 d hd] at hm
              cases hm
            · exact ⟨d, h1, h2⟩
          obtain ⟨d, hfd, hdn⟩ := hex
          have HFD := Hid.intro' hfd
          have hdz : (d : Int) < (s.cs.length : Int) := by omega
          rw [hce] at hcz ⊢
          rw [hfd]
          obtain ⟨l, hl⟩ : ∃ l, (ffp s k)[d]? = some l := ⟨_, List.getElem?_eq_getElem (by rw [HPW.out.len]; exact hdn)⟩
          obtain ⟨u, hu⟩ : ∃ u, us[d]? = some u := ⟨_, List.getElem?_eq_getElem (by rw [HQ.out.ow.len, HPW.out.len]; exact hdn)⟩
          have hl0 : l.length ≤ 1000000 := by have := HMX.out l (List.mem_of_getElem? hl); omega
          have ou := HQ.out.ow.li d u l hu hl
          obtain ⟨au, ku, rfl⟩ := ou.slice
          have HOA := Hid.intro' (ou.alloc (.cells #[.int .i64 (k : Int)] 3))
          have HCX : Hid ((wr.alloc (.cells #[.int .i64 (k : Int)] 3)).cell? ⟨wr.heap.size, 0, none⟩ = some (.int .i64 (k : Int))) := (OI.lit (B := 0) wr [(k : Int)] (Nat.zero_le _) (by unfold maxLen; simp)).cell (i := 0) rfl
          have cu : wr.cell? ⟨g, d, none⟩ = some (.slice au l.length ku) := (blk_cell HQ.out.ow.hl d).trans hu
          have HQA := Hid.intro' (HQ.out.next ((Below.refl wr.heap.size wr).alloc (Nat.le_refl _) (.cells #[.int .i64 (k : Int)] 3)))
          have HSZ : Hid (w.heap.size + 1 ≤ wr.heap.size) := HQ.out.nb.lt
          have HL := Hid.intro' hl
          have HU := Hid.intro' hu
          clear hl hu ou hfd HQ hce
          go_wp2_with (at_builtin; refine wpList_appI rfl _ _ rfl (w.heap.size + 1) _ l rfl HOA.out wr.heap.size 1 (k : Int) rfl HCX.out hl0 ?qb2 ?_)
          case qb2 => have := HSZ.out; simp; omega
          intro g7 c7 W7 ho7 hg7 hat7 hlt7
          have hgb : W7.heap[g]? = _ := (hg7.block g HQA.out.ow.lt (fun e => HQA.out.ow.ne d _ HU.out e.symm)).trans HQA.out.ow.hl
          have d1 : W7.cell? ⟨g, d, none⟩ = some (.slice au l.length ku) := (blk_cell hgb d).trans HU.out
          have d2 : W7.frozen? ⟨g, d, none⟩ = false := blk_fr hgb d
          have HQ8 := Hid.intro' (HQA.out.add HU.out HL.out hg7 (q := g7) (u' := .slice (some ⟨g7, 0, none⟩) (l.length + 1) c7) rfl (hat7.imp id fun e => by rw [e]; simp) ho7 HFD.out)
          clear ho7 hg7 hat7 hlt7 HOA HCX HQA cu hgb HSZ
          go_wp2
          go_roundw
          case rel => exact ⟨k + 1, _, by omega, by go_num, HQ8⟩
          case measure => simp [intOf]; omega
    · have hkz : ¬ (k : Int) < (s.ws.length : Int) := by omega
      have hke : k = s.ws.length := by omega
      go_wp2
      go_ret
      refine ⟨HQ.out.bel, _, rfl, ?_⟩
      have hlen := (ffp_pw HR.out k hk).len
      have := HQ.out.ow.rl (D := fun g => w.heap.size ≤ g) fun q hq => by show _ ≤ q; omega
      rw [hlen, hke] at this
      exact this

end Go.Proofs.Ytigjbgecdaljkag
