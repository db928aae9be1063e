/- FrameFeeds: the walk. -/
import Derived.Test.YtkbfljacjfaamadFrP
namespace Go.Proofs.Ytkbfljacjfaamad
open Go.RowKit

/-- what holds ahead of each part: the scanner has kept what the document's stream has left -/
structure Hx (w wr : World) (sb : Nat) (u lv : Value) (x : List Nat) : Prop where
  sbh : wr.heap[sb]? = some (.cells #[u] 71 (0, 0))
  ru : RD wr u x
  rl : RD wr lv x
  nl : x ≠ [] → ∀ g, lv.ownBlock = some g → g ≠ sb
  len : x.length < 10
  bel : Below w.heap.size w wr
  lo : w.heap.size ≤ sb
theorem Hx.next {w wr W : World} {sb : Nat} {u lv : Value} {x : List Nat} (h : Hx w wr sb u lv x) (hb : Below wr.heap.size wr W) : Hx w W sb u lv x :=
  ⟨(hb.block sb (Array.getElem?_eq_some_iff.1 h.sbh).1).trans h.sbh, h.ru.below' hb, h.rl.below' hb, h.nl, h.len, below_class h.bel hb, h.lo⟩

/-- what a stream gives, in letters -/
structure F3 (y : List Nat) (F : List Fr) (N : Nat) (R : List Nat) : Prop where
  eq : FC.fd y = (F, N, R)
theorem F3.few {x p : List Nat} {F : List Fr} {N : Nat} {R : List Nat} (h : F3 (x ++ p) F N R) : F.length * 10 ≤ x.length + p.length := by
  have := FC.fd_count (x ++ p)
  rw [h.eq, List.length_append] at this
  simp only at this
  omega
theorem F3.left {y : List Nat} {F : List Fr} {N : Nat} {R : List Nat} (h : F3 y F N R) : R.length < 10 := by
  have := (FC.fd_left y).1
  rwa [h.eq] at this
/-- what holds behind Feed, while the part that was handed in is turned -/
structure Iy (w W : World) (sb Bw B3 : Nat) (v2 un lv fo : Value) (q x R : List Nat) (F : List Fr) : Prop where
  ow : OW W Bw v2 q
  bs : FC.Bs q
  sbh : W.heap[sb]? = some (.cells #[un] 71 (0, 0))
  ou : OW W B3 un R
  of : FO W B3 fo F
  rl : RD W lv x
  nl : x ≠ [] → ∀ g, lv.ownBlock = some g → g ≠ sb ∧ g < Bw
  sep : ∀ g, v2.ownBlock = some g → g < B3
  sbw : sb < Bw
  bel : Below w.heap.size w W
  wB : w.heap.size ≤ Bw
section
variable {w W W' : World} {sb Bw B3 : Nat} {un lv fo : Value} {q x R : List Nat} {F : List Fr}
theorem Iy.put {g n cap : Nat} (h : Iy w W sb Bw B3 (.slice (some ⟨g, 0, none⟩) n cap) un lv fo q x R F) (i y : Nat) (hy : y < 256) : Iy w (W.setCell ⟨g, i, none⟩ (.int .u8 (y : Int))) sb Bw B3 (.slice (some ⟨g, 0, none⟩) n cap) un lv fo (q.set i y) x R F := by
  have hg := (h.ow.lt g rfl).1
  have h3 := h.sep g rfl
  have hw := h.wB
  have hs := h.sbw
  have keep : ∀ k, k ≠ g → (W.setCell ⟨g, i, none⟩ (.int .u8 (y : Int))).heap[k]? = W.heap[k]? := fun k hk => Below.heap_setCell W ⟨g, i, none⟩ _ k hk
  refine ⟨h.ow.put i y, h.bs.set hy, (keep sb (by omega)).trans h.sbh, h.ou.keep fun k hk => keep k (fun e => by have := (h.ou.lt k hk).1; omega), h.of.keep fun k hk => keep k (fun e => by have := (h.of.lt k hk).1; omega), ?_, h.nl, h.sep, h.sbw, h.bel.setCell (p := ⟨g, i, none⟩) (by show w.heap.size ≤ g; omega) _, h.wB⟩
  exact h.rl.keep' (by simp [World.setCell]) (fun hne k hk _ => keep k (fun e => by have := (h.nl hne k hk).2; omega))
theorem Iy.next {v2 : Value} (h : Iy w W sb Bw B3 v2 un lv fo q x R F) (hb : Below W.heap.size W W') : Iy w W' sb Bw B3 v2 un lv fo q x R F :=
  ⟨h.ow.below' hb, h.bs, (hb.block sb (Array.getElem?_eq_some_iff.1 h.sbh).1).trans h.sbh, h.ou.below' hb, h.of.below' hb, h.rl.below' hb, h.nl, h.sep, h.sbw, below_class h.bel hb, h.wB⟩
end

set_option maxHeartbeats 8000000 in
theorem feeds_true (v : Value) (ps : List (List Nat)) (w : World) (h : RP w v ps) :
    Calls Try.prog 7 #[v] w fun e w' => e = .returned (.bool true) ∧ Below w.heap.size w w' := by
  have HP := Hid.intro' h
  obtain ⟨a, cap, rfl, hc⟩ := h.form
  clear h
  go_enter Try.func7, Try.ntmps7
  go_wp2_with fail
  refine (speaks_any _).mono ?_
  rintro e W1 ⟨rfl, hb1⟩
  have HB1 := Hid.intro' hb1
  clear hb1
  by_cases hl : 60 < ps.length
  · have hz : (60 : Int) < (ps.length : Int) := by omega
    go_wp2
    go_ret
    exact ⟨rfl, HB1.out⟩
  · have hz : ¬ (60 : Int) < (ps.length : Int) := by omega
    go_wp2
    have HX0 : Hid (Hx w ((W1.alloc (.cells #[.slice none 0 0] 71)).alloc (.cells #[] 5)) W1.heap.size (.slice none 0 0) (.slice (some ⟨W1.heap.size + 1, 0, none⟩) 0 0) []) := by
      have hb2 : Below W1.heap.size W1 ((W1.alloc (.cells #[.slice none 0 0] 71)).alloc (.cells #[] 5)) := ((Below.refl _ W1).alloc (Nat.le_refl _) _).alloc (by simp) _
      refine ⟨?_, RD.nil _, ?_, fun e => absurd rfl e, by simp, below_class HB1.out hb2, HB1.out.size⟩
      · have h1 : (W1.alloc (.cells #[.slice none 0 0] 71)).heap[W1.heap.size]? = some (.cells #[.slice none 0 0] 71 (0, 0)) := heap_alloc_new W1 _
        exact (Below.heap_alloc _ _ _ (by simp)).trans h1
      · have := OW.lit (B := 0) (W1.alloc (.cells #[.slice none 0 0] 71)) [] (Nat.zero_le _) (Nat.zero_le _)
        rw [World.size_alloc] at this
        exact this.rd FC.Bs.nil
    generalize (W1.alloc (.cells #[.slice none 0 0] 71)).alloc (.cells #[] 5) = W2 at HX0 ⊢
    generalize W1.heap.size = sb at HX0 ⊢
    go_loopw [4, 6, 7, 8, 9, 10, 11, 12, 13, 24, 42] (fun lv _ _ _ _ _ _ _ _ i _ wr => ∃ (k : Nat) (x : List Nat) (u : Value), k ≤ ps.length ∧ i = .int .i64 (k : Int) ∧ Hid (Hx w wr sb u lv x)) (fun _ _ _ _ _ _ _ _ _ i _ _ => ps.length - (intOf i).toNat)
    case atStart => exact ⟨0, [], _, Nat.zero_le _, rfl, HX0⟩
    case round =>
      obtain ⟨k, x, u, hk, rfl, HX⟩ := hrel
      by_cases hlt : k < ps.length
      · have hkz : (k : Int) < (ps.length : Int) := by omega
        obtain ⟨p, hp⟩ : ∃ p, ps[k]? = some p := ⟨_, List.getElem?_eq_getElem hlt⟩
        obtain ⟨g, o, rfl, up, hcell, hrp⟩ := HP.out.at HX.out.bel hp
        obtain ⟨ap, cp, rfl, _, _, _⟩ := hrp.form
        have HRP := Hid.intro' hrp
        have HXL := Hid.intro' HX.out.len
        clear hp hrp
        by_cases hpl : 300 < p.length
        · have hpz : (300 : Int) < (p.length : Int) := by omega
          go_wp2
          go_ret
          exact ⟨rfl, HX.out.bel⟩
        · have hpz : ¬ (300 : Int) < (p.length : Int) := by omega
          go_wp2_with (at_builtin; refine wpList_appendR rfl _ _ rfl wr.heap.size _ _ [] p rfl ?qc1 rfl ?qc2 ?qc3 ?qc4 ?_)
          case qc1 => exact OW.lit (B := wr.heap.size) wr [] (Nat.le_refl _) (Nat.zero_le _)
          case qc2 => exact (HRP.out.below' HX.out.bel).alloc _
          case qc3 => omega
          intro v2 W3 ho2 hg2
          have hb2 := made_grown hg2 rfl
          have HX3 := Hid.intro' (HX.out.next hb2)
          have HO3 := Hid.intro' ho2
          have HS3 := Hid.intro' hb2.size
          clear ho2 hg2 hb2
          go_wp2_with fail
          refine (feed_any sb u v2 x p W3 HX3.out.sbh HX3.out.ru (HO3.out.rd HRP.out.bs) (by have := HXL.out; omega) (by omega)).mono ?_
          rintro e W4 ⟨fo, un, rfl, hf4, hs4, hu4, hk4⟩
          obtain ⟨F, N, R, HFD⟩ : ∃ F N R, F3 (x ++ p) F N R := ⟨_, _, _, ⟨rfl⟩⟩
          rw [HFD.eq] at hf4 hu4 ⊢
          have HI4 : Hid (Iy w W4 sb wr.heap.size W3.heap.size v2 un u4 fo p x R F) := by
            have hsl : sb < wr.heap.size := (Array.getElem?_eq_some_iff.1 HX.out.sbh).1
            have hlo := HX.out.lo
            refine ⟨HO3.out.kp hk4 (fun g' hg' e => by have := (HO3.out.lt g' hg').1; omega), HRP.out.bs, hs4, hu4, hf4, ?_, fun hne g' hg' => ⟨HX.out.nl hne g' hg', ?_⟩, fun g' hg' => (HO3.out.lt g' hg').2, hsl, ?_, HX.out.bel.size⟩
            · exact HX3.out.rl.keep' hk4.size (fun hne g' hg' hlt' => hk4.block g' hlt' (HX.out.nl hne g' hg'))
            · obtain ⟨al, cl, rfl, _, _, hal⟩ := HX.out.rl.form
              rcases hal with hal | ⟨gl, ol, rfl, hgl⟩
              · exact absurd hal hne
              · have e : gl = g' := by simpa [Value.ownBlock] using hg'
                omega
            · exact hk4.below HX3.out.bel HX3.out.bel.size (fun i hi e => by omega)
          have HXN := Hid.intro' HX.out.lo
          clear hf4 hs4 hu4 hk4 HX3 HX HS3
          obtain ⟨a2, c2, rfl⟩ := HO3.out.slice
          clear HO3
          generalize W3.heap.size = B3 at HI4
          generalize wr.heap.size = Bw at HI4
          go_wp2
          go_loopw [10, 42] (fun _ i wq => ∃ (j : Nat) (q : List Nat), j ≤ p.length ∧ i = .int .i64 (j : Int) ∧ Hid (q.length = p.length) ∧ Hid (Iy w wq sb Bw B3 (.slice a2 p.length c2) un u4 fo q x R F)) (fun _ i _ => p.length - (intOf i).toNat)
          case atStart => exact ⟨0, p, Nat.zero_le _, rfl, (rfl : p.length = p.length), HI4⟩
          case round =>
            obtain ⟨j, q, hj, rfl, HQ, HI⟩ := hrel
            by_cases hjl : j < p.length
            · have hjz : (j : Int) < (p.length : Int) := by omega
              obtain ⟨y, hy⟩ : ∃ y, q[j]? = some y := ⟨_, List.getElem?_eq_getElem (by have := HQ.out; omega)⟩
              obtain ⟨g2, c2', e2⟩ : ∃ g2 c, Value.slice a2 p.length c2 = .slice (some ⟨g2, 0, none⟩) p.length c := by
                rcases HI.out.ow.form with ⟨_, e⟩ | ⟨g2, c, e, _⟩
                · exfalso; rw [e] at hy; simp at hy
                · rw [HQ.out] at e; exact ⟨g2, c, e⟩
              simp only [Value.slice.injEq, true_and] at e2
              obtain ⟨rfl, rfl⟩ := e2
              have k0 := HI.out.ow.cell hy
              have r0 := HI.out.ow.fr j
              have hy8 := HI.out.bs.get hy
              have hxr : bits .xor .u8 (y : Int) 255 = ((y ^^^ 255 : Nat) : Int) := u8_xor_nat y 255 hy8 (by omega)
              have HZ := Hid.intro' (FC.xor_lt8 hy8 (show 255 < 256 by omega))
              generalize y ^^^ 255 = z at hxr HZ
              clear hy
              go_wp2
              go_roundw
              case rel => exact ⟨j + 1, q.set j z, by omega, by go_num, (by show (q.set j z).length = p.length; rw [List.length_set]; exact HQ.out), HI.out.put j z HZ.out⟩
              case measure => simp [intOf]; omega
            · have hjz : ¬ (j : Int) < (p.length : Int) := by omega
              have HIr := Hid.intro' HI.out
              go_wp2_with (at_builtin; refine wpList_appendR rfl _ _ rfl wr.heap.size _ _ [] x rfl ?qd1 rfl ?qd2 ?qd3 ?qd4 ?_)
              case qd1 => exact OW.lit (B := wr.heap.size) wr [] (Nat.le_refl _) (Nat.zero_le _)
              case qd2 => exact HI.out.rl.alloc _
              case qd3 => have := HXL.out; omega
              intro v5 W5 ho5 hg5
              have hb5 := made_grown hg5 rfl
              have HI5 := Hid.intro' (HI.out.next hb5)
              have HO5 := Hid.intro' ho5
              have HB5 := Hid.intro' hb5
              clear ho5 hg5 hb5 HI
              go_wp2_with (at_builtin; refine wpList_appendR rfl _ _ rfl wr.heap.size _ _ x p rfl HO5.out rfl (HRP.out.below' HI5.out.bel) (by have := HXL.out; omega) HB5.out.size ?_)
              intro v6 W6 ho6 hg6
              have hb6 : Below wr.heap.size wr W6 := HB5.out.grown hg6 HB5.out.size (fun k hk => (HO5.out.lt k hk).1)
              have HI6 := Hid.intro' (HIr.out.next hb6)
              have HO6 := Hid.intro' ho6
              have HS6 := Hid.intro' hb6.size
              clear ho6 hg6 hb6 HI5 HO5 HB5
              have hrf := rfeed_any v6 (x ++ p) W6 (HO6.out.rd (HIr.out.rl.bs.append HRP.out.bs)) (by have := HXL.out; rw [List.length_append]; omega)
              rw [HFD.eq] at hrf
              go_wp2_with fail
              refine hrf.mono ?_
              rintro e W7 ⟨fo7, v7, rfl, hf7, hr7, ho7, hb7⟩
              have HI7 := Hid.intro' (HI6.out.next hb7)
              have HF7 := Hid.intro' hf7
              have HR7 := Hid.intro' hr7
              have HV7 : Hid (∀ g, v7.ownBlock = some g → wr.heap.size ≤ g) := fun g hg => (HO6.out.lt g (ho7 g hg)).1
              clear hrf hf7 hr7 ho7 hb7 HI6
              go_wp2_with fail
              refine (sames_any fo fo7 F _ HI7.out.of.rf HF7.out.rf ?_).mono ?_
              · have := HFD.few; have := HXL.out; omega
              rintro e W8 ⟨rfl, hb8⟩
              have HI8 := Hid.intro' (HI7.out.next hb8)
              have HR8 := Hid.intro' (HR7.out.below' hb8)
              clear hb8 HI7 HR7 HF7
              go_wp2
              go_roundw
              case rel => exact ⟨k + 1, R, un, by omega, by go_num, HI8.out.sbh, (HI8.out.ou.rd HR8.out.bs), HR8.out, fun _ g hg => (by have := HV7.out g hg; have := (Array.getElem?_eq_some_iff.1 HIr.out.sbh).1; omega), HFD.left, HI8.out.bel, HXN.out⟩
              case measure => simp [intOf]; omega
      · have hkz : ¬ (k : Int) < (ps.length : Int) := by omega
        go_wp2
        go_ret
        exact ⟨rfl, HX.out.bel⟩

end Go.Proofs.Ytkbfljacjfaamad
