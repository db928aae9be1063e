/- Serve as the document's answer has it: up true, down false. -/
import Derived.Test.YtiihnjfknohhbadRefB
namespace Go.Proofs.Ytiihnjfknohhbad
open Go.RowKit

set_option maxHeartbeats 4000000 in
theorem rserve_2 (B r : Nat) (F C : Int) (v : Value) (t : Nat) (L : List Cl) (car floor : Int) (w : World) (H : RK w B r F C v t L) (hL : L.length ≤ 128) (hca : ∀ c ∈ L, -1 ≤ c.ca) :
    Calls Try.prog 17 #[.pointer (some ⟨r, 0, none⟩), .int .i64 car, .int .i64 floor, .bool true, .bool false] w fun e w' => ∃ vo v', e = .returned vo ∧ RV w' vo (L.filter (KM.srv car floor true false)) ∧
      RK w' B r F C v' t (L.filter fun c => !KM.srv car floor true false c) ∧ Nx w v v' ∧ Kp (Fp r v) w w' := by
  have HB := Hid.intro' H
  have HCA := Hid.intro' hca
  obtain ⟨a1, n, c1, rfl⟩ := H.rw.slice
  have hn := H.rw.len
  have HN := Hid.intro' hn
  have hn2 : n ≤ 128 := by omega
  have HV := Hid.intro' H.rw.rv
  have hr := H.rb.lt
  clear hn H hca hL
  have hE1 : RW (w.alloc (.cells #[] 35)) w.heap.size (.slice (some ⟨w.heap.size, 0, none⟩) 0 0) [] := World.ownsRow_made w #[] 0 (Nat.le_refl _) (Nat.zero_le _) (by simp)
  have HE1 := Hid.intro' (hE1.alloc (.cells #[] 35))
  have HE2 : Hid (RW ((w.alloc (.cells #[] 35)).alloc (.cells #[] 35)) w.heap.size (.slice (some ⟨w.heap.size + 1, 0, none⟩) 0 0) []) := by
    have := World.ownsRow_made (base := w.heap.size) (e := 35) (size := 4) (w.alloc (.cells #[] 35)) #[] 0 (by simp) (Nat.zero_le _) (by simp)
    rw [World.size_alloc] at this
    exact this
  have HB0 := Hid.intro' (((Below.refl w.heap.size w).alloc (Nat.le_refl _) (.cells #[] 35)).alloc (by simp) (.cells #[] 35))
  clear hE1
  obtain ⟨p, hp⟩ : ∃ p, p = KM.srv car floor true false := ⟨_, rfl⟩
  have HP := Hid.intro' hp
  rw [← hp]
  clear hp
  go_enter Try.func17, Try.ntmps17
  go_wp2
  go_loopw [11, 12, 13, 14, 15] (fun s1 s2 i _ _ wr => ∃ k : Nat, k ≤ n ∧ i = .int .i64 k ∧ Hid (RW wr w.heap.size s1 ((L.take k).filter p)) ∧ Hid (RW wr w.heap.size s2 ((L.take k).filter fun c => !p c)) ∧ Hid (s1.ownBlock ≠ none ∧ s2.ownBlock ≠ none ∧ s1.ownBlock ≠ s2.ownBlock) ∧ Hid (Below w.heap.size w wr)) (fun _ _ i _ _ _ => n - (intOf i).toNat)
  case atStart => exact ⟨0, Nat.zero_le _, rfl, HE1, HE2, (by show some _ ≠ none ∧ some _ ≠ none ∧ some _ ≠ some _; simp), HB0⟩
  case round =>
    obtain ⟨k, hk, rfl, HR1, HR2, HNE, HBr⟩ := hrel
    have cv := (HB.out.rb.below' HBr.out).cv
    by_cases hlt : k < n
    · have hkz : (k : Int) < (n : Int) := by omega
      obtain ⟨y, hy⟩ : ∃ y, L[k]? = some y := ⟨_, List.getElem?_eq_getElem (by have := HN.out; omega)⟩
      obtain ⟨g1, o1, e1, p0, p1, p2, p3⟩ := (HV.out.below' HBr.out).at hy
      have i1 := fun W => ixK W (cap := c1) e1 hlt
      have hyc := HCA.out y (List.mem_of_getElem? hy)
      have HY := Hid.intro' hy
      have hsz := HBr.out.size
      clear e1 hy
      obtain ⟨yf, ya, yg, yu⟩ := y
      have hm1 : ((L.take k).filter p).length ≤ 1000 := Nat.le_trans (List.length_filter_le _ _) (by rw [List.length_take]; omega)
      have hm2 : ((L.take k).filter fun c => !p c).length ≤ 1000 := Nat.le_trans (List.length_filter_le _ _) (by rw [List.length_take]; omega)
      cases yu
      · have HR1a := Hid.intro' (HR1.out.alloc (.cells #[.int .i64 yf, .int .i64 ya, .int .i64 yg, .bool false] 35))
        have HR2a := Hid.intro' (HR2.out.alloc (.cells #[.int .i64 yf, .int .i64 ya, .int .i64 yg, .bool false] 35))
        have HBa := Hid.intro' (HBr.out.alloc hsz (.cells #[.int .i64 yf, .int .i64 ya, .int .i64 yg, .bool false] 35))
        have HC2 : Hid (CB ((wr.alloc (.cells #[.int .i64 yf, .int .i64 ya, .int .i64 yg, .bool false] 35)).alloc (.cells #[.int .i64 yf, .int .i64 ya, .int .i64 yg, .bool false] 35)) (wr.heap.size + 1) ⟨yf, ya, yg, false⟩) := by
          have := CB.new (wr.alloc (.cells #[.int .i64 yf, .int .i64 ya, .int .i64 yg, .bool false] 35)) ⟨yf, ya, yg, false⟩
          rw [World.size_alloc] at this
          exact this
        cases h1 : (yf == floor)
        · go_wp2_with (at_builtin; refine wpList_appendK rfl (.tmp 75) (.tmp 77) rfl w.heap.size (y := ⟨yf, ya, yg, false⟩) rfl (HR2a.out.alloc _) hm2 rfl HC2.out (by simp; omega) ?_; intro g' cap' W3 hr3 hg3 hat3)
          go_roundw
          case rel =>
            have hpy : p ⟨yf, ya, yg, false⟩ = false := by rw [HP.out, ← srv_ref hyc]; simp [h1]
            have h2r := two_rows (HR1a.out.alloc _) ⟨HNE.out.2.1, HNE.out.1, fun e => HNE.out.2.2 e.symm⟩ hr3 hg3 hat3
            refine ⟨k + 1, by omega, by go_num, (show Hid _ from ?_), (show Hid _ from ?_), ⟨h2r.2.2.1, h2r.2.1, fun e => h2r.2.2.2 e.symm⟩, (HBa.out.alloc HBa.out.size _).grown hg3 (by simp; omega) (fun k hk => (HR2a.out.lt k hk).1)⟩
            · rw [take_get HY.out, List.filter_append, List.filter_cons_of_neg (by simp [hpy]), List.filter_nil, List.append_nil]
              exact h2r.1
            · rw [take_get HY.out, List.filter_append, List.filter_cons_of_pos (by simp [hpy])]
              exact hr3
          case measure => simp [intOf]; omega
        · cases h4 : decide (ya < 0)
          · cases h2 : (ya == car)
            · go_wp2_with (at_builtin; refine wpList_appendK rfl (.tmp 75) (.tmp 77) rfl w.heap.size (y := ⟨yf, ya, yg, false⟩) rfl (HR2a.out.alloc _) hm2 rfl HC2.out (by simp; omega) ?_; intro g' cap' W3 hr3 hg3 hat3)
              go_roundw
              case rel =>
                have hpy : p ⟨yf, ya, yg, false⟩ = false := by rw [HP.out, ← srv_ref hyc]; simp [h2, h4]
                have h2r := two_rows (HR1a.out.alloc _) ⟨HNE.out.2.1, HNE.out.1, fun e => HNE.out.2.2 e.symm⟩ hr3 hg3 hat3
                refine ⟨k + 1, by omega, by go_num, (show Hid _ from ?_), (show Hid _ from ?_), ⟨h2r.2.2.1, h2r.2.1, fun e => h2r.2.2.2 e.symm⟩, (HBa.out.alloc HBa.out.size _).grown hg3 (by simp; omega) (fun k hk => (HR2a.out.lt k hk).1)⟩
                · rw [take_get HY.out, List.filter_append, List.filter_cons_of_neg (by simp [hpy]), List.filter_nil, List.append_nil]
                  exact h2r.1
                · rw [take_get HY.out, List.filter_append, List.filter_cons_of_pos (by simp [hpy])]
                  exact hr3
              case measure => simp [intOf]; omega
            · have hce : ya = car := by simpa using h2
              have h4' : ¬ ya < 0 := by simpa using h4
              have h3 : decide (0 ≤ car) = true := by simp; omega
              have h3i : 0 ≤ car := by omega
              clear hce h4'
              go_wp2_with (at_builtin; refine wpList_appendK rfl (.tmp 71) (.tmp 73) rfl w.heap.size (y := ⟨yf, ya, yg, false⟩) rfl (HR1a.out.alloc _) hm1 rfl HC2.out (by simp; omega) ?_; intro g' cap' W3 hr3 hg3 hat3)
              go_roundw
              case rel =>
                have hpy : p ⟨yf, ya, yg, false⟩ = true := by rw [HP.out, ← srv_ref hyc]; simp [h1, h2, h3, h4]
                have h2r := two_rows (HR2a.out.alloc _) HNE.out hr3 hg3 hat3
                refine ⟨k + 1, by omega, by go_num, (show Hid _ from ?_), (show Hid _ from ?_), h2r.2, (HBa.out.alloc HBa.out.size _).grown hg3 (by simp; omega) (fun k hk => (HR1a.out.lt k hk).1)⟩
                · rw [take_get HY.out, List.filter_append, List.filter_cons_of_pos hpy]
                  exact hr3
                · rw [take_get HY.out, List.filter_append, List.filter_cons_of_neg (by simp [hpy]), List.filter_nil, List.append_nil]
                  exact h2r.1
              case measure => simp [intOf]; omega
          · have h4' : ya < 0 := by simpa using h4
            cases h2 : (ya == car)
            · clear h4'
              go_wp2_with (at_builtin; refine wpList_appendK rfl (.tmp 75) (.tmp 77) rfl w.heap.size (y := ⟨yf, ya, yg, false⟩) rfl (HR2a.out.alloc _) hm2 rfl HC2.out (by simp; omega) ?_; intro g' cap' W3 hr3 hg3 hat3)
              go_roundw
              case rel =>
                have hpy : p ⟨yf, ya, yg, false⟩ = false := by rw [HP.out, ← srv_ref hyc]; simp [h1, h4]
                have h2r := two_rows (HR1a.out.alloc _) ⟨HNE.out.2.1, HNE.out.1, fun e => HNE.out.2.2 e.symm⟩ hr3 hg3 hat3
                refine ⟨k + 1, by omega, by go_num, (show Hid _ from ?_), (show Hid _ from ?_), ⟨h2r.2.2.1, h2r.2.1, fun e => h2r.2.2.2 e.symm⟩, (HBa.out.alloc HBa.out.size _).grown hg3 (by simp; omega) (fun k hk => (HR2a.out.lt k hk).1)⟩
                · rw [take_get HY.out, List.filter_append, List.filter_cons_of_neg (by simp [hpy]), List.filter_nil, List.append_nil]
                  exact h2r.1
                · rw [take_get HY.out, List.filter_append, List.filter_cons_of_pos (by simp [hpy])]
                  exact hr3
              case measure => simp [intOf]; omega
            · have hce : ya = car := by simpa using h2
              have h3 : decide (0 ≤ car) = false := by simp; omega
              have h3i : ¬ 0 ≤ car := by omega
              clear hce h4'
              go_wp2_with (at_builtin; refine wpList_appendK rfl (.tmp 75) (.tmp 77) rfl w.heap.size (y := ⟨yf, ya, yg, false⟩) rfl (HR2a.out.alloc _) hm2 rfl HC2.out (by simp; omega) ?_; intro g' cap' W3 hr3 hg3 hat3)
              go_roundw
              case rel =>
                have hpy : p ⟨yf, ya, yg, false⟩ = false := by rw [HP.out, ← srv_ref hyc]; simp [h1, h4]
                have h2r := two_rows (HR1a.out.alloc _) ⟨HNE.out.2.1, HNE.out.1, fun e => HNE.out.2.2 e.symm⟩ hr3 hg3 hat3
                refine ⟨k + 1, by omega, by go_num, (show Hid _ from ?_), (show Hid _ from ?_), ⟨h2r.2.2.1, h2r.2.1, fun e => h2r.2.2.2 e.symm⟩, (HBa.out.alloc HBa.out.size _).grown hg3 (by simp; omega) (fun k hk => (HR2a.out.lt k hk).1)⟩
                · rw [take_get HY.out, List.filter_append, List.filter_cons_of_neg (by simp [hpy]), List.filter_nil, List.append_nil]
                  exact h2r.1
                · rw [take_get HY.out, List.filter_append, List.filter_cons_of_pos (by simp [hpy])]
                  exact hr3
              case measure => simp [intOf]; omega
      · have HR1a := Hid.intro' (HR1.out.alloc (.cells #[.int .i64 yf, .int .i64 ya, .int .i64 yg, .bool true] 35))
        have HR2a := Hid.intro' (HR2.out.alloc (.cells #[.int .i64 yf, .int .i64 ya, .int .i64 yg, .bool true] 35))
        have HBa := Hid.intro' (HBr.out.alloc hsz (.cells #[.int .i64 yf, .int .i64 ya, .int .i64 yg, .bool true] 35))
        have HC2 : Hid (CB ((wr.alloc (.cells #[.int .i64 yf, .int .i64 ya, .int .i64 yg, .bool true] 35)).alloc (.cells #[.int .i64 yf, .int .i64 ya, .int .i64 yg, .bool true] 35)) (wr.heap.size + 1) ⟨yf, ya, yg, true⟩) := by
          have := CB.new (wr.alloc (.cells #[.int .i64 yf, .int .i64 ya, .int .i64 yg, .bool true] 35)) ⟨yf, ya, yg, true⟩
          rw [World.size_alloc] at this
          exact this
        cases h1 : (yf == floor)
        · go_wp2_with (at_builtin; refine wpList_appendK rfl (.tmp 75) (.tmp 77) rfl w.heap.size (y := ⟨yf, ya, yg, true⟩) rfl (HR2a.out.alloc _) hm2 rfl HC2.out (by simp; omega) ?_; intro g' cap' W3 hr3 hg3 hat3)
          go_roundw
          case rel =>
            have hpy : p ⟨yf, ya, yg, true⟩ = false := by rw [HP.out, ← srv_ref hyc]; simp [h1]
            have h2r := two_rows (HR1a.out.alloc _) ⟨HNE.out.2.1, HNE.out.1, fun e => HNE.out.2.2 e.symm⟩ hr3 hg3 hat3
            refine ⟨k + 1, by omega, by go_num, (show Hid _ from ?_), (show Hid _ from ?_), ⟨h2r.2.2.1, h2r.2.1, fun e => h2r.2.2.2 e.symm⟩, (HBa.out.alloc HBa.out.size _).grown hg3 (by simp; omega) (fun k hk => (HR2a.out.lt k hk).1)⟩
            · rw [take_get HY.out, List.filter_append, List.filter_cons_of_neg (by simp [hpy]), List.filter_nil, List.append_nil]
              exact h2r.1
            · rw [take_get HY.out, List.filter_append, List.filter_cons_of_pos (by simp [hpy])]
              exact hr3
          case measure => simp [intOf]; omega
        · cases h4 : decide (ya < 0)
          · cases h2 : (ya == car)
            · go_wp2_with (at_builtin; refine wpList_appendK rfl (.tmp 75) (.tmp 77) rfl w.heap.size (y := ⟨yf, ya, yg, true⟩) rfl (HR2a.out.alloc _) hm2 rfl HC2.out (by simp; omega) ?_; intro g' cap' W3 hr3 hg3 hat3)
              go_roundw
              case rel =>
                have hpy : p ⟨yf, ya, yg, true⟩ = false := by rw [HP.out, ← srv_ref hyc]; simp [h2, h4]
                have h2r := two_rows (HR1a.out.alloc _) ⟨HNE.out.2.1, HNE.out.1, fun e => HNE.out.2.2 e.symm⟩ hr3 hg3 hat3
                refine ⟨k + 1, by omega, by go_num, (show Hid _ from ?_), (show Hid _ from ?_), ⟨h2r.2.2.1, h2r.2.1, fun e => h2r.2.2.2 e.symm⟩, (HBa.out.alloc HBa.out.size _).grown hg3 (by simp; omega) (fun k hk => (HR2a.out.lt k hk).1)⟩
                · rw [take_get HY.out, List.filter_append, List.filter_cons_of_neg (by simp [hpy]), List.filter_nil, List.append_nil]
                  exact h2r.1
                · rw [take_get HY.out, List.filter_append, List.filter_cons_of_pos (by simp [hpy])]
                  exact hr3
              case measure => simp [intOf]; omega
            · have hce : ya = car := by simpa using h2
              have h4' : ¬ ya < 0 := by simpa using h4
              have h3 : decide (0 ≤ car) = true := by simp; omega
              have h3i : 0 ≤ car := by omega
              clear hce h4'
              go_wp2_with (at_builtin; refine wpList_appendK rfl (.tmp 71) (.tmp 73) rfl w.heap.size (y := ⟨yf, ya, yg, true⟩) rfl (HR1a.out.alloc _) hm1 rfl HC2.out (by simp; omega) ?_; intro g' cap' W3 hr3 hg3 hat3)
              go_roundw
              case rel =>
                have hpy : p ⟨yf, ya, yg, true⟩ = true := by rw [HP.out, ← srv_ref hyc]; simp [h1, h2, h3, h4]
                have h2r := two_rows (HR2a.out.alloc _) HNE.out hr3 hg3 hat3
                refine ⟨k + 1, by omega, by go_num, (show Hid _ from ?_), (show Hid _ from ?_), h2r.2, (HBa.out.alloc HBa.out.size _).grown hg3 (by simp; omega) (fun k hk => (HR1a.out.lt k hk).1)⟩
                · rw [take_get HY.out, List.filter_append, List.filter_cons_of_pos hpy]
                  exact hr3
                · rw [take_get HY.out, List.filter_append, List.filter_cons_of_neg (by simp [hpy]), List.filter_nil, List.append_nil]
                  exact h2r.1
              case measure => simp [intOf]; omega
          · have h4' : ya < 0 := by simpa using h4
            cases h2 : (ya == car)
            · clear h4'
              go_wp2_with (at_builtin; refine wpList_appendK rfl (.tmp 71) (.tmp 73) rfl w.heap.size (y := ⟨yf, ya, yg, true⟩) rfl (HR1a.out.alloc _) hm1 rfl HC2.out (by simp; omega) ?_; intro g' cap' W3 hr3 hg3 hat3)
              go_roundw
              case rel =>
                have hpy : p ⟨yf, ya, yg, true⟩ = true := by rw [HP.out, ← srv_ref hyc]; simp [h1, h4]
                have h2r := two_rows (HR2a.out.alloc _) HNE.out hr3 hg3 hat3
                refine ⟨k + 1, by omega, by go_num, (show Hid _ from ?_), (show Hid _ from ?_), h2r.2, (HBa.out.alloc HBa.out.size _).grown hg3 (by simp; omega) (fun k hk => (HR1a.out.lt k hk).1)⟩
                · rw [take_get HY.out, List.filter_append, List.filter_cons_of_pos hpy]
                  exact hr3
                · rw [take_get HY.out, List.filter_append, List.filter_cons_of_neg (by simp [hpy]), List.filter_nil, List.append_nil]
                  exact h2r.1
              case measure => simp [intOf]; omega
            · have hce : ya = car := by simpa using h2
              have h3 : decide (0 ≤ car) = false := by simp; omega
              have h3i : ¬ 0 ≤ car := by omega
              clear hce h4'
              go_wp2_with (at_builtin; refine wpList_appendK rfl (.tmp 71) (.tmp 73) rfl w.heap.size (y := ⟨yf, ya, yg, true⟩) rfl (HR1a.out.alloc _) hm1 rfl HC2.out (by simp; omega) ?_; intro g' cap' W3 hr3 hg3 hat3)
              go_roundw
              case rel =>
                have hpy : p ⟨yf, ya, yg, true⟩ = true := by rw [HP.out, ← srv_ref hyc]; simp [h1, h4]
                have h2r := two_rows (HR2a.out.alloc _) HNE.out hr3 hg3 hat3
                refine ⟨k + 1, by omega, by go_num, (show Hid _ from ?_), (show Hid _ from ?_), h2r.2, (HBa.out.alloc HBa.out.size _).grown hg3 (by simp; omega) (fun k hk => (HR1a.out.lt k hk).1)⟩
                · rw [take_get HY.out, List.filter_append, List.filter_cons_of_pos hpy]
                  exact hr3
                · rw [take_get HY.out, List.filter_append, List.filter_cons_of_neg (by simp [hpy]), List.filter_nil, List.append_nil]
                  exact h2r.1
              case measure => simp [intOf]; omega
    · have hkz : ¬ (k : Int) < (n : Int) := by omega
      have hke : L.take k = L := List.take_of_length_le (by have := HN.out; omega)
      rw [hke] at HR1 HR2
      obtain ⟨a2, n2, cap2, rfl⟩ := HR2.out.slice
      have cf := (HB.out.rb.below' HBr.out).fr 13
      have hsz := HBr.out.size
      clear hke
      go_wp2
      go_ret
      have hne : (Value.slice a2 n2 cap2).ownBlock ≠ some r := fun e => by have := (HR2.out.lt r e).1; omega
      have hne1 : ∀ g, u11.ownBlock = some g → g ≠ r := fun g e h => by have := (HR1.out.lt g e).1; omega
      have hrv := (HR1.out.set (i := 13) (fun e => hne1 r e rfl) (.slice a2 n2 cap2)).rv
      have hBw : B ≤ w.heap.size := by have := HB.out.bb; omega
      have fin : ∃ v', RK (wr.setCell ⟨r, 13, none⟩ (.slice a2 n2 cap2)) B r F C v' t (L.filter fun c => !p c) ∧ Nx w (.slice a1 n c1) v' ∧ Kp (Fp r (.slice a1 n c1)) w (wr.setCell ⟨r, 13, none⟩ (.slice a2 n2 cap2)) :=
        ⟨_, ⟨(HB.out.rb.below' HBr.out).setv _, (HR2.out.set hne _).mono hBw, hne, HB.out.bb⟩, fun k hk => .inr (HR2.out.lt k hk).1, (Kp.ofBelow _ HBr.out).set r 13 _ (fun _ => .inl rfl)⟩
      exact ⟨_, rfl, hrv, fin⟩

end Go.Proofs.Ytiihnjfknohhbad
