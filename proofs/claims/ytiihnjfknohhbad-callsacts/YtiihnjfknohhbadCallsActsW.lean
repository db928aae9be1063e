/- CallsActs: the walk. -/
import Derived.Test.YtiihnjfknohhbadRefA
import Derived.Test.YtiihnjfknohhbadRefS
import Derived.Deep.CutBlock
import Derived.Test.YtiihnjfknohhbadRefP
namespace Go.Proofs.Ytiihnjfknohhbad
open Go.RowKit

theorem SB.all {W : World} {b : Nat} {s : St} (h : SB W b s) : SB W b s ∧ W.cell? ⟨b, 0, none⟩ = some (.int .i64 s.fl) ∧ W.cell? ⟨b, 1, none⟩ = some (.int .i64 s.ca) ∧ W.cell? ⟨b, 2, none⟩ = some (.int .i64 s.sta) ∧ W.cell? ⟨b, 3, none⟩ = some (.int .i64 s.ste) ∧ W.cell? ⟨b, 4, none⟩ = some (.int .i64 s.sto) ∧ W.cell? ⟨b, 5, none⟩ = some (.int .i64 s.opn) ∧ W.cell? ⟨b, 6, none⟩ = some (.int .i64 s.wai) ∧ W.cell? ⟨b, 7, none⟩ = some (.int .i64 s.clo) ∧ W.cell? ⟨b, 8, none⟩ = some (.int .i64 s.nud) ∧ W.cell? ⟨b, 9, none⟩ = some (.int .i64 s.age) ∧ W.cell? ⟨b, 10, none⟩ = some (.int .i64 s.sil) ∧ W.cell? ⟨b, 11, none⟩ = some (.int .i64 s.bud) ∧ W.cell? ⟨b, 12, none⟩ = some (.int .i64 s.per) :=
  ⟨h, h.cell 0, h.cell 1, h.cell 2, h.cell 3, h.cell 4, h.cell 5, h.cell 6, h.cell 7, h.cell 8, h.cell 9, h.cell 10, h.cell 11, h.cell 12⟩

/-- the zero value of the document's book -/
def z33 : Array Value := (List.replicate 13 (Value.int .i64 0) ++ (Value.slice none 0 0 :: List.replicate 64 (Value.bool false))).toArray
set_option maxRecDepth 100000 in
theorem zero33 (W : World) : (zeroValue 33).run Try.prog W = .ok (.agg z33) W := by
  kernel_rfl
theorem size33 : z33.size = 78 := by kernel_rfl
set_option maxRecDepth 100000 in
theorem fill33 (s : St) : (((((((((((((z33.setIfInBounds 0 (.int .i64 s.fl)).setIfInBounds 1 (.int .i64 s.ca)).setIfInBounds 2 (.int .i64 s.sta)).setIfInBounds 3 (.int .i64 s.ste)).setIfInBounds 4 (.int .i64 s.sto)).setIfInBounds 5 (.int .i64 s.opn)).setIfInBounds 6 (.int .i64 s.wai)).setIfInBounds 7 (.int .i64 s.clo)).setIfInBounds 8 (.int .i64 s.nud)).setIfInBounds 9 (.int .i64 s.age)).setIfInBounds 10 (.int .i64 s.sil)).setIfInBounds 11 (.int .i64 s.bud)).setIfInBounds 12 (.int .i64 s.per)) = rb0 s := by
  kernel_rfl

set_option maxRecDepth 100000 in
set_option maxHeartbeats 40000000 in
theorem acts_of (s : St) (ao : Option Addr) (len cap : Nat) (w : World)
    (hact : len = 0 ∨ ∃ b off, ao = some ⟨b, off, none⟩ ∧ ∀ w', Below w.heap.size w w' → ∀ i, i < len → ∃ (x : Int) (c : Cl) (y : Bool), w'.cell? ⟨b, off + i * 6, none⟩ = some (.int .i64 x) ∧ w'.cell? ⟨b, off + i * 6 + 1, none⟩ = some (.int .i64 c.fl) ∧ w'.cell? ⟨b, off + i * 6 + 2, none⟩ = some (.int .i64 c.ca) ∧ w'.cell? ⟨b, off + i * 6 + 3, none⟩ = some (.int .i64 c.ag) ∧ w'.cell? ⟨b, off + i * 6 + 4, none⟩ = some (.bool c.up) ∧ w'.cell? ⟨b, off + i * 6 + 5, none⟩ = some (.bool y)) :
    Calls Try.prog 3 #[.agg (sv s).toArray, .slice ao len cap] w fun e w' => e = .returned (.bool true) ∧ Below w.heap.size w w' := by
  have HA := Hid.intro' hact
  clear hact
  have HS0 := Hid.intro' (SB.new w s)
  have HB0 := Hid.intro' ((Below.refl w.heap.size w).alloc (Nat.le_refl _) (.cells (sv s).toArray 23))
  go_enter Try.func3, Try.ntmps3
  go_wp2_with fail
  refine (speaks_any _).mono ?_
  rintro e W1 ⟨rfl, hb1⟩
  have HS1 := Hid.intro' (HS0.out.below' hb1)
  have HB1 := Hid.intro' (below_class HB0.out hb1)
  clear HS0 HB0 hb1
  by_cases R : SM.Rt s
  · go_wp2_with (refine wpList_load23 rfl _ rfl w.heap.size s rfl HS1.out ?_)
    refine (rright_t s R _).mono ?_
    rintro e W2 ⟨rfl, hb2⟩
    have HS2 := Hid.intro' (HS1.out.below' hb2)
    have HB2 := Hid.intro' (below_class HB1.out hb2)
    clear hb2 HB1 HS1
    by_cases hl : 400 < len
    · have hl' : (400 : Int) < (len : Int) := by omega
      go_wp2
      go_ret
      exact ⟨rfl, HB2.out⟩
    · have hl' : (len : Int) ≤ 400 := by omega
      have hl2 : decide ((400 : Int) < (len : Int)) = false := by simp; omega
      go_wp2_with fail
      clear hl2
      go_cut [5, 6] (fun s5 s6 W3 => ∃ b r, s5 = .pointer (some ⟨b, 0, none⟩) ∧ s6 = .pointer (some ⟨r, 0, none⟩) ∧ Hid (Tb w W3 b r s.fl s.ca (.slice none 0 0) (.slice none 0 0) 0 []))
      case first =>
        have hs := HS2.out.below' (Below.refl W2.heap.size W2).drew
        have hz33 := zero33
        have hs33 := size33
        have hf33 := fill33 s
        go_region_held3 (fun w' => SB w' w.heap.size s ∧ w'.cell? ⟨w.heap.size, 0, none⟩ = some (.int .i64 s.fl) ∧ w'.cell? ⟨w.heap.size, 1, none⟩ = some (.int .i64 s.ca) ∧ w'.cell? ⟨w.heap.size, 2, none⟩ = some (.int .i64 s.sta) ∧ w'.cell? ⟨w.heap.size, 3, none⟩ = some (.int .i64 s.ste) ∧ w'.cell? ⟨w.heap.size, 4, none⟩ = some (.int .i64 s.sto) ∧ w'.cell? ⟨w.heap.size, 5, none⟩ = some (.int .i64 s.opn) ∧ w'.cell? ⟨w.heap.size, 6, none⟩ = some (.int .i64 s.wai) ∧ w'.cell? ⟨w.heap.size, 7, none⟩ = some (.int .i64 s.clo) ∧ w'.cell? ⟨w.heap.size, 8, none⟩ = some (.int .i64 s.nud) ∧ w'.cell? ⟨w.heap.size, 9, none⟩ = some (.int .i64 s.age) ∧ w'.cell? ⟨w.heap.size, 10, none⟩ = some (.int .i64 s.sil) ∧ w'.cell? ⟨w.heap.size, 11, none⟩ = some (.int .i64 s.bud) ∧ w'.cell? ⟨w.heap.size, 12, none⟩ = some (.int .i64 s.per)) (first | exact SB.all hs | exact SB.all (hs.below' hb8) | exact SB.all (hs.alloc _) | exact SB.all ((hs.below' hb8).alloc _) | exact SB.all ((hs.alloc _).below' hb8)) (first | (go_at_call 8; refine (new_any _ s.fl s.ca rfl rfl _).mono ?_; rintro e W8 ⟨b, rfl, hbn, hb8, hpb⟩))
        all_goals
          go_wp2
          go_meet
          case rel => first | exact ⟨b, _, rfl, rfl, tb1 HB2.out.drew hb8 hbn hpb⟩ | exact ⟨b, _, rfl, rfl, tb2 (W2 := W2.drew) HB2.out.drew hb8 hbn hpb⟩
      case rest =>
        obtain ⟨b, r, rfl, rfl, HT3⟩ := hcut
        clear HS2 HB2
        go_wp2
        go_loopw [37] (fun i wr => ∃ (k : Nat) (v u : Value) (t : Nat) (L : List Cl), k ≤ len ∧ i = .int .i64 k ∧ Hid (Tb w wr b r s.fl s.ca v u t L) ∧ Hid (KM.Gd s.fl s.ca k L)) (fun i _ => len - (intOf i).toNat)
        case atStart => exact ⟨0, _, _, 0, [], Nat.zero_le _, rfl, HT3, KM.Gd.nil _ _ _⟩
        case round =>
          obtain ⟨k, v, u, t, L, hk, rfl, HT, HG⟩ := hrel
          by_cases hlt : k < len
          · have hkz : (k : Int) < (len : Int) := by omega
            rcases HA.out with h0 | ⟨aa, off, hao, hcells⟩
            · omega
            obtain ⟨x, c, y, d0, d1, d2, d3, d4, d5⟩ := hcells wr HT.out.bel k hlt
            have hix := fun W => ixA W (cap := cap) hao hlt
            clear hcells hao
            have HA5 := Hid.intro' (HT.out.begin x c y)
            have e0 := HA5.out.ac.c0
            have hL := HG.out.len
            go_upto_block 2 with (fail)
            generalize wr.heap.size = A0 at HA5 e0 ⊢
            generalize (wr.alloc (.cells #[.int .i64 x, .int .i64 c.fl, .int .i64 c.ca, .int .i64 c.ag, .bool c.up, .bool y] 37)).alloc (.cells #[.int .i64 c.fl, .int .i64 c.ca, .int .i64 c.ag, .bool c.up] 35) = W5 at HA5 e0 ⊢
            go_cut [] (fun W => ∃ (vm um : Value) (tm : Nat) (Lm : List Cl), Hid (Ta w W b r s.fl s.ca vm um tm tm Lm Lm A0 (A0 + 1) x c y) ∧ Hid (KM.Gd s.fl s.ca ((k + 1 : Nat) : Int) Lm))
            case first =>
              by_cases h0 : x = 0
              · as_aux_lemma =>
                  have b0 : (x == 0) = true := by simpa using h0
                  clear h0
                  go_wp2_with fail
                  clear e0
                  have hm := HA5.out.drew
                  go_region_held3 (fun w' => w'.cell? ⟨A0 + 1, 0, none⟩ = some (.int .i64 c.fl) ∧ w'.cell? ⟨A0 + 1, 1, none⟩ = some (.int .i64 c.ca) ∧ w'.cell? ⟨A0 + 1, 2, none⟩ = some (.int .i64 c.ag) ∧ w'.cell? ⟨A0 + 1, 3, none⟩ = some (.bool c.up) ∧ w'.cell? ⟨A0, 5, none⟩ = some (.bool y)) (first | exact Ta.all hm | exact Ta.all hm1 | exact Ta.all hm2) (first | (go_at_call 9; refine (press_any _ b s.fl s.ca v t L c _ hm.th.bk hL R.fl1 R.fl2).mono ?_; rintro e W6 ⟨rfl, v6, hk6, hn6, kp6⟩; have hm1 := Ta.ours hm hk6 hn6 kp6; clear hm) | (go_at_call 10; refine (rpress_any _ r s.fl s.ca u t L c _ hm1.th.rk hL R.fl1 R.fl2).mono ?_; rintro e W7 ⟨rfl, u7, hk7, hn7, kp7⟩; have hm2 := Ta.theirs hm1 hk7 hn7 kp7; clear hm1))
                  obtain ⟨vm, um, tm, Lm, HM, HGm⟩ : ∃ (vm um : Value) (tm : Nat) (Lm : List Cl), Hid (Ta w W7 b r s.fl s.ca vm um tm tm Lm Lm A0 (A0 + 1) x c y) ∧ Hid (KM.Gd s.fl s.ca ((k + 1 : Nat) : Int) Lm) :=
                    ⟨v6, u7, t, _, hm2, (HG.out.up (by omega)).put (by omega) _ c⟩
                  clear hm2 hk6 hn6 kp6 hk7 hn7 kp7 HA5 HG
                  go_wp2
                  go_meet
                  case rel => exact ⟨vm, um, tm, Lm, HM, HGm⟩
              · by_cases h1 : x = 1
                · as_aux_lemma =>
                    have b0 : (x == 0) = false := by simpa using h0
                    have b1 : (x == 1) = true := by simpa using h1
                    clear h0 h1
                    go_wp2_with fail
                    clear e0
                    have hm := HA5.out.drew
                    go_region_held3 (fun w' => w'.cell? ⟨A0 + 1, 0, none⟩ = some (.int .i64 c.fl) ∧ w'.cell? ⟨A0 + 1, 1, none⟩ = some (.int .i64 c.ca) ∧ w'.cell? ⟨A0 + 1, 2, none⟩ = some (.int .i64 c.ag) ∧ w'.cell? ⟨A0 + 1, 3, none⟩ = some (.bool c.up) ∧ w'.cell? ⟨A0, 5, none⟩ = some (.bool y)) (first | exact Ta.all hm | exact Ta.all hm1 | exact Ta.all hm2) (first | (go_at_call 11; refine (bar_any _ b s.fl s.ca v t L c.fl c.up _ hm.th.bk).mono ?_; rintro e W6 ⟨rfl, hk6, kp6⟩; have hm1 := Ta.ours hm hk6 (Nx.refl _ _) kp6; clear hm) | (go_at_call 12; refine (rbar_any _ r s.fl s.ca u t L c.fl c.up _ hm1.th.rk R.fl2).mono ?_; rintro e W7 ⟨rfl, hk7, kp7⟩; have hm2 := Ta.theirs hm1 hk7 (Nx.refl _ _) kp7; clear hm1))
                    obtain ⟨vm, um, tm, Lm, HM, HGm⟩ : ∃ (vm um : Value) (tm : Nat) (Lm : List Cl), Hid (Ta w W7 b r s.fl s.ca vm um tm tm Lm Lm A0 (A0 + 1) x c y) ∧ Hid (KM.Gd s.fl s.ca ((k + 1 : Nat) : Int) Lm) :=
                      ⟨v, u, _, L, hm2, HG.out.up (by omega)⟩
                    clear hm2 hk6 kp6 hk7 kp7 HA5 HG
                    go_wp2
                    go_meet
                    case rel => exact ⟨vm, um, tm, Lm, HM, HGm⟩
                · by_cases h2 : x = 2
                  · as_aux_lemma =>
                      have b0 : (x == 0) = false := by simpa using h0
                      have b1 : (x == 1) = false := by simpa using h1
                      have b2 : (x == 2) = true := by simpa using h2
                      clear h0 h1 h2
                      go_wp2_with fail
                      clear e0
                      refine (tick_any _ b s.fl s.ca k v t L _ HA5.out.th.bk HG.out (by omega)).mono ?_
                      rintro e W6 ⟨rfl, hk6, kp6⟩
                      have HA6 := Hid.intro' (HA5.out.ours hk6 (Nx.refl _ _) kp6)
                      clear hk6 kp6 HA5
                      go_wp2_with fail
                      refine (rtick_any _ r s.fl s.ca u t L _ HA6.out.th.rk hL (fun z hz => ⟨(HG.out.age z hz).1, by have := (HG.out.age z hz).2; omega⟩)).mono ?_
                      rintro e W7 ⟨rfl, u7, hk7, hn7, kp7⟩
                      obtain ⟨vm, um, tm, Lm, HM, HGm⟩ : ∃ (vm um : Value) (tm : Nat) (Lm : List Cl), Hid (Ta w W7 b r s.fl s.ca vm um tm tm Lm Lm A0 (A0 + 1) x c y) ∧ Hid (KM.Gd s.fl s.ca ((k + 1 : Nat) : Int) Lm) :=
                        ⟨v, u7, t, _, HA6.out.theirs hk7 hn7 kp7, HG.out.tick (by omega)⟩
                      clear hk7 hn7 kp7 HA6 HG
                      go_wp2
                      go_meet
                      case rel => exact ⟨vm, um, tm, Lm, HM, HGm⟩
                  · as_aux_lemma =>
                      have b0 : (x == 0) = false := by simpa using h0
                      have b1 : (x == 1) = false := by simpa using h1
                      have b2 : (x == 2) = false := by simpa using h2
                      clear h0 h1 h2
                      go_wp2_with fail
                      clear e0
                      have hm := HA5.out.drew
                      go_region_held3 (fun w' => w'.cell? ⟨A0 + 1, 0, none⟩ = some (.int .i64 c.fl) ∧ w'.cell? ⟨A0 + 1, 1, none⟩ = some (.int .i64 c.ca) ∧ w'.cell? ⟨A0 + 1, 2, none⟩ = some (.int .i64 c.ag) ∧ w'.cell? ⟨A0 + 1, 3, none⟩ = some (.bool c.up) ∧ w'.cell? ⟨A0, 5, none⟩ = some (.bool y)) (first | exact Ta.all hm | exact Ta.all hm1 | exact Ta.all hm2 | exact Ta.all hm3) (first | (go_at_call 16; refine (serve_any _ b s.fl s.ca v t L c.ca c.fl c.up y _ hm.th.bk hL).mono ?_; rintro e W6 ⟨vo, v6, rfl, ho6, hk6, hx6, kp6⟩; have hm1 := Ta.ours hm hk6 (Nx.same hx6) kp6) | (go_at_call 17; refine (rserve_any _ r s.fl s.ca u t L c.ca c.fl c.up y _ hm1.th.rk hL (fun z hz => (HG.out.rng z hz).2.2.1)).mono ?_; rintro e W7 ⟨uo, u7, rfl, ho7, hk7, hn7, kp7⟩; have ho67 := ho6.kp kp7 (fun g hg hF => by have h1 := (ho6.lt g hg).1; have h2 := (hm.th.rk.lo g hF).2; omega); have hm2 := Ta.theirs hm1 hk7 hn7 kp7) | (go_at_call 15; refine (same_any _ _ _ _ ho67.rv ho7 (Nat.le_trans (List.length_filter_le _ _) hL)).mono ?_; rintro e W8 ⟨rfl, hb8⟩; have hm3 := hm2.next hb8))
                      obtain ⟨vm, um, tm, Lm, HM, HGm⟩ : ∃ (vm um : Value) (tm : Nat) (Lm : List Cl), Hid (Ta w W8 b r s.fl s.ca vm um tm tm Lm Lm A0 (A0 + 1) x c y) ∧ Hid (KM.Gd s.fl s.ca ((k + 1 : Nat) : Int) Lm) :=
                        ⟨v6, u7, t, _, hm3, (HG.out.filter _).up (by omega)⟩
                      clear hm hm1 hm2 hm3 ho6 ho7 ho67 hk6 hx6 kp6 hk7 hn7 kp7 hb8 HA5 HG
                      go_wp2
                      go_meet
                      case rel => exact ⟨vm, um, tm, Lm, HM, HGm⟩
            case rest =>
              as_aux_lemma =>
                obtain ⟨vm, um, tm, Lm, HM, HGm⟩ := hcut
                clear HA5 e0 HT HG
                obtain ⟨ua, un, uc, hum⟩ := HM.out.th.rk.rw.slice
                subst hum
                have hun := HM.out.th.rk.rw.len
                have HUN := Hid.intro' hun
                have hun2 : un ≤ 128 := by have := HGm.out.len; omega
                clear hun
                go_wp2_with fail
                refine (all_any _ _ _ _ _ _ _ _ HM.out.th.bk HGm.out.len).mono ?_
                rintro e Wn ⟨vn, rfl, hrn, hbn⟩
                have HMn := Hid.intro' (HM.out.next hbn)
                have HNn := Hid.intro' hrn.rv
                obtain ⟨an, nn, capn, rfl⟩ := hrn.slice
                have cu := HMn.out.th.rk.rb.cv
                clear hrn hbn HM
                go_wp2_with fail
                refine (same_any _ _ Lm _ HNn.out HMn.out.th.rk.rw.rv HGm.out.len).mono ?_
                rintro e Wo ⟨rfl, hbo⟩
                have HMo := Hid.intro' (HMn.out.next hbo)
                clear hbo HMn HNn cu
                have k1 := HMo.out.cl.c1
                go_wp2_with fail
                refine (lamps_any _ b s.fl s.ca vm tm Lm c.ca _ HMo.out.th.bk HGm.out.len).mono ?_
                rintro e Wp ⟨rfl, hbp⟩
                have HMp := Hid.intro' (HMo.out.next hbp)
                clear hbp HMo k1
                have l1 := KM.lamp_lt KM.isU Lm
                have l2 := KM.lamp_lt KM.isD Lm
                have l3 := KM.lamp_lt (KM.isI c.ca) Lm
                have hLU := KM.lamp_bit KM.isU Lm
                have hLD := KM.lamp_bit KM.isD Lm
                have hLI := KM.lamp_bit (KM.isI c.ca) Lm
                generalize KM.lamp KM.isU Lm = LU at l1 hLU ⊢
                generalize KM.lamp KM.isD Lm = LD at l2 hLD ⊢
                generalize KM.lamp (KM.isI c.ca) Lm = LI at l3 hLI ⊢
                have HLU := Hid.intro' hLU
                have HLD := Hid.intro' hLD
                have HLI := Hid.intro' hLI
                clear hLU hLD hLI
                go_wp2
                go_loopw [14] (fun i wr => ∃ f : Nat, f ≤ 64 ∧ i = .int .i64 f ∧ Hid (Ta w wr b r s.fl s.ca vm (.slice ua un uc) tm tm Lm Lm A0 (A0 + 1) x c y)) (fun i _ => 64 - (intOf i).toNat)
                case atStart => exact ⟨0, Nat.zero_le _, rfl, HMp⟩
                case round =>
                  obtain ⟨f, hf, rfl, HMf⟩ := hrel
                  by_cases hflt : f < 64
                  · have hfz : (f : Int) < 64 := by omega
                    have cu := HMf.out.th.rk.rb.cv
                    go_wp2
                    go_loopw [15, 16, 17, 19, 123] (fun s15 s16 s17 _ i wr => ∃ j : Nat, j ≤ un ∧ i = .int .i64 j ∧ s15 = .bool ((Lm.take j).any (KM.qu f)) ∧ s16 = .bool ((Lm.take j).any (KM.qd f)) ∧ s17 = .bool ((Lm.take j).any (KM.qi f c.ca)) ∧ Hid (Ta w wr b r s.fl s.ca vm (.slice ua un uc) tm tm Lm Lm A0 (A0 + 1) x c y)) (fun _ _ _ _ i _ => un - (intOf i).toNat)
                    case atStart => exact ⟨0, Nat.zero_le _, rfl, rfl, rfl, rfl, HMf⟩
                    case round =>
                      obtain ⟨j, hj, rfl, rfl, rfl, rfl, HMj⟩ := hrel
                      by_cases hjlt : j < un
                      · have hjz : (j : Int) < (un : Int) := by omega
                        obtain ⟨z, hz⟩ : ∃ z, Lm[j]? = some z := ⟨_, List.getElem?_eq_getElem (by have := HUN.out; omega)⟩
                        obtain ⟨g1, o1, e1, p0, p1, p2, p3⟩ := HMj.out.th.rk.rw.rv.at hz
                        have i1 := fun W => ixK W (cap := uc) e1 hjlt
                        have aU := any_take (KM.qu f) hz
                        have aD := any_take (KM.qd f) hz
                        have aI := any_take (KM.qi f c.ca) hz
                        generalize (Lm.take j).any (KM.qu f) = U at aU ⊢
                        generalize (Lm.take j).any (KM.qd f) = D at aD ⊢
                        generalize (Lm.take j).any (KM.qi f c.ca) = I at aI ⊢
                        have AU := Hid.intro' aU
                        have AD := Hid.intro' aD
                        have AI := Hid.intro' aI
                        clear e1 hz aU aD aI
                        obtain ⟨zf, za, zg, zu⟩ := z
                        have HMz := Hid.intro' (HMj.out.next ((Below.refl wr.heap.size wr).alloc (Nat.le_refl _) (.cells #[.int .i64 zf, .int .i64 za, .int .i64 zg, .bool zu] 35)))
                        have HCz := Hid.intro' (CB.new wr ⟨zf, za, zg, zu⟩)
                        go_upto_region 33 with (fail)
                        generalize wr.alloc (.cells #[.int .i64 zf, .int .i64 za, .int .i64 zg, .bool zu] 35) = wz at HMz HCz ⊢
                        generalize wr.heap.size = zb at HCz ⊢
                        go_cut [15] (fun s W => ∃ E1 : Bool, s = .bool E1 ∧ Hid (E1 = (U || KM.qu f ⟨zf, za, zg, zu⟩)) ∧ W = wz)
                        case first =>
                          have z0 : wz.cell? ⟨zb, 0, none⟩ = some (.int .i64 zf) := HCz.out.c0
                          have z1 : wz.cell? ⟨zb, 1, none⟩ = some (.int .i64 za) := HCz.out.c1
                          have z3 : wz.cell? ⟨zb, 3, none⟩ = some (.bool zu) := HCz.out.c3
                          cases U
                          · cases h1 : (zf == (f : Int))
                            · go_wp2
                              go_meet
                              case rel => exact ⟨false, rfl, (show Hid _ from by show false = (false || KM.qu f _); simp [KM.qu, h1]), rfl⟩
                            · cases h4 : decide (za < 0)
                              · go_wp2
                                go_meet
                                case rel => exact ⟨false, rfl, (show Hid _ from by show false = (false || KM.qu f _); simp [KM.qu, h4]), rfl⟩
                              · cases zu
                                · go_wp2
                                  go_meet
                                  case rel => exact ⟨false, rfl, (show Hid _ from by show false = (false || KM.qu f _); simp [KM.qu]), rfl⟩
                                · go_wp2
                                  go_meet
                                  case rel => exact ⟨true, rfl, (show Hid _ from by show true = (false || KM.qu f _); simp [KM.qu, h1, h4]), rfl⟩
                          · go_wp2
                            go_meet
                            case rel => exact ⟨true, rfl, (show Hid _ from by show true = (true || _); rfl), rfl⟩
                        case rest =>
                          obtain ⟨E1, rfl, HE1, hwz⟩ := hcut
                          have hwz2 := hwz.symm
                          subst hwz2
                          go_upto_region 34 with (fail)
                          go_cut [16] (fun s W => ∃ E2 : Bool, s = .bool E2 ∧ Hid (E2 = (D || KM.qd f ⟨zf, za, zg, zu⟩)) ∧ W = wz)
                          case first =>
                            have z0 : wz.cell? ⟨zb, 0, none⟩ = some (.int .i64 zf) := HCz.out.c0
                            have z1 : wz.cell? ⟨zb, 1, none⟩ = some (.int .i64 za) := HCz.out.c1
                            have z3 : wz.cell? ⟨zb, 3, none⟩ = some (.bool zu) := HCz.out.c3
                            cases D
                            · cases h1 : (zf == (f : Int))
                              · go_wp2
                                go_meet
                                case rel => exact ⟨false, rfl, (show Hid _ from by show false = (false || KM.qd f _); simp [KM.qd, h1]), rfl⟩
                              · cases h4 : decide (za < 0)
                                · go_wp2
                                  go_meet
                                  case rel => exact ⟨false, rfl, (show Hid _ from by show false = (false || KM.qd f _); simp [KM.qd, h4]), rfl⟩
                                · cases zu
                                  · go_wp2
                                    go_meet
                                    case rel => exact ⟨true, rfl, (show Hid _ from by show true = (false || KM.qd f _); simp [KM.qd, h1, h4]), rfl⟩
                                  · go_wp2
                                    go_meet
                                    case rel => exact ⟨false, rfl, (show Hid _ from by show false = (false || KM.qd f _); simp [KM.qd]), rfl⟩
                            · go_wp2
                              go_meet
                              case rel => exact ⟨true, rfl, (show Hid _ from by show true = (true || _); rfl), rfl⟩
                          case rest =>
                            obtain ⟨E2, rfl, HE2, hwz⟩ := hcut
                            have hwz2 := hwz.symm
                            subst hwz2
                            have z0 : wz.cell? ⟨zb, 0, none⟩ = some (.int .i64 zf) := HCz.out.c0
                            have z1 : wz.cell? ⟨zb, 1, none⟩ = some (.int .i64 za) := HCz.out.c1
                            have kc := HMz.out.cl.c1
                            cases I
                            · cases h1 : (zf == (f : Int))
                              · go_wp2
                                go_roundw
                                case rel => exact ⟨j + 1, by omega, by go_num, by rw [AU.out, HE1.out], by rw [AD.out, HE2.out], by rw [AI.out]; simp [KM.qi, h1], HMz⟩
                                case measure => simp [intOf]; omega
                              · cases h5 : decide (0 ≤ za)
                                · go_wp2
                                  go_roundw
                                  case rel => exact ⟨j + 1, by omega, by go_num, by rw [AU.out, HE1.out], by rw [AD.out, HE2.out], by rw [AI.out]; simp [KM.qi, h5], HMz⟩
                                  case measure => simp [intOf]; omega
                                · cases h2 : (za == c.ca)
                                  · go_wp2
                                    go_roundw
                                    case rel => exact ⟨j + 1, by omega, by go_num, by rw [AU.out, HE1.out], by rw [AD.out, HE2.out], by rw [AI.out]; simp [KM.qi, h2], HMz⟩
                                    case measure => simp [intOf]; omega
                                  · go_wp2
                                    go_roundw
                                    case rel => exact ⟨j + 1, by omega, by go_num, by rw [AU.out, HE1.out], by rw [AD.out, HE2.out], by rw [AI.out]; simp [KM.qi, h1, h5, h2], HMz⟩
                                    case measure => simp [intOf]; omega
                            · go_wp2
                              go_roundw
                              case rel => exact ⟨j + 1, by omega, by go_num, by rw [AU.out, HE1.out], by rw [AD.out, HE2.out], by rw [AI.out]; rfl, HMz⟩
                              case measure => simp [intOf]; omega
                      · have hjz : ¬ (j : Int) < (un : Int) := by omega
                        have hjd : decide ((j : Int) < (un : Int)) = false := by simp; omega
                        have hte : Lm.take j = Lm := List.take_of_length_le (by have := HUN.out; omega)
                        have hrn : ∀ z ∈ Lm, -1 ≤ z.ca := fun z hz => (HGm.out.rng z hz).2.2.1
                        rw [hte]
                        have q1 := HLU.out f hflt
                        have q2 := HLD.out f hflt
                        have q3 := HLI.out f hflt
                        rw [qu_lamp hrn] at q1
                        rw [qd_lamp hrn] at q2
                        rw [qi_lamp hrn] at q3
                        generalize Lm.any (KM.qu f) = BU at q1 ⊢
                        generalize Lm.any (KM.qd f) = BD at q2 ⊢
                        generalize Lm.any (KM.qi f c.ca) = BI at q3 ⊢
                        have H1 : Hid (∀ W, Calls Try.prog 20 #[.int .u64 (LU : Int), .int .i64 (f : Int)] W fun e w' => e = .returned (.bool BU) ∧ w' = W) := fun W => by
                          have := has_any LU f W l1
                          rwa [FM.hasN_nat LU f hflt, q1] at this
                        have H2 : Hid (∀ W, Calls Try.prog 20 #[.int .u64 (LD : Int), .int .i64 (f : Int)] W fun e w' => e = .returned (.bool BD) ∧ w' = W) := fun W => by
                          have := has_any LD f W l2
                          rwa [FM.hasN_nat LD f hflt, q2] at this
                        have H3 : Hid (∀ W, Calls Try.prog 20 #[.int .u64 (LI : Int), .int .i64 (f : Int)] W fun e w' => e = .returned (.bool BI) ∧ w' = W) := fun W => by
                          have := has_any LI f W l3
                          rwa [FM.hasN_nat LI f hflt, q3] at this
                        have hts := HMj.out.th.bk.sl
                        have mb := HMj.out.th.rk.rb.cb hflt
                        have q4 := FM.hasN_nat tm f hflt
                        generalize tm.testBit f = BT at mb q4
                        have H4 : Hid (∀ W, Calls Try.prog 20 #[.int .u64 (tm : Int), .int .i64 (f : Int)] W fun e w' => e = .returned (.bool BT) ∧ w' = W) := fun W => by
                          have := has_any tm f W hts
                          rwa [q4] at this
                        clear q1 q2 q3 q4 hte hrn
                        go_wp2_with fail
                        go_quiet ((first | (go_at_call 21; exact Calls.quiet_of_same (barred_any _ _ _ _ _ _ _ _ (HMj.out.drewN _).th.bk)) | (go_at_call_of 20 LU; exact Calls.quiet_of_same (H1.out _)) | (go_at_call_of 20 LD; exact Calls.quiet_of_same (H2.out _)) | (go_at_call_of 20 LI; exact Calls.quiet_of_same (H3.out _)) | (go_at_call_of 20 tm; exact Calls.quiet_of_same (H4.out _))))
                        have HMq := Hid.intro' (HMj.out.drewN nq)
                        clear mb HMj H1 H2 H3 H4
                        generalize wr.drewN nq = wq at HMq ⊢
                        go_wp2
                        go_roundw
                        case rel => exact ⟨f + 1, by omega, by go_num, HMq⟩
                        case measure => simp [intOf]; omega
                  · have hfz : ¬ (f : Int) < 64 := by omega
                    have hfd : decide ((f : Int) < 64) = false := by simp; omega
                    go_wp2
                    go_roundw
                    case rel => exact ⟨k + 1, vm, _, tm, Lm, by omega, by go_num, HMf.out.th.tb, HGm⟩
                    case measure => simp [intOf]; omega
          · obtain rfl : k = len := by omega
            have hkz : ¬ (k : Int) < (k : Int) := by omega
            go_wp2
            go_ret
            exact ⟨rfl, HT.out.bel⟩
  · go_wp2_with (refine wpList_load23 rfl _ rfl w.heap.size s rfl HS1.out ?_)
    refine (rright_f s R _).mono ?_
    rintro e W2 ⟨rfl, hb2⟩
    have HB2 := Hid.intro' (below_class HB1.out hb2)
    clear hb2 HB1 HS1
    go_wp2
    go_ret
    exact ⟨rfl, HB2.out⟩

end Go.Proofs.Ytiihnjfknohhbad
