/- CallsKeep: the walk. -/
import Derived.Test.YtiihnjfknohhbadCallV
namespace Go.Proofs.Ytiihnjfknohhbad
open Go.RowKit

/-- what an act's block holds -/
def AB (W : World) (b : Nat) (x : Int) (c : Cl) (y : Bool) : Prop := W.heap[b]? = some (.cells #[.int .i64 x, .int .i64 c.fl, .int .i64 c.ca, .int .i64 c.ag, .bool c.up, .bool y] 37 (0, 0))
section
variable {W W' : World} {b : Nat} {x : Int} {c : Cl} {y : Bool}
theorem AB.lt (H : AB W b x c y) : b < W.heap.size := (Array.getElem?_eq_some_iff.1 H).1
theorem AB.c0 (H : AB W b x c y) : W.cell? ⟨b, 0, none⟩ = some (.int .i64 x) := by simp [World.cell?, show W.heap[b]? = _ from H]
theorem AB.c1 (H : AB W b x c y) : W.cell? ⟨b, 1, none⟩ = some (.int .i64 c.fl) := by simp [World.cell?, show W.heap[b]? = _ from H]
theorem AB.c2 (H : AB W b x c y) : W.cell? ⟨b, 2, none⟩ = some (.int .i64 c.ca) := by simp [World.cell?, show W.heap[b]? = _ from H]
theorem AB.c3 (H : AB W b x c y) : W.cell? ⟨b, 3, none⟩ = some (.int .i64 c.ag) := by simp [World.cell?, show W.heap[b]? = _ from H]
theorem AB.c4 (H : AB W b x c y) : W.cell? ⟨b, 4, none⟩ = some (.bool c.up) := by simp [World.cell?, show W.heap[b]? = _ from H]
theorem AB.c5 (H : AB W b x c y) : W.cell? ⟨b, 5, none⟩ = some (.bool y) := by simp [World.cell?, show W.heap[b]? = _ from H]
theorem AB.below' (H : AB W b x c y) (hb : Below W.heap.size W W') : AB W' b x c y := (hb.block b H.lt).trans H
theorem AB.kp {G : Nat → Prop} (H : AB W b x c y) (k : Kp G W W') (hG : ¬ G b) : AB W' b x c y := (k.block b H.lt hG).trans H
end

/-- what holds behind an act: the book, the row that was, the act -/
structure Md (w W : World) (b : Nat) (F C : Int) (v : Value) (t : Nat) (L M : List Cl) (vb : Value) (ab : Nat) (x : Int) (c : Cl) (y : Bool) : Prop where
  bk : BK W w.heap.size b F C v t L
  bf : RV W vb M
  ac : AB W ab x c y
  bel : Below w.heap.size w W
section
variable {w W W' : World} {b : Nat} {F C : Int} {v : Value} {t : Nat} {L M : List Cl} {vb : Value} {ab : Nat} {x : Int} {c : Cl} {y : Bool}
theorem Md.next (h : Md w W b F C v t L M vb ab x c y) (hb : Below W.heap.size W W') : Md w W' b F C v t L M vb ab x c y := ⟨h.bk.below' hb, h.bf.below' hb, h.ac.below' hb, below_class h.bel hb⟩
end
/-- what holds ahead of an act: the book is older than the act, and the act than the row -/
structure Pd (w W : World) (b : Nat) (F C : Int) (v : Value) (t : Nat) (L : List Cl) (vb : Value) (ab B : Nat) (x : Int) (c : Cl) (y : Bool) : Prop where
  bk : BK W w.heap.size b F C v t L
  bf : RW W B vb L
  ac : AB W ab x c y
  bel : Below w.heap.size w W
  old : ∀ i, Fp b v i → i < ab
  abB : ab < B
section
variable {w W W' : World} {b : Nat} {F C : Int} {v v' : Value} {t t' : Nat} {L L' : List Cl} {vb : Value} {ab B : Nat} {x : Int} {c : Cl} {y : Bool}
theorem Pd.next (h : Pd w W b F C v t L vb ab B x c y) (hb : Below W.heap.size W W') : Pd w W' b F C v t L vb ab B x c y := ⟨h.bk.below' hb, h.bf.below' hb, h.ac.below' hb, below_class h.bel hb, h.old, h.abB⟩
theorem Pd.upd (h : Pd w W b F C v t L vb ab B x c y) (hk : BK W' w.heap.size b F C v' t' L') (kp : Kp (Fp b v) W W') : Md w W' b F C v' t' L' L vb ab x c y := by
  refine ⟨hk, (h.bf.kp kp (fun g hg hF => ?_)).rv, h.ac.kp kp (fun hF => ?_), kp.below h.bel h.bel.size (fun i hi hF => ?_)⟩
  · have h1 := h.old g hF
    have h2 := (h.bf.lt g hg).1
    have h3 := h.abB
    omega
  · have := h.old ab hF
    omega
  · have := (h.bk.lo i hF).1
    omega
end

set_option maxRecDepth 100000 in
set_option maxHeartbeats 20000000 in
theorem keep_of (s : St) (ao : Option Addr) (len cap : Nat) (w : World)
    (hact : len = 0 ∨ ∃ b off, ao = some ⟨b, off, none⟩ ∧ ∀ w', Below w.heap.size w w' → ∀ i, i < len → ∃ (x : Int) (c : Cl) (y : Bool), w'.cell? ⟨b, off + i * 6, none⟩ = some (.int .i64 x) ∧ w'.cell? ⟨b, off + i * 6 + 1, none⟩ = some (.int .i64 c.fl) ∧ w'.cell? ⟨b, off + i * 6 + 2, none⟩ = some (.int .i64 c.ca) ∧ w'.cell? ⟨b, off + i * 6 + 3, none⟩ = some (.int .i64 c.ag) ∧ w'.cell? ⟨b, off + i * 6 + 4, none⟩ = some (.bool c.up) ∧ w'.cell? ⟨b, off + i * 6 + 5, none⟩ = some (.bool y)) :
    Calls Try.prog 4 #[.agg (sv s).toArray, .slice ao len cap] w fun e w' => e = .returned (.bool true) ∧ Below w.heap.size w w' := by
  have HA := Hid.intro' hact
  clear hact
  have HS0 := Hid.intro' (SB.new w s)
  have HB0 := Hid.intro' ((Below.refl w.heap.size w).alloc (Nat.le_refl _) (.cells (sv s).toArray 23))
  go_enter Try.func4, Try.ntmps4
  go_wp2_with fail
  refine (speaks_any _).mono ?_
  rintro e W1 ⟨rfl, hb1⟩
  have HS1 := Hid.intro' (HS0.out.below' hb1)
  have HB1 := Hid.intro' (below_class HB0.out hb1)
  clear HS0 HB0 hb1
  by_cases R : SM.Rt s
  · go_wp2_with (refine wpList_load23 rfl _ rfl w.heap.size s rfl HS1.out ?_)
    refine (rright_t s R _).mono ?_
    rintro e W2 ⟨rfl, hb2⟩
    have HS2 := Hid.intro' (HS1.out.below' hb2)
    have HB2 := Hid.intro' (below_class HB1.out hb2)
    clear hb2 HB1 HS1
    by_cases hl : 300 < len
    · have hl' : (300 : Int) < (len : Int) := by omega
      go_wp2
      go_ret
      exact ⟨rfl, HB2.out⟩
    · have hl' : (len : Int) ≤ 300 := by omega
      have hl2 : decide ((300 : Int) < (len : Int)) = false := by simp; omega
      go_wp2_with (refine wpList_load23 rfl _ rfl w.heap.size s rfl HS2.out ?_)
      refine (new_any _ s.fl s.ca rfl rfl _).mono ?_
      rintro e W3 ⟨b, rfl, hb3, hbel, hpb⟩
      have HK3 : Hid (BK W3 w.heap.size b s.fl s.ca (.slice none 0 0) 0 []) := ⟨hpb, RW.nil _ _, by simp [Value.ownBlock], Nat.le_trans HB2.out.size hb3, by omega⟩
      have HB3 := Hid.intro' (below_class HB2.out hbel)
      clear hb3 hbel hpb HS2 HB2
      go_wp2
      clear hl2
      go_loopw [30] (fun i wr => ∃ (k : Nat) (v : Value) (t : Nat) (L : List Cl), k ≤ len ∧ i = .int .i64 k ∧ Hid (BK wr w.heap.size b s.fl s.ca v t L) ∧ Hid (Below w.heap.size w wr) ∧ Hid (KM.Gd s.fl s.ca k L)) (fun i _ => len - (intOf i).toNat)
      case atStart => exact ⟨0, _, 0, [], Nat.zero_le _, rfl, HK3, HB3, KM.Gd.nil _ _ _⟩
      case round =>
        obtain ⟨k, v, t, L, hk, rfl, HK, HB, HG⟩ := hrel
        by_cases hlt : k < len
        · have hkz : (k : Int) < (len : Int) := by omega
          rcases HA.out with h0 | ⟨ab, off, hao, hcells⟩
          · omega
          obtain ⟨x, c, y, d0, d1, d2, d3, d4, d5⟩ := hcells wr HB.out k hlt
          clear hcells
          have hix := fun W => ixA W (cap := cap) hao hlt
          clear hao
          have HAB := Hid.intro' (show AB (wr.alloc (.cells #[.int .i64 x, .int .i64 c.fl, .int .i64 c.ca, .int .i64 c.ag, .bool c.up, .bool y] 37)) wr.heap.size x c y from heap_alloc_new wr _)
          have HBK := Hid.intro' (HK.out.below' ((Below.refl wr.heap.size wr).alloc (Nat.le_refl _) (.cells #[.int .i64 x, .int .i64 c.fl, .int .i64 c.ca, .int .i64 c.ag, .bool c.up, .bool y] 37)))
          have HBB := Hid.intro' (HB.out.alloc HB.out.size (.cells #[.int .i64 x, .int .i64 c.fl, .int .i64 c.ca, .int .i64 c.ag, .bool c.up, .bool y] 37))
          have hOld : ∀ i, Fp b v i → i < wr.heap.size := fun i hi => (HK.out.lo i hi).2
          have HOld := Hid.intro' hOld
          clear hOld
          go_wp2_with fail
          refine (all_any _ _ _ _ _ _ _ _ HBK.out HG.out.len).mono ?_
          rintro e W4 ⟨vb, rfl, hr4, hb4⟩
          have HP4 : Hid (Pd w W4 b s.fl s.ca v t L vb wr.heap.size (wr.heap.size + 1) x c y) := by
            rw [World.size_alloc] at hr4
            exact ⟨HBK.out.below' hb4, hr4, HAB.out.below' hb4, below_class HBB.out hb4, HOld.out, by omega⟩
          obtain ⟨a8, n8, cap8, rfl⟩ := hr4.slice
          have hn8 := hr4.len
          have hL := HG.out.len
          have hn8' : n8 ≤ 128 := by omega
          have HN8 := Hid.intro' hn8
          clear hn8 hr4 hb4 HAB HBK HBB HK HB HOld d0 d1 d2 d3 d4 d5
          have HP5 := Hid.intro' (HP4.out.next ((Below.refl W4.heap.size W4).alloc (Nat.le_refl _) (.cells #[] 35)))
          have e0 := HP5.out.ac.c0
          have e1 := HP5.out.ac.c1
          have e2 := HP5.out.ac.c2
          have e3 := HP5.out.ac.c3
          have e4 := HP5.out.ac.c4
          have e5 := HP5.out.ac.c5
          generalize wr.heap.size = A0 at HP5 HP4 e0 e1 e2 e3 e4 e5 ⊢
          by_cases h0 : x = 0
          · have b0 : (x == 0) = true := by simpa using h0
            have HX0 := Hid.intro' h0
            clear h0
            go_wp2_with fail
            generalize W4.alloc (.cells #[] 35) = W5 at HP5 ⊢
            clear e0 e1 e2 e3 e4 e5
            refine (press_any _ b s.fl s.ca v t L c _ HP5.out.bk hL R.fl1 R.fl2).mono ?_
            rintro e W6 ⟨rfl, v6, hk6, hn6, kp6⟩
            obtain ⟨vm, tm, Lm, M, S, p, ex, HM, HMG, HX, HGm, HSV⟩ : ∃ (vm : Value) (tm : Nat) (Lm M S : List Cl) (p : Cl → Bool) (ex : List Cl), Hid (Md w W6 b s.fl s.ca vm tm Lm M (.slice a8 n8 cap8) A0 x c y) ∧ Hid (KM.Mg M Lm S p ex) ∧ Hid (ex ≠ [] → x = 0) ∧ Hid (KM.Gd s.fl s.ca ((k + 1 : Nat) : Int) Lm) ∧ Hid (RV W6 (.slice (some ⟨W4.heap.size, 0, none⟩) 0 0) S) :=
              by
                cases ha : KM.adds s.fl s.ca (FM.hasN t c.fl) L c
                · rw [KM.put_no ha] at hk6
                  refine ⟨v6, t, L, L, [], fun _ => false, [], HP5.out.upd hk6 kp6, ?_, fun h => absurd rfl h, HG.out.up (by omega), RV.nil _ _ _⟩
                  have := KM.Mg.plain L [] (by simp)
                  rw [List.append_nil] at this
                  exact this
                · have hg := (HG.out.up (m := ((k + 1 : Nat) : Int)) (by omega)).put (by omega) (FM.hasN t c.fl) c
                  rw [KM.put_yes ha] at hk6 hg
                  exact ⟨v6, t, _, L, [], fun _ => false, [⟨c.fl, c.ca, 0, c.up⟩], HP5.out.upd hk6 kp6, KM.Mg.plain L _ (by simp), fun _ => HX0.out, hg, RV.nil _ _ _⟩
            clear hk6 hn6 kp6 HP5 HP4 HG
            have HXB := Hid.intro' b0
            clear b0
            go_wp2_with fail
            refine (all_any _ _ _ _ _ _ _ _ HM.out.bk HGm.out.len).mono ?_
            rintro e Wn ⟨vn, rfl, hrn, hbn⟩
            have HMn := Hid.intro' (HM.out.next hbn)
            have HSn := Hid.intro' (HSV.out.below' hbn)
            obtain ⟨an, nn, capn, rfl⟩ := hrn.slice
            have hnn := hrn.len
            have HNn := Hid.intro' hrn.rv
            have hlm := HGm.out.len
            have hnn' : nn ≤ 128 := by omega
            have HNN := Hid.intro' hnn
            have hN8 := HMn.out.bf.len.1
            have HNM := Hid.intro' hN8
            clear hrn hbn HM HSV hnn hlm hN8
            go_wp2
            go_loopw [9, 12, 14, 90] (fun s9 s12 _ i wr => ∃ (j q : Nat), j ≤ n8 ∧ i = .int .i64 j ∧ s12 = .int .i64 q ∧ q ≤ 128 ∧ Hid (q = ((M.take j).filter fun z => !p z).length) ∧ Hid (RV wr s9 ((M.drop j).filter p)) ∧ Hid (Md w wr b s.fl s.ca vm tm Lm M (.slice a8 n8 cap8) A0 x c y) ∧ Hid (RV wr (.slice an nn capn) Lm)) (fun _ _ _ i _ => n8 - (intOf i).toNat)
            case atStart => exact ⟨0, 0, Nat.zero_le _, rfl, rfl, by omega, rfl, by have := HMG.out.srv; rw [this] at HSn; exact HSn, HMn, HNn⟩
            case round =>
              obtain ⟨j, q, hj, rfl, rfl, hq, HQ, HSq, HMq, HNq⟩ := hrel
              obtain ⟨S9, hS9⟩ : ∃ S9, S9 = (M.drop j).filter p := ⟨_, rfl⟩
              rw [← hS9] at HSq
              have HSE := Hid.intro' hS9
              clear hS9
              obtain ⟨a9', c9', rfl, hc9⟩ := HSq.out.form
              by_cases hjlt : j < n8
              · have hjz : (j : Int) < (n8 : Int) := by omega
                have hjM : j < M.length := by have := HNM.out; omega
                obtain ⟨z, hz⟩ : ∃ z, M[j]? = some z := ⟨_, List.getElem?_eq_getElem hjM⟩
                obtain ⟨g8, o8, ha8, d0, d1, d2, d3⟩ := HMq.out.bf.at hz
                have hix8 := fun W => ixK W (cap := cap8) ha8 hjlt
                clear ha8 hjM
                have HBz := Hid.intro' (CB.new wr z)
                have HMz := Hid.intro' (HMq.out.next ((Below.refl wr.heap.size wr).alloc (Nat.le_refl _) (.cells #[.int .i64 z.fl, .int .i64 z.ca, .int .i64 z.ag, .bool z.up] 35)))
                have HNz := Hid.intro' (HNq.out.alloc (.cells #[.int .i64 z.fl, .int .i64 z.ca, .int .i64 z.ag, .bool z.up] 35))
                have HSz := Hid.intro' (HSq.out.alloc (.cells #[.int .i64 z.fl, .int .i64 z.ca, .int .i64 z.ag, .bool z.up] 35))
                cases hp : p z with
                | false =>
                  obtain ⟨k1, k2, k3⟩ := HMG.out.kept hz hp
                  rw [← HQ.out] at k1 k2
                  have hqn : q < nn := by have := (List.getElem?_eq_some_iff.1 k1).1; have := HNN.out; omega
                  have hqz : (q : Int) < (nn : Int) := by omega
                  obtain ⟨gn, on, han, n0, n1, n2, n3⟩ := HNz.out.at k1
                  have hixn := fun W => ixK W (cap := capn) han hqn
                  have hq1 : ∀ W, (Op.equalIn 10000 35 (.agg #[.int .i64 z.fl, .int .i64 z.ca, .int .i64 z.ag, .bool z.up]) (.agg #[.int .i64 z.fl, .int .i64 z.ca, .int .i64 z.ag, .bool z.up])).run Try.prog W = .ok true W := fun W => by rw [eqCall W z z, KM.same_refl]
                  have K2 := Hid.intro' k2
                  have K3 := Hid.intro' (HSE.out.trans k3)
                  clear han hz k1 k2 k3 HQ HMq HNq HSq HSE
                  go_wp2_with fail
                  generalize wr.alloc (.cells #[.int .i64 z.fl, .int .i64 z.ca, .int .i64 z.ag, .bool z.up] 35) = wz at HBz HMz HNz HSz n0 n1 n2 n3 ⊢
                  have z0 := HBz.out.c0
                  have z1 := HBz.out.c1
                  have z2 := HBz.out.c2
                  have z3 := HBz.out.c3
                  go_quiet (fail)
                  have hbq := below_drewN (Below.refl wz.heap.size wz) nq
                  have HMy := Hid.intro' (HMz.out.next hbq)
                  have HNy := Hid.intro' (HNz.out.below' hbq)
                  have HSy := Hid.intro' (HSz.out.below' hbq)
                  clear hbq HBz HMz HNz HSz z0 z1 z2 z3 n0 n1 n2 n3 d0 d1 d2 d3
                  generalize wz.drewN nq = wy at HMy HNy HSy ⊢
                  go_wp2
                  go_roundw
                  case rel => exact ⟨j + 1, q + 1, by omega, by go_num, by go_num, by omega, K2.out.symm, by rw [← K3.out]; exact HSy, HMy, HNy⟩
                  case measure => simp [intOf]; omega
                | true =>
                  obtain ⟨k1, k2, k3⟩ := HMG.out.gone hz hp
                  rw [← HQ.out] at k2
                  rw [← HSE.out] at k3
                  obtain ⟨S8, hS8⟩ : ∃ S8, S8 = (M.drop (j + 1)).filter p := ⟨_, rfl⟩
                  rw [← hS8] at k3
                  subst k3
                  simp only [List.length_cons] at hc9 HSz ⊢
                  generalize hn9 : S8.length = n9' at HSz hc9 ⊢
                  have HN9 := Hid.intro' hn9
                  have hn9b : n9' ≤ 128 := by
                    have h1 := List.length_filter_le p (M.drop (j + 1))
                    rw [List.length_drop, ← hS8] at h1
                    have := HNM.out
                    omega
                  obtain ⟨g9, o9, ha9, s0, s1, s2, s3⟩ := HSz.out.at (i := 0) (y := z) rfl
                  subst ha9
                  simp only [Nat.zero_mul, Nat.add_zero] at s0 s1 s2 s3
                  have hq2 : ∀ W, (Op.equalIn 10000 35 (.agg #[.int .i64 z.fl, .int .i64 z.ca, .int .i64 z.ag, .bool z.up]) (.agg #[.int .i64 z.fl, .int .i64 z.ca, .int .i64 z.ag, .bool z.up])).run Try.prog W = .ok true W := fun W => by rw [eqCall W z z, KM.same_refl]
                  have K1 := Hid.intro' k1
                  have K2 := Hid.intro' k2
                  have HS8 := Hid.intro' hS8
                  clear hz k1 k2 HQ HMq HSq HSE hn9 hS8
                  by_cases hqn : q < nn
                  · have hqz : (q : Int) < (nn : Int) := by omega
                    obtain ⟨u, hu⟩ : ∃ u, Lm[q]? = some u := ⟨_, List.getElem?_eq_getElem (by have := HNN.out; omega)⟩
                    obtain ⟨gn, on, han, n0, n1, n2, n3⟩ := HNz.out.at hu
                    have hixn := fun W => ixK W (cap := capn) han hqn
                    have hq1 : ∀ W, (Op.equalIn 10000 35 (.agg #[.int .i64 u.fl, .int .i64 u.ca, .int .i64 u.ag, .bool u.up]) (.agg #[.int .i64 z.fl, .int .i64 z.ca, .int .i64 z.ag, .bool z.up])).run Try.prog W = .ok false W := fun W => by rw [eqCall W u z, K1.out u (List.mem_of_getElem? hu)]
                    clear han hu HNq
                    go_wp2_with fail
                    generalize wr.alloc (.cells #[.int .i64 z.fl, .int .i64 z.ca, .int .i64 z.ag, .bool z.up] 35) = wz at HBz HMz HNz HSz n0 n1 n2 n3 s0 s1 s2 s3 ⊢
                    have z0 := HBz.out.c0
                    have z1 := HBz.out.c1
                    have z2 := HBz.out.c2
                    have z3 := HBz.out.c3
                    go_quiet (fail)
                    have hbq := below_drewN (Below.refl wz.heap.size wz) nq
                    have HBy := Hid.intro' (HBz.out.below' hbq)
                    have HMy := Hid.intro' (HMz.out.next hbq)
                    have HNy := Hid.intro' (HNz.out.below' hbq)
                    have HSy := Hid.intro' (HSz.out.below' hbq)
                    clear hbq HBz HMz HNz HSz z0 z1 z2 z3 n0 n1 n2 n3 d0 d1 d2 d3 s0 s1 s2 s3
                    generalize wz.drewN nq = wy at HBy HMy HNy HSy ⊢
                    have z0 := HBy.out.c0
                    have z1 := HBy.out.c1
                    have z2 := HBy.out.c2
                    have z3 := HBy.out.c3
                    obtain ⟨g9', o9', hg9, s0, s1, s2, s3⟩ := HSy.out.at (i := 0) (y := z) rfl
                    cases hg9
                    simp only [Nat.zero_mul, Nat.add_zero] at s0 s1 s2 s3
                    have hn9z : ((n9' : Int) + 1 == 0) = false := by simp; omega
                    go_wp2_with fail
                    go_quiet (fail)
                    have hbq := below_drewN (Below.refl wy.heap.size wy) nq
                    have HMx := Hid.intro' (HMy.out.next hbq)
                    have HNx := Hid.intro' (HNy.out.below' hbq)
                    have HSx := Hid.intro' (HSy.out.below' hbq)
                    clear hbq HBy HMy HNy HSy z0 z1 z2 z3 s0 s1 s2 s3
                    generalize wy.drewN nq = wx at HMx HNx HSx ⊢
                    go_wp2
                    go_roundw
                    case rel =>
                      refine ⟨j + 1, q, by omega, by go_num, rfl, hq, K2.out.symm, (show Hid _ from ?_), HMx, HNx⟩
                      rw [← HS8.out]
                      have h9 := HSx.out.rest (if c9' = 1 then some ⟨g9, o9, none⟩ else some ⟨g9, o9 + 4, none⟩) (fun h => if_neg h)
                      rw [HN9.out] at h9
                      exact h9
                    case measure => simp [intOf]; omega
                  · have hqz : decide ((q : Int) < (nn : Int)) = false := by simp; omega
                    clear HNq
                    go_wp2_with fail
                    generalize wr.alloc (.cells #[.int .i64 z.fl, .int .i64 z.ca, .int .i64 z.ag, .bool z.up] 35) = wz at HBz HMz HNz HSz s0 s1 s2 s3 ⊢
                    have z0 := HBz.out.c0
                    have z1 := HBz.out.c1
                    have z2 := HBz.out.c2
                    have z3 := HBz.out.c3
                    go_quiet (fail)
                    have hbq := below_drewN (Below.refl wz.heap.size wz) nq
                    have HBy := Hid.intro' (HBz.out.below' hbq)
                    have HMy := Hid.intro' (HMz.out.next hbq)
                    have HNy := Hid.intro' (HNz.out.below' hbq)
                    have HSy := Hid.intro' (HSz.out.below' hbq)
                    clear hbq HBz HMz HNz HSz z0 z1 z2 z3  d0 d1 d2 d3 s0 s1 s2 s3
                    generalize wz.drewN nq = wy at HBy HMy HNy HSy ⊢
                    have z0 := HBy.out.c0
                    have z1 := HBy.out.c1
                    have z2 := HBy.out.c2
                    have z3 := HBy.out.c3
                    obtain ⟨g9', o9', hg9, s0, s1, s2, s3⟩ := HSy.out.at (i := 0) (y := z) rfl
                    cases hg9
                    simp only [Nat.zero_mul, Nat.add_zero] at s0 s1 s2 s3
                    have hn9z : ((n9' : Int) + 1 == 0) = false := by simp; omega
                    go_wp2_with fail
                    go_quiet (fail)
                    have hbq := below_drewN (Below.refl wy.heap.size wy) nq
                    have HMx := Hid.intro' (HMy.out.next hbq)
                    have HNx := Hid.intro' (HNy.out.below' hbq)
                    have HSx := Hid.intro' (HSy.out.below' hbq)
                    clear hbq HBy HMy HNy HSy z0 z1 z2 z3 s0 s1 s2 s3
                    generalize wy.drewN nq = wx at HMx HNx HSx ⊢
                    go_wp2
                    go_roundw
                    case rel =>
                      refine ⟨j + 1, q, by omega, by go_num, rfl, hq, K2.out.symm, (show Hid _ from ?_), HMx, HNx⟩
                      rw [← HS8.out]
                      have h9 := HSx.out.rest (if c9' = 1 then some ⟨g9, o9, none⟩ else some ⟨g9, o9 + 4, none⟩) (fun h => if_neg h)
                      rw [HN9.out] at h9
                      exact h9
                    case measure => simp [intOf]; omega
              · have hje : j = n8 := by omega
                have hjz : ¬ (j : Int) < (n8 : Int) := by omega
                have hjd : decide ((j : Int) < (n8 : Int)) = false := by simp; omega
                have hMj : M.take j = M := List.take_of_length_le (by have := HNM.out; omega)
                have hdr : (M.drop j).filter p = [] := by rw [List.drop_of_length_le (by have := HNM.out; omega)]; rfl
                have hlen := HMG.out.len
                have hone := HMG.out.one
                have hqe := HQ.out
                rw [hMj] at hqe
                have hS9' : S9.length = 0 := by rw [HSE.out, hdr]; rfl
                rw [hS9']
                have hnq : nn = q + ex.length := by rw [HNN.out, hlen, hqe]
                have hs1 : decide ((1 : Int) < (nn : Int) - (q : Int)) = false := by simp; omega
                have hs2 : decide ((128 : Int) < (nn : Int)) = false := by simp; omega
                have hsg : (q : Int) ≤ (nn : Int) := by omega
                have e0 := HMq.out.ac.c0
                have HHX : Hid (q < nn → x = 0) := fun h => HX.out (by intro e; rw [e] at hnq; simp at hnq; omega)
                clear hMj hdr hlen hone hqe hnq HQ HSq hc9 hS9' HSE hje
                by_cases hex : q < nn
                · have hx0 := HHX.out hex
                  have hx1 : (x != 0) = false := by simp [hx0]
                  have hqz : decide ((q : Int) < (nn : Int)) = true := by simp; omega
                  clear hx0 HHX
                  go_wp2
                  go_loopw [15] (fun i wr => ∃ m : Nat, i = .int .i64 ((m : Int) + 1) ∧ m ≤ 128 ∧ Hid (Md w wr b s.fl s.ca vm tm Lm M (.slice a8 n8 cap8) A0 x c y) ∧ Hid (RV wr (.slice an nn capn) Lm)) (fun i _ => 200 - (intOf i).toNat)
                  case atStart => exact ⟨0, rfl, by omega, HMq, HNq⟩
                  case round =>
                    obtain ⟨m, rfl, hm, HMm, HNm⟩ := hrel
                    by_cases hmlt : m + 1 < nn
                    · have hmz : (m : Int) + 1 < (nn : Int) := by omega
                      obtain ⟨u0, hu0⟩ : ∃ u, Lm[m]? = some u := ⟨_, List.getElem?_eq_getElem (by have := HNN.out; omega)⟩
                      obtain ⟨u1, hu1⟩ : ∃ u, Lm[m + 1]? = some u := ⟨_, List.getElem?_eq_getElem (by have := HNN.out; omega)⟩
                      obtain ⟨gn, on, han, _, _, r0, _⟩ := HNm.out.at hu0
                      obtain ⟨gn', on', han', _, _, r1, _⟩ := HNm.out.at hu1
                      have hgg : some (⟨gn', on', none⟩ : Addr) = some ⟨gn, on, none⟩ := han'.symm.trans han
                      cases hgg
                      have hix0 := fun W => ixK W (n := nn) (cap := capn) (j := m) han (by omega)
                      have hix1 : ∀ W, (Instr.indexAt 30 (.slice an nn capn) (.int .i64 ((m : Int) + 1))).run Try.prog W = .ok (.pointer (some ⟨gn, on + (m + 1) * 4, none⟩)) W := fun W => ixK W (cap := capn) (j := m + 1) han hmlt
                      have hage : u1.ag ≤ u0.ag := by
                        have hd := HGm.out.des
                        rw [List.pairwise_iff_getElem] at hd
                        obtain ⟨i0, e0'⟩ := List.getElem?_eq_some_iff.1 hu0
                        obtain ⟨i1, e1'⟩ := List.getElem?_eq_some_iff.1 hu1
                        have := hd m (m + 1) i0 i1 (by omega)
                        rw [e0', e1'] at this
                        exact this
                      have hdec : decide (u0.ag < u1.ag) = false := by simp; omega
                      have hwm : IntKind.i64.wrap ((m : Int) + 1 - 1) = m := by rw [IntKind.wrap_i64]; omega
                      clear hage han han' hu0 hu1
                      go_wp2_with fail
                      go_quiet (fail)
                      have hbq := below_drewN (Below.refl wr.heap.size wr) nq
                      have HMy := Hid.intro' (HMm.out.next hbq)
                      have HNy := Hid.intro' (HNm.out.below' hbq)
                      clear hbq r0 r1 HMm HNm
                      generalize wr.drewN nq = wy at HMy HNy ⊢
                      go_wp2
                      go_roundw
                      case rel => exact ⟨m + 1, by go_num, by omega, HMy, HNy⟩
                      case measure => simp [intOf]; omega
                    · have hmz : ¬ (m : Int) + 1 < (nn : Int) := by omega
                      go_wp2
                      go_roundw
                      case rel => exact ⟨k + 1, vm, tm, Lm, by omega, by go_num, HMm.out.bk, HMm.out.bel, HGm⟩
                      case measure => simp [intOf]; omega
                · have hqz : decide ((q : Int) < (nn : Int)) = false := by simp; omega
                  clear HHX
                  go_wp2
                  go_loopw [15] (fun i wr => ∃ m : Nat, i = .int .i64 ((m : Int) + 1) ∧ m ≤ 128 ∧ Hid (Md w wr b s.fl s.ca vm tm Lm M (.slice a8 n8 cap8) A0 x c y) ∧ Hid (RV wr (.slice an nn capn) Lm)) (fun i _ => 200 - (intOf i).toNat)
                  case atStart => exact ⟨0, rfl, by omega, HMq, HNq⟩
                  case round =>
                    obtain ⟨m, rfl, hm, HMm, HNm⟩ := hrel
                    by_cases hmlt : m + 1 < nn
                    · have hmz : (m : Int) + 1 < (nn : Int) := by omega
                      obtain ⟨u0, hu0⟩ : ∃ u, Lm[m]? = some u := ⟨_, List.getElem?_eq_getElem (by have := HNN.out; omega)⟩
                      obtain ⟨u1, hu1⟩ : ∃ u, Lm[m + 1]? = some u := ⟨_, List.getElem?_eq_getElem (by have := HNN.out; omega)⟩
                      obtain ⟨gn, on, han, _, _, r0, _⟩ := HNm.out.at hu0
                      obtain ⟨gn', on', han', _, _, r1, _⟩ := HNm.out.at hu1
                      have hgg : some (⟨gn', on', none⟩ : Addr) = some ⟨gn, on, none⟩ := han'.symm.trans han
                      cases hgg
                      have hix0 := fun W => ixK W (n := nn) (cap := capn) (j := m) han (by omega)
                      have hix1 : ∀ W, (Instr.indexAt 30 (.slice an nn capn) (.int .i64 ((m : Int) + 1))).run Try.prog W = .ok (.pointer (some ⟨gn, on + (m + 1) * 4, none⟩)) W := fun W => ixK W (cap := capn) (j := m + 1) han hmlt
                      have hage : u1.ag ≤ u0.ag := by
                        have hd := HGm.out.des
                        rw [List.pairwise_iff_getElem] at hd
                        obtain ⟨i0, e0'⟩ := List.getElem?_eq_some_iff.1 hu0
                        obtain ⟨i1, e1'⟩ := List.getElem?_eq_some_iff.1 hu1
                        have := hd m (m + 1) i0 i1 (by omega)
                        rw [e0', e1'] at this
                        exact this
                      have hdec : decide (u0.ag < u1.ag) = false := by simp; omega
                      have hwm : IntKind.i64.wrap ((m : Int) + 1 - 1) = m := by rw [IntKind.wrap_i64]; omega
                      clear hage han han' hu0 hu1
                      go_wp2_with fail
                      go_quiet (fail)
                      have hbq := below_drewN (Below.refl wr.heap.size wr) nq
                      have HMy := Hid.intro' (HMm.out.next hbq)
                      have HNy := Hid.intro' (HNm.out.below' hbq)
                      clear hbq r0 r1 HMm HNm
                      generalize wr.drewN nq = wy at HMy HNy ⊢
                      go_wp2
                      go_roundw
                      case rel => exact ⟨m + 1, by go_num, by omega, HMy, HNy⟩
                      case measure => simp [intOf]; omega
                    · have hmz : ¬ (m : Int) + 1 < (nn : Int) := by omega
                      go_wp2
                      go_roundw
                      case rel => exact ⟨k + 1, vm, tm, Lm, by omega, by go_num, HMm.out.bk, HMm.out.bel, HGm⟩
                      case measure => simp [intOf]; omega
          · by_cases h1 : x = 1
            · have b0 : (x == 0) = false := by simpa using h0
              have b1 : (x == 1) = true := by simpa using h1
              clear h0 h1
              go_wp2_with fail
              generalize W4.alloc (.cells #[] 35) = W5 at HP5 ⊢
              clear e0 e1 e2 e3 e4 e5
              refine (bar_any _ b s.fl s.ca v t L c.fl c.up _ HP5.out.bk).mono ?_
              rintro e W6 ⟨rfl, hk6, kp6⟩
              obtain ⟨vm, tm, Lm, M, S, p, ex, HM, HMG, HX, HGm, HSV⟩ : ∃ (vm : Value) (tm : Nat) (Lm M S : List Cl) (p : Cl → Bool) (ex : List Cl), Hid (Md w W6 b s.fl s.ca vm tm Lm M (.slice a8 n8 cap8) A0 x c y) ∧ Hid (KM.Mg M Lm S p ex) ∧ Hid (ex ≠ [] → x = 0) ∧ Hid (KM.Gd s.fl s.ca ((k + 1 : Nat) : Int) Lm) ∧ Hid (RV W6 (.slice (some ⟨W4.heap.size, 0, none⟩) 0 0) S) :=
                by
                  refine ⟨v, _, L, L, [], fun _ => false, [], HP5.out.upd hk6 kp6, ?_, fun h => absurd rfl h, HG.out.up (by omega), RV.nil _ _ _⟩
                  have := KM.Mg.plain L [] (by simp)
                  rw [List.append_nil] at this
                  exact this
              clear hk6 kp6 HP5 HP4 HG
              go_wp2_with fail
              refine (all_any _ _ _ _ _ _ _ _ HM.out.bk HGm.out.len).mono ?_
              rintro e Wn ⟨vn, rfl, hrn, hbn⟩
              have HMn := Hid.intro' (HM.out.next hbn)
              have HSn := Hid.intro' (HSV.out.below' hbn)
              obtain ⟨an, nn, capn, rfl⟩ := hrn.slice
              have hnn := hrn.len
              have HNn := Hid.intro' hrn.rv
              have hlm := HGm.out.len
              have hnn' : nn ≤ 128 := by omega
              have HNN := Hid.intro' hnn
              have hN8 := HMn.out.bf.len.1
              have HNM := Hid.intro' hN8
              clear hrn hbn HM HSV hnn hlm hN8
              go_wp2
              go_loopw [9, 12, 14, 90] (fun s9 s12 _ i wr => ∃ (j q : Nat), j ≤ n8 ∧ i = .int .i64 j ∧ s12 = .int .i64 q ∧ q ≤ 128 ∧ Hid (q = ((M.take j).filter fun z => !p z).length) ∧ Hid (RV wr s9 ((M.drop j).filter p)) ∧ Hid (Md w wr b s.fl s.ca vm tm Lm M (.slice a8 n8 cap8) A0 x c y) ∧ Hid (RV wr (.slice an nn capn) Lm)) (fun _ _ _ i _ => n8 - (intOf i).toNat)
              case atStart => exact ⟨0, 0, Nat.zero_le _, rfl, rfl, by omega, rfl, by have := HMG.out.srv; rw [this] at HSn; exact HSn, HMn, HNn⟩
              case round =>
                obtain ⟨j, q, hj, rfl, rfl, hq, HQ, HSq, HMq, HNq⟩ := hrel
                obtain ⟨S9, hS9⟩ : ∃ S9, S9 = (M.drop j).filter p := ⟨_, rfl⟩
                rw [← hS9] at HSq
                have HSE := Hid.intro' hS9
                clear hS9
                obtain ⟨a9', c9', rfl, hc9⟩ := HSq.out.form
                by_cases hjlt : j < n8
                · have hjz : (j : Int) < (n8 : Int) := by omega
                  have hjM : j < M.length := by have := HNM.out; omega
                  obtain ⟨z, hz⟩ : ∃ z, M[j]? = some z := ⟨_, List.getElem?_eq_getElem hjM⟩
                  obtain ⟨g8, o8, ha8, d0, d1, d2, d3⟩ := HMq.out.bf.at hz
                  have hix8 := fun W => ixK W (cap := cap8) ha8 hjlt
                  clear ha8 hjM
                  have HBz := Hid.intro' (CB.new wr z)
                  have HMz := Hid.intro' (HMq.out.next ((Below.refl wr.heap.size wr).alloc (Nat.le_refl _) (.cells #[.int .i64 z.fl, .int .i64 z.ca, .int .i64 z.ag, .bool z.up] 35)))
                  have HNz := Hid.intro' (HNq.out.alloc (.cells #[.int .i64 z.fl, .int .i64 z.ca, .int .i64 z.ag, .bool z.up] 35))
                  have HSz := Hid.intro' (HSq.out.alloc (.cells #[.int .i64 z.fl, .int .i64 z.ca, .int .i64 z.ag, .bool z.up] 35))
                  cases hp : p z with
                  | false =>
                    obtain ⟨k1, k2, k3⟩ := HMG.out.kept hz hp
                    rw [← HQ.out] at k1 k2
                    have hqn : q < nn := by have := (List.getElem?_eq_some_iff.1 k1).1; have := HNN.out; omega
                    have hqz : (q : Int) < (nn : Int) := by omega
                    obtain ⟨gn, on, han, n0, n1, n2, n3⟩ := HNz.out.at k1
                    have hixn := fun W => ixK W (cap := capn) han hqn
                    have hq1 : ∀ W, (Op.equalIn 10000 35 (.agg #[.int .i64 z.fl, .int .i64 z.ca, .int .i64 z.ag, .bool z.up]) (.agg #[.int .i64 z.fl, .int .i64 z.ca, .int .i64 z.ag, .bool z.up])).run Try.prog W = .ok true W := fun W => by rw [eqCall W z z, KM.same_refl]
                    have K2 := Hid.intro' k2
                    have K3 := Hid.intro' (HSE.out.trans k3)
                    clear han hz k1 k2 k3 HQ HMq HNq HSq HSE
                    go_wp2_with fail
                    generalize wr.alloc (.cells #[.int .i64 z.fl, .int .i64 z.ca, .int .i64 z.ag, .bool z.up] 35) = wz at HBz HMz HNz HSz n0 n1 n2 n3 ⊢
                    have z0 := HBz.out.c0
                    have z1 := HBz.out.c1
                    have z2 := HBz.out.c2
                    have z3 := HBz.out.c3
                    go_quiet (fail)
                    have hbq := below_drewN (Below.refl wz.heap.size wz) nq
                    have HMy := Hid.intro' (HMz.out.next hbq)
                    have HNy := Hid.intro' (HNz.out.below' hbq)
                    have HSy := Hid.intro' (HSz.out.below' hbq)
                    clear hbq HBz HMz HNz HSz z0 z1 z2 z3 n0 n1 n2 n3 d0 d1 d2 d3
                    generalize wz.drewN nq = wy at HMy HNy HSy ⊢
                    go_wp2
                    go_roundw
                    case rel => exact ⟨j + 1, q + 1, by omega, by go_num, by go_num, by omega, K2.out.symm, by rw [← K3.out]; exact HSy, HMy, HNy⟩
                    case measure => simp [intOf]; omega
                  | true =>
                    obtain ⟨k1, k2, k3⟩ := HMG.out.gone hz hp
                    rw [← HQ.out] at k2
                    rw [← HSE.out] at k3
                    obtain ⟨S8, hS8⟩ : ∃ S8, S8 = (M.drop (j + 1)).filter p := ⟨_, rfl⟩
                    rw [← hS8] at k3
                    subst k3
                    simp only [List.length_cons] at hc9 HSz ⊢
                    generalize hn9 : S8.length = n9' at HSz hc9 ⊢
                    have HN9 := Hid.intro' hn9
                    have hn9b : n9' ≤ 128 := by
                      have h1 := List.length_filter_le p (M.drop (j + 1))
                      rw [List.length_drop, ← hS8] at h1
                      have := HNM.out
                      omega
                    obtain ⟨g9, o9, ha9, s0, s1, s2, s3⟩ := HSz.out.at (i := 0) (y := z) rfl
                    subst ha9
                    simp only [Nat.zero_mul, Nat.add_zero] at s0 s1 s2 s3
                    have hq2 : ∀ W, (Op.equalIn 10000 35 (.agg #[.int .i64 z.fl, .int .i64 z.ca, .int .i64 z.ag, .bool z.up]) (.agg #[.int .i64 z.fl, .int .i64 z.ca, .int .i64 z.ag, .bool z.up])).run Try.prog W = .ok true W := fun W => by rw [eqCall W z z, KM.same_refl]
                    have K1 := Hid.intro' k1
                    have K2 := Hid.intro' k2
                    have HS8 := Hid.intro' hS8
                    clear hz k1 k2 HQ HMq HSq HSE hn9 hS8
                    by_cases hqn : q < nn
                    · have hqz : (q : Int) < (nn : Int) := by omega
                      obtain ⟨u, hu⟩ : ∃ u, Lm[q]? = some u := ⟨_, List.getElem?_eq_getElem (by have := HNN.out; omega)⟩
                      obtain ⟨gn, on, han, n0, n1, n2, n3⟩ := HNz.out.at hu
                      have hixn := fun W => ixK W (cap := capn) han hqn
                      have hq1 : ∀ W, (Op.equalIn 10000 35 (.agg #[.int .i64 u.fl, .int .i64 u.ca, .int .i64 u.ag, .bool u.up]) (.agg #[.int .i64 z.fl, .int .i64 z.ca, .int .i64 z.ag, .bool z.up])).run Try.prog W = .ok false W := fun W => by rw [eqCall W u z, K1.out u (List.mem_of_getElem? hu)]
                      clear han hu HNq
                      go_wp2_with fail
                      generalize wr.alloc (.cells #[.int .i64 z.fl, .int .i64 z.ca, .int .i64 z.ag, .bool z.up] 35) = wz at HBz HMz HNz HSz n0 n1 n2 n3 s0 s1 s2 s3 ⊢
                      have z0 := HBz.out.c0
                      have z1 := HBz.out.c1
                      have z2 := HBz.out.c2
                      have z3 := HBz.out.c3
                      go_quiet (fail)
                      have hbq := below_drewN (Below.refl wz.heap.size wz) nq
                      have HBy := Hid.intro' (HBz.out.below' hbq)
                      have HMy := Hid.intro' (HMz.out.next hbq)
                      have HNy := Hid.intro' (HNz.out.below' hbq)
                      have HSy := Hid.intro' (HSz.out.below' hbq)
                      clear hbq HBz HMz HNz HSz z0 z1 z2 z3 n0 n1 n2 n3 d0 d1 d2 d3 s0 s1 s2 s3
                      generalize wz.drewN nq = wy at HBy HMy HNy HSy ⊢
                      have z0 := HBy.out.c0
                      have z1 := HBy.out.c1
                      have z2 := HBy.out.c2
                      have z3 := HBy.out.c3
                      obtain ⟨g9', o9', hg9, s0, s1, s2, s3⟩ := HSy.out.at (i := 0) (y := z) rfl
                      cases hg9
                      simp only [Nat.zero_mul, Nat.add_zero] at s0 s1 s2 s3
                      have hn9z : ((n9' : Int) + 1 == 0) = false := by simp; omega
                      go_wp2_with fail
                      go_quiet (fail)
                      have hbq := below_drewN (Below.refl wy.heap.size wy) nq
                      have HMx := Hid.intro' (HMy.out.next hbq)
                      have HNx := Hid.intro' (HNy.out.below' hbq)
                      have HSx := Hid.intro' (HSy.out.below' hbq)
                      clear hbq HBy HMy HNy HSy z0 z1 z2 z3 s0 s1 s2 s3
                      generalize wy.drewN nq = wx at HMx HNx HSx ⊢
                      go_wp2
                      go_roundw
                      case rel =>
                        refine ⟨j + 1, q, by omega, by go_num, rfl, hq, K2.out.symm, (show Hid _ from ?_), HMx, HNx⟩
                        rw [← HS8.out]
                        have h9 := HSx.out.rest (if c9' = 1 then some ⟨g9, o9, none⟩ else some ⟨g9, o9 + 4, none⟩) (fun h => if_neg h)
                        rw [HN9.out] at h9
                        exact h9
                      case measure => simp [intOf]; omega
                    · have hqz : decide ((q : Int) < (nn : Int)) = false := by simp; omega
                      clear HNq
                      go_wp2_with fail
                      generalize wr.alloc (.cells #[.int .i64 z.fl, .int .i64 z.ca, .int .i64 z.ag, .bool z.up] 35) = wz at HBz HMz HNz HSz s0 s1 s2 s3 ⊢
                      have z0 := HBz.out.c0
                      have z1 := HBz.out.c1
                      have z2 := HBz.out.c2
                      have z3 := HBz.out.c3
                      go_quiet (fail)
                      have hbq := below_drewN (Below.refl wz.heap.size wz) nq
                      have HBy := Hid.intro' (HBz.out.below' hbq)
                      have HMy := Hid.intro' (HMz.out.next hbq)
                      have HNy := Hid.intro' (HNz.out.below' hbq)
                      have HSy := Hid.intro' (HSz.out.below' hbq)
                      clear hbq HBz HMz HNz HSz z0 z1 z2 z3  d0 d1 d2 d3 s0 s1 s2 s3
                      generalize wz.drewN nq = wy at HBy HMy HNy HSy ⊢
                      have z0 := HBy.out.c0
                      have z1 := HBy.out.c1
                      have z2 := HBy.out.c2
                      have z3 := HBy.out.c3
                      obtain ⟨g9', o9', hg9, s0, s1, s2, s3⟩ := HSy.out.at (i := 0) (y := z) rfl
                      cases hg9
                      simp only [Nat.zero_mul, Nat.add_zero] at s0 s1 s2 s3
                      have hn9z : ((n9' : Int) + 1 == 0) = false := by simp; omega
                      go_wp2_with fail
                      go_quiet (fail)
                      have hbq := below_drewN (Below.refl wy.heap.size wy) nq
                      have HMx := Hid.intro' (HMy.out.next hbq)
                      have HNx := Hid.intro' (HNy.out.below' hbq)
                      have HSx := Hid.intro' (HSy.out.below' hbq)
                      clear hbq HBy HMy HNy HSy z0 z1 z2 z3 s0 s1 s2 s3
                      generalize wy.drewN nq = wx at HMx HNx HSx ⊢
                      go_wp2
                      go_roundw
                      case rel =>
                        refine ⟨j + 1, q, by omega, by go_num, rfl, hq, K2.out.symm, (show Hid _ from ?_), HMx, HNx⟩
                        rw [← HS8.out]
                        have h9 := HSx.out.rest (if c9' = 1 then some ⟨g9, o9, none⟩ else some ⟨g9, o9 + 4, none⟩) (fun h => if_neg h)
                        rw [HN9.out] at h9
                        exact h9
                      case measure => simp [intOf]; omega
                · have hje : j = n8 := by omega
                  have hjz : ¬ (j : Int) < (n8 : Int) := by omega
                  have hjd : decide ((j : Int) < (n8 : Int)) = false := by simp; omega
                  have hMj : M.take j = M := List.take_of_length_le (by have := HNM.out; omega)
                  have hdr : (M.drop j).filter p = [] := by rw [List.drop_of_length_le (by have := HNM.out; omega)]; rfl
                  have hlen := HMG.out.len
                  have hone := HMG.out.one
                  have hqe := HQ.out
                  rw [hMj] at hqe
                  have hS9' : S9.length = 0 := by rw [HSE.out, hdr]; rfl
                  rw [hS9']
                  have hnq : nn = q + ex.length := by rw [HNN.out, hlen, hqe]
                  have hs1 : decide ((1 : Int) < (nn : Int) - (q : Int)) = false := by simp; omega
                  have hs2 : decide ((128 : Int) < (nn : Int)) = false := by simp; omega
                  have hsg : (q : Int) ≤ (nn : Int) := by omega
                  have e0 := HMq.out.ac.c0
                  have HHX : Hid (q < nn → x = 0) := fun h => HX.out (by intro e; rw [e] at hnq; simp at hnq; omega)
                  clear hMj hdr hlen hone hqe hnq HQ HSq hc9 hS9' HSE hje
                  by_cases hex : q < nn
                  · have hx0 := HHX.out hex
                    have hx1 : (x != 0) = false := by simp [hx0]
                    have hqz : decide ((q : Int) < (nn : Int)) = true := by simp; omega
                    clear hx0 HHX
                    go_wp2
                    go_loopw [15] (fun i wr => ∃ m : Nat, i = .int .i64 ((m : Int) + 1) ∧ m ≤ 128 ∧ Hid (Md w wr b s.fl s.ca vm tm Lm M (.slice a8 n8 cap8) A0 x c y) ∧ Hid (RV wr (.slice an nn capn) Lm)) (fun i _ => 200 - (intOf i).toNat)
                    case atStart => exact ⟨0, rfl, by omega, HMq, HNq⟩
                    case round =>
                      obtain ⟨m, rfl, hm, HMm, HNm⟩ := hrel
                      by_cases hmlt : m + 1 < nn
                      · have hmz : (m : Int) + 1 < (nn : Int) := by omega
                        obtain ⟨u0, hu0⟩ : ∃ u, Lm[m]? = some u := ⟨_, List.getElem?_eq_getElem (by have := HNN.out; omega)⟩
                        obtain ⟨u1, hu1⟩ : ∃ u, Lm[m + 1]? = some u := ⟨_, List.getElem?_eq_getElem (by have := HNN.out; omega)⟩
                        obtain ⟨gn, on, han, _, _, r0, _⟩ := HNm.out.at hu0
                        obtain ⟨gn', on', han', _, _, r1, _⟩ := HNm.out.at hu1
                        have hgg : some (⟨gn', on', none⟩ : Addr) = some ⟨gn, on, none⟩ := han'.symm.trans han
                        cases hgg
                        have hix0 := fun W => ixK W (n := nn) (cap := capn) (j := m) han (by omega)
                        have hix1 : ∀ W, (Instr.indexAt 30 (.slice an nn capn) (.int .i64 ((m : Int) + 1))).run Try.prog W = .ok (.pointer (some ⟨gn, on + (m + 1) * 4, none⟩)) W := fun W => ixK W (cap := capn) (j := m + 1) han hmlt
                        have hage : u1.ag ≤ u0.ag := by
                          have hd := HGm.out.des
                          rw [List.pairwise_iff_getElem] at hd
                          obtain ⟨i0, e0'⟩ := List.getElem?_eq_some_iff.1 hu0
                          obtain ⟨i1, e1'⟩ := List.getElem?_eq_some_iff.1 hu1
                          have := hd m (m + 1) i0 i1 (by omega)
                          rw [e0', e1'] at this
                          exact this
                        have hdec : decide (u0.ag < u1.ag) = false := by simp; omega
                        have hwm : IntKind.i64.wrap ((m : Int) + 1 - 1) = m := by rw [IntKind.wrap_i64]; omega
                        clear hage han han' hu0 hu1
                        go_wp2_with fail
                        go_quiet (fail)
                        have hbq := below_drewN (Below.refl wr.heap.size wr) nq
                        have HMy := Hid.intro' (HMm.out.next hbq)
                        have HNy := Hid.intro' (HNm.out.below' hbq)
                        clear hbq r0 r1 HMm HNm
                        generalize wr.drewN nq = wy at HMy HNy ⊢
                        go_wp2
                        go_roundw
                        case rel => exact ⟨m + 1, by go_num, by omega, HMy, HNy⟩
                        case measure => simp [intOf]; omega
                      · have hmz : ¬ (m : Int) + 1 < (nn : Int) := by omega
                        go_wp2
                        go_roundw
                        case rel => exact ⟨k + 1, vm, tm, Lm, by omega, by go_num, HMm.out.bk, HMm.out.bel, HGm⟩
                        case measure => simp [intOf]; omega
                  · have hqz : decide ((q : Int) < (nn : Int)) = false := by simp; omega
                    clear HHX
                    go_wp2
                    go_loopw [15] (fun i wr => ∃ m : Nat, i = .int .i64 ((m : Int) + 1) ∧ m ≤ 128 ∧ Hid (Md w wr b s.fl s.ca vm tm Lm M (.slice a8 n8 cap8) A0 x c y) ∧ Hid (RV wr (.slice an nn capn) Lm)) (fun i _ => 200 - (intOf i).toNat)
                    case atStart => exact ⟨0, rfl, by omega, HMq, HNq⟩
                    case round =>
                      obtain ⟨m, rfl, hm, HMm, HNm⟩ := hrel
                      by_cases hmlt : m + 1 < nn
                      · have hmz : (m : Int) + 1 < (nn : Int) := by omega
                        obtain ⟨u0, hu0⟩ : ∃ u, Lm[m]? = some u := ⟨_, List.getElem?_eq_getElem (by have := HNN.out; omega)⟩
                        obtain ⟨u1, hu1⟩ : ∃ u, Lm[m + 1]? = some u := ⟨_, List.getElem?_eq_getElem (by have := HNN.out; omega)⟩
                        obtain ⟨gn, on, han, _, _, r0, _⟩ := HNm.out.at hu0
                        obtain ⟨gn', on', han', _, _, r1, _⟩ := HNm.out.at hu1
                        have hgg : some (⟨gn', on', none⟩ : Addr) = some ⟨gn, on, none⟩ := han'.symm.trans han
                        cases hgg
                        have hix0 := fun W => ixK W (n := nn) (cap := capn) (j := m) han (by omega)
                        have hix1 : ∀ W, (Instr.indexAt 30 (.slice an nn capn) (.int .i64 ((m : Int) + 1))).run Try.prog W = .ok (.pointer (some ⟨gn, on + (m + 1) * 4, none⟩)) W := fun W => ixK W (cap := capn) (j := m + 1) han hmlt
                        have hage : u1.ag ≤ u0.ag := by
                          have hd := HGm.out.des
                          rw [List.pairwise_iff_getElem] at hd
                          obtain ⟨i0, e0'⟩ := List.getElem?_eq_some_iff.1 hu0
                          obtain ⟨i1, e1'⟩ := List.getElem?_eq_some_iff.1 hu1
                          have := hd m (m + 1) i0 i1 (by omega)
                          rw [e0', e1'] at this
                          exact this
                        have hdec : decide (u0.ag < u1.ag) = false := by simp; omega
                        have hwm : IntKind.i64.wrap ((m : Int) + 1 - 1) = m := by rw [IntKind.wrap_i64]; omega
                        clear hage han han' hu0 hu1
                        go_wp2_with fail
                        go_quiet (fail)
                        have hbq := below_drewN (Below.refl wr.heap.size wr) nq
                        have HMy := Hid.intro' (HMm.out.next hbq)
                        have HNy := Hid.intro' (HNm.out.below' hbq)
                        clear hbq r0 r1 HMm HNm
                        generalize wr.drewN nq = wy at HMy HNy ⊢
                        go_wp2
                        go_roundw
                        case rel => exact ⟨m + 1, by go_num, by omega, HMy, HNy⟩
                        case measure => simp [intOf]; omega
                      · have hmz : ¬ (m : Int) + 1 < (nn : Int) := by omega
                        go_wp2
                        go_roundw
                        case rel => exact ⟨k + 1, vm, tm, Lm, by omega, by go_num, HMm.out.bk, HMm.out.bel, HGm⟩
                        case measure => simp [intOf]; omega
            · by_cases h2 : x = 2
              · have b0 : (x == 0) = false := by simpa using h0
                have b1 : (x == 1) = false := by simpa using h1
                have b2 : (x == 2) = true := by simpa using h2
                clear h0 h1 h2
                go_wp2_with fail
                generalize W4.alloc (.cells #[] 35) = W5 at HP5 ⊢
                clear e0 e1 e2 e3 e4 e5
                refine (tick_any _ b s.fl s.ca k v t L _ HP5.out.bk HG.out (by omega)).mono ?_
                rintro e W5b ⟨rfl, hk6, kp6⟩
                have HR6 := Hid.intro' (HP5.out.bf.kp kp6 (fun g hg hF => by have h1 := HP5.out.old g hF; have h2 := (HP5.out.bf.lt g hg).1; omega))
                have HA6 := Hid.intro' (HP5.out.ac.kp kp6 (fun hF => by have := HP5.out.old _ hF; omega))
                have HB6 := Hid.intro' (kp6.below HP5.out.bel HP5.out.bel.size (fun i hi hF => by have := (HP5.out.bk.lo i hF).1; omega))
                have HK6 := Hid.intro' hk6
                have HO6 := Hid.intro' HP5.out.old
                have hwB : w.heap.size ≤ A0 := by have h1 := HP5.out.old b (.inl rfl); have h2 := HP5.out.bk.bb; omega
                clear hk6 kp6 HP5 HP4
                go_wp2
                go_loopw [10, 74] (fun _ i wr => ∃ j : Nat, j ≤ n8 ∧ i = .int .i64 j ∧ Hid (BK wr w.heap.size b s.fl s.ca v t (L.map KM.older)) ∧ Hid (RW wr (A0 + 1) (.slice a8 n8 cap8) (tk L j)) ∧ Hid (AB wr A0 x c y) ∧ Hid (Below w.heap.size w wr)) (fun _ i _ => n8 - (intOf i).toNat)
                case atStart => exact ⟨0, Nat.zero_le _, rfl, HK6, by rw [tk_zero]; exact HR6, HA6, HB6⟩
                case round =>
                  obtain ⟨j, hj, rfl, HKq, HRq, HAq, HBq⟩ := hrel
                  by_cases hjlt : j < n8
                  · have hjz : (j : Int) < (n8 : Int) := by omega
                    have hjL : j < L.length := by have := HN8.out; omega
                    rcases HRq.out.form with ⟨_, h⟩ | ⟨g8, cp, hv, hgB, hglt, _⟩
                    · have h' := congrArg List.length h
                      rw [tk_length L j (by omega), List.length_nil] at h'
                      omega
                    have ha8 : a8 = some ⟨g8, 0, none⟩ := by cases hv; rfl
                    have hix8 := fun W => ixK0 W (cap := cap8) ha8 hjlt
                    have hRg : RW wr (A0 + 1) (.slice (some ⟨g8, 0, none⟩) n8 cap8) (tk L j) := by have := HRq.out; rwa [ha8] at this
                    obtain ⟨z, hz, _, _, q2, _⟩ := hRg.elem (i := j) (by rw [tk_length L j (by omega)]; omega)
                    have q2f := hRg.fr (j * 4 + 2)
                    have hzL : L[j]? = some z := (tk_at L j).symm.trans hz
                    have hag := HG.out.age z (List.mem_of_getElem? hzL)
                    have hag1 := hag.1
                    have hag2 : z.ag ≤ 300 := by have := hag.2; omega
                    have HRn := Hid.intro' (hRg.aged hz (z.ag + 1))
                    have HZL := Hid.intro' hzL
                    have HA8 := Hid.intro' ha8
                    have HO := Hid.intro' (KM.older_ag (n := (k : Int)) hag.2 (by omega))
                    clear hv hz hzL ha8 hag hRg HRq
                    go_wp2
                    have hne : ∀ i, Fp b v i → i ≠ g8 := fun i hi e => by have := HO6.out i hi; omega
                    have hkp : Kp (fun i => i = g8) wr (wr.setCell ⟨g8, j * 4 + 2, none⟩ (.int .i64 (z.ag + 1))) := (Kp.refl _ _).set g8 _ _ (fun _ => rfl)
                    go_roundw
                    case rel =>
                      refine ⟨j + 1, by omega, by go_num, HKq.out.kp hkp (fun i hi e => hne i hi e), (show Hid _ from ?_), HAq.out.kp hkp (by omega), hkp.below HBq.out HBq.out.size (by omega)⟩
                      rw [← tk_succ HZL.out, show KM.older z = ⟨z.fl, z.ca, z.ag + 1, z.up⟩ from KM.ext rfl rfl HO.out rfl, HA8.out]
                      exact HRn.out
                    case measure => simp [intOf]; omega
                  · have hje : j = L.length := by have := HN8.out; omega
                    have hjz : ¬ (j : Int) < (n8 : Int) := by omega
                    have hjd : decide ((j : Int) < (n8 : Int)) = false := by simp; omega
                    obtain ⟨vm, tm, Lm, M, S, p, ex, HM, HMG, HX, HGm, HSV⟩ : ∃ (vm : Value) (tm : Nat) (Lm M S : List Cl) (p : Cl → Bool) (ex : List Cl), Hid (Md w wr b s.fl s.ca vm tm Lm M (.slice a8 n8 cap8) A0 x c y) ∧ Hid (KM.Mg M Lm S p ex) ∧ Hid (ex ≠ [] → x = 0) ∧ Hid (KM.Gd s.fl s.ca ((k + 1 : Nat) : Int) Lm) ∧ Hid (RV wr (.slice (some ⟨W4.heap.size, 0, none⟩) 0 0) S) := by
                      have hr := HRq.out.rv
                      rw [hje, tk_all] at hr
                      refine ⟨v, t, L.map KM.older, L.map KM.older, [], fun _ => false, [], ⟨HKq.out, ?_, HAq.out, HBq.out⟩, ?_, fun h => absurd rfl h, ?_, RV.nil _ _ _⟩
                      · exact hr
                      · have := KM.Mg.plain (L.map KM.older) [] (by simp)
                        rw [List.append_nil] at this
                        exact this
                      · exact HG.out.tick (by omega)
                    clear HKq HRq HAq HBq HO6 HG hje
                    go_wp2_with fail
                    refine (all_any _ _ _ _ _ _ _ _ HM.out.bk HGm.out.len).mono ?_
                    rintro e Wn ⟨vn, rfl, hrn, hbn⟩
                    have HMn := Hid.intro' (HM.out.next hbn)
                    have HSn := Hid.intro' (HSV.out.below' hbn)
                    obtain ⟨an, nn, capn, rfl⟩ := hrn.slice
                    have hnn := hrn.len
                    have HNn := Hid.intro' hrn.rv
                    have hlm := HGm.out.len
                    have hnn' : nn ≤ 128 := by omega
                    have HNN := Hid.intro' hnn
                    have hN8 := HMn.out.bf.len.1
                    have HNM := Hid.intro' hN8
                    clear hrn hbn HM HSV hnn hlm hN8
                    go_wp2
                    go_loopw [9, 12, 14, 90] (fun s9 s12 _ i wr => ∃ (j q : Nat), j ≤ n8 ∧ i = .int .i64 j ∧ s12 = .int .i64 q ∧ q ≤ 128 ∧ Hid (q = ((M.take j).filter fun z => !p z).length) ∧ Hid (RV wr s9 ((M.drop j).filter p)) ∧ Hid (Md w wr b s.fl s.ca vm tm Lm M (.slice a8 n8 cap8) A0 x c y) ∧ Hid (RV wr (.slice an nn capn) Lm)) (fun _ _ _ i _ => n8 - (intOf i).toNat)
                    case atStart => exact ⟨0, 0, Nat.zero_le _, rfl, rfl, by omega, rfl, by have := HMG.out.srv; rw [this] at HSn; exact HSn, HMn, HNn⟩
                    case round =>
                      obtain ⟨j, q, hj, rfl, rfl, hq, HQ, HSq, HMq, HNq⟩ := hrel
                      obtain ⟨S9, hS9⟩ : ∃ S9, S9 = (M.drop j).filter p := ⟨_, rfl⟩
                      rw [← hS9] at HSq
                      have HSE := Hid.intro' hS9
                      clear hS9
                      obtain ⟨a9', c9', rfl, hc9⟩ := HSq.out.form
                      by_cases hjlt : j < n8
                      · have hjz : (j : Int) < (n8 : Int) := by omega
                        have hjM : j < M.length := by have := HNM.out; omega
                        obtain ⟨z, hz⟩ : ∃ z, M[j]? = some z := ⟨_, List.getElem?_eq_getElem hjM⟩
                        obtain ⟨g8, o8, ha8, d0, d1, d2, d3⟩ := HMq.out.bf.at hz
                        have hix8 := fun W => ixK W (cap := cap8) ha8 hjlt
                        clear ha8 hjM
                        have HBz := Hid.intro' (CB.new wr z)
                        have HMz := Hid.intro' (HMq.out.next ((Below.refl wr.heap.size wr).alloc (Nat.le_refl _) (.cells #[.int .i64 z.fl, .int .i64 z.ca, .int .i64 z.ag, .bool z.up] 35)))
                        have HNz := Hid.intro' (HNq.out.alloc (.cells #[.int .i64 z.fl, .int .i64 z.ca, .int .i64 z.ag, .bool z.up] 35))
                        have HSz := Hid.intro' (HSq.out.alloc (.cells #[.int .i64 z.fl, .int .i64 z.ca, .int .i64 z.ag, .bool z.up] 35))
                        cases hp : p z with
                        | false =>
                          obtain ⟨k1, k2, k3⟩ := HMG.out.kept hz hp
                          rw [← HQ.out] at k1 k2
                          have hqn : q < nn := by have := (List.getElem?_eq_some_iff.1 k1).1; have := HNN.out; omega
                          have hqz : (q : Int) < (nn : Int) := by omega
                          obtain ⟨gn, on, han, n0, n1, n2, n3⟩ := HNz.out.at k1
                          have hixn := fun W => ixK W (cap := capn) han hqn
                          have hq1 : ∀ W, (Op.equalIn 10000 35 (.agg #[.int .i64 z.fl, .int .i64 z.ca, .int .i64 z.ag, .bool z.up]) (.agg #[.int .i64 z.fl, .int .i64 z.ca, .int .i64 z.ag, .bool z.up])).run Try.prog W = .ok true W := fun W => by rw [eqCall W z z, KM.same_refl]
                          have K2 := Hid.intro' k2
                          have K3 := Hid.intro' (HSE.out.trans k3)
                          clear han hz k1 k2 k3 HQ HMq HNq HSq HSE
                          go_wp2_with fail
                          generalize wr.alloc (.cells #[.int .i64 z.fl, .int .i64 z.ca, .int .i64 z.ag, .bool z.up] 35) = wz at HBz HMz HNz HSz n0 n1 n2 n3 ⊢
                          have z0 := HBz.out.c0
                          have z1 := HBz.out.c1
                          have z2 := HBz.out.c2
                          have z3 := HBz.out.c3
                          go_quiet (fail)
                          have hbq := below_drewN (Below.refl wz.heap.size wz) nq
                          have HMy := Hid.intro' (HMz.out.next hbq)
                          have HNy := Hid.intro' (HNz.out.below' hbq)
                          have HSy := Hid.intro' (HSz.out.below' hbq)
                          clear hbq HBz HMz HNz HSz z0 z1 z2 z3 n0 n1 n2 n3 d0 d1 d2 d3
                          generalize wz.drewN nq = wy at HMy HNy HSy ⊢
                          go_wp2
                          go_roundw
                          case rel => exact ⟨j + 1, q + 1, by omega, by go_num, by go_num, by omega, K2.out.symm, by rw [← K3.out]; exact HSy, HMy, HNy⟩
                          case measure => simp [intOf]; omega
                        | true =>
                          obtain ⟨k1, k2, k3⟩ := HMG.out.gone hz hp
                          rw [← HQ.out] at k2
                          rw [← HSE.out] at k3
                          obtain ⟨S8, hS8⟩ : ∃ S8, S8 = (M.drop (j + 1)).filter p := ⟨_, rfl⟩
                          rw [← hS8] at k3
                          subst k3
                          simp only [List.length_cons] at hc9 HSz ⊢
                          generalize hn9 : S8.length = n9' at HSz hc9 ⊢
                          have HN9 := Hid.intro' hn9
                          have hn9b : n9' ≤ 128 := by
                            have h1 := List.length_filter_le p (M.drop (j + 1))
                            rw [List.length_drop, ← hS8] at h1
                            have := HNM.out
                            omega
                          obtain ⟨g9, o9, ha9, s0, s1, s2, s3⟩ := HSz.out.at (i := 0) (y := z) rfl
                          subst ha9
                          simp only [Nat.zero_mul, Nat.add_zero] at s0 s1 s2 s3
                          have hq2 : ∀ W, (Op.equalIn 10000 35 (.agg #[.int .i64 z.fl, .int .i64 z.ca, .int .i64 z.ag, .bool z.up]) (.agg #[.int .i64 z.fl, .int .i64 z.ca, .int .i64 z.ag, .bool z.up])).run Try.prog W = .ok true W := fun W => by rw [eqCall W z z, KM.same_refl]
                          have K1 := Hid.intro' k1
                          have K2 := Hid.intro' k2
                          have HS8 := Hid.intro' hS8
                          clear hz k1 k2 HQ HMq HSq HSE hn9 hS8
                          by_cases hqn : q < nn
                          · have hqz : (q : Int) < (nn : Int) := by omega
                            obtain ⟨u, hu⟩ : ∃ u, Lm[q]? = some u := ⟨_, List.getElem?_eq_getElem (by have := HNN.out; omega)⟩
                            obtain ⟨gn, on, han, n0, n1, n2, n3⟩ := HNz.out.at hu
                            have hixn := fun W => ixK W (cap := capn) han hqn
                            have hq1 : ∀ W, (Op.equalIn 10000 35 (.agg #[.int .i64 u.fl, .int .i64 u.ca, .int .i64 u.ag, .bool u.up]) (.agg #[.int .i64 z.fl, .int .i64 z.ca, .int .i64 z.ag, .bool z.up])).run Try.prog W = .ok false W := fun W => by rw [eqCall W u z, K1.out u (List.mem_of_getElem? hu)]
                            clear han hu HNq
                            go_wp2_with fail
                            generalize wr.alloc (.cells #[.int .i64 z.fl, .int .i64 z.ca, .int .i64 z.ag, .bool z.up] 35) = wz at HBz HMz HNz HSz n0 n1 n2 n3 s0 s1 s2 s3 ⊢
                            have z0 := HBz.out.c0
                            have z1 := HBz.out.c1
                            have z2 := HBz.out.c2
                            have z3 := HBz.out.c3
                            go_quiet (fail)
                            have hbq := below_drewN (Below.refl wz.heap.size wz) nq
                            have HBy := Hid.intro' (HBz.out.below' hbq)
                            have HMy := Hid.intro' (HMz.out.next hbq)
                            have HNy := Hid.intro' (HNz.out.below' hbq)
                            have HSy := Hid.intro' (HSz.out.below' hbq)
                            clear hbq HBz HMz HNz HSz z0 z1 z2 z3 n0 n1 n2 n3 d0 d1 d2 d3 s0 s1 s2 s3
                            generalize wz.drewN nq = wy at HBy HMy HNy HSy ⊢
                            have z0 := HBy.out.c0
                            have z1 := HBy.out.c1
                            have z2 := HBy.out.c2
                            have z3 := HBy.out.c3
                            obtain ⟨g9', o9', hg9, s0, s1, s2, s3⟩ := HSy.out.at (i := 0) (y := z) rfl
                            cases hg9
                            simp only [Nat.zero_mul, Nat.add_zero] at s0 s1 s2 s3
                            have hn9z : ((n9' : Int) + 1 == 0) = false := by simp; omega
                            go_wp2_with fail
                            go_quiet (fail)
                            have hbq := below_drewN (Below.refl wy.heap.size wy) nq
                            have HMx := Hid.intro' (HMy.out.next hbq)
                            have HNx := Hid.intro' (HNy.out.below' hbq)
                            have HSx := Hid.intro' (HSy.out.below' hbq)
                            clear hbq HBy HMy HNy HSy z0 z1 z2 z3 s0 s1 s2 s3
                            generalize wy.drewN nq = wx at HMx HNx HSx ⊢
                            go_wp2
                            go_roundw
                            case rel =>
                              refine ⟨j + 1, q, by omega, by go_num, rfl, hq, K2.out.symm, (show Hid _ from ?_), HMx, HNx⟩
                              rw [← HS8.out]
                              have h9 := HSx.out.rest (if c9' = 1 then some ⟨g9, o9, none⟩ else some ⟨g9, o9 + 4, none⟩) (fun h => if_neg h)
                              rw [HN9.out] at h9
                              exact h9
                            case measure => simp [intOf]; omega
                          · have hqz : decide ((q : Int) < (nn : Int)) = false := by simp; omega
                            clear HNq
                            go_wp2_with fail
                            generalize wr.alloc (.cells #[.int .i64 z.fl, .int .i64 z.ca, .int .i64 z.ag, .bool z.up] 35) = wz at HBz HMz HNz HSz s0 s1 s2 s3 ⊢
                            have z0 := HBz.out.c0
                            have z1 := HBz.out.c1
                            have z2 := HBz.out.c2
                            have z3 := HBz.out.c3
                            go_quiet (fail)
                            have hbq := below_drewN (Below.refl wz.heap.size wz) nq
                            have HBy := Hid.intro' (HBz.out.below' hbq)
                            have HMy := Hid.intro' (HMz.out.next hbq)
                            have HNy := Hid.intro' (HNz.out.below' hbq)
                            have HSy := Hid.intro' (HSz.out.below' hbq)
                            clear hbq HBz HMz HNz HSz z0 z1 z2 z3  d0 d1 d2 d3 s0 s1 s2 s3
                            generalize wz.drewN nq = wy at HBy HMy HNy HSy ⊢
                            have z0 := HBy.out.c0
                            have z1 := HBy.out.c1
                            have z2 := HBy.out.c2
                            have z3 := HBy.out.c3
                            obtain ⟨g9', o9', hg9, s0, s1, s2, s3⟩ := HSy.out.at (i := 0) (y := z) rfl
                            cases hg9
                            simp only [Nat.zero_mul, Nat.add_zero] at s0 s1 s2 s3
                            have hn9z : ((n9' : Int) + 1 == 0) = false := by simp; omega
                            go_wp2_with fail
                            go_quiet (fail)
                            have hbq := below_drewN (Below.refl wy.heap.size wy) nq
                            have HMx := Hid.intro' (HMy.out.next hbq)
                            have HNx := Hid.intro' (HNy.out.below' hbq)
                            have HSx := Hid.intro' (HSy.out.below' hbq)
                            clear hbq HBy HMy HNy HSy z0 z1 z2 z3 s0 s1 s2 s3
                            generalize wy.drewN nq = wx at HMx HNx HSx ⊢
                            go_wp2
                            go_roundw
                            case rel =>
                              refine ⟨j + 1, q, by omega, by go_num, rfl, hq, K2.out.symm, (show Hid _ from ?_), HMx, HNx⟩
                              rw [← HS8.out]
                              have h9 := HSx.out.rest (if c9' = 1 then some ⟨g9, o9, none⟩ else some ⟨g9, o9 + 4, none⟩) (fun h => if_neg h)
                              rw [HN9.out] at h9
                              exact h9
                            case measure => simp [intOf]; omega
                      · have hje : j = n8 := by omega
                        have hjz : ¬ (j : Int) < (n8 : Int) := by omega
                        have hjd : decide ((j : Int) < (n8 : Int)) = false := by simp; omega
                        have hMj : M.take j = M := List.take_of_length_le (by have := HNM.out; omega)
                        have hdr : (M.drop j).filter p = [] := by rw [List.drop_of_length_le (by have := HNM.out; omega)]; rfl
                        have hlen := HMG.out.len
                        have hone := HMG.out.one
                        have hqe := HQ.out
                        rw [hMj] at hqe
                        have hS9' : S9.length = 0 := by rw [HSE.out, hdr]; rfl
                        rw [hS9']
                        have hnq : nn = q + ex.length := by rw [HNN.out, hlen, hqe]
                        have hs1 : decide ((1 : Int) < (nn : Int) - (q : Int)) = false := by simp; omega
                        have hs2 : decide ((128 : Int) < (nn : Int)) = false := by simp; omega
                        have hsg : (q : Int) ≤ (nn : Int) := by omega
                        have e0 := HMq.out.ac.c0
                        have HHX : Hid (q < nn → x = 0) := fun h => HX.out (by intro e; rw [e] at hnq; simp at hnq; omega)
                        clear hMj hdr hlen hone hqe hnq HQ HSq hc9 hS9' HSE hje
                        by_cases hex : q < nn
                        · have hx0 := HHX.out hex
                          have hx1 : (x != 0) = false := by simp [hx0]
                          have hqz : decide ((q : Int) < (nn : Int)) = true := by simp; omega
                          clear hx0 HHX
                          go_wp2
                          go_loopw [15] (fun i wr => ∃ m : Nat, i = .int .i64 ((m : Int) + 1) ∧ m ≤ 128 ∧ Hid (Md w wr b s.fl s.ca vm tm Lm M (.slice a8 n8 cap8) A0 x c y) ∧ Hid (RV wr (.slice an nn capn) Lm)) (fun i _ => 200 - (intOf i).toNat)
                          case atStart => exact ⟨0, rfl, by omega, HMq, HNq⟩
                          case round =>
                            obtain ⟨m, rfl, hm, HMm, HNm⟩ := hrel
                            by_cases hmlt : m + 1 < nn
                            · have hmz : (m : Int) + 1 < (nn : Int) := by omega
                              obtain ⟨u0, hu0⟩ : ∃ u, Lm[m]? = some u := ⟨_, List.getElem?_eq_getElem (by have := HNN.out; omega)⟩
                              obtain ⟨u1, hu1⟩ : ∃ u, Lm[m + 1]? = some u := ⟨_, List.getElem?_eq_getElem (by have := HNN.out; omega)⟩
                              obtain ⟨gn, on, han, _, _, r0, _⟩ := HNm.out.at hu0
                              obtain ⟨gn', on', han', _, _, r1, _⟩ := HNm.out.at hu1
                              have hgg : some (⟨gn', on', none⟩ : Addr) = some ⟨gn, on, none⟩ := han'.symm.trans han
                              cases hgg
                              have hix0 := fun W => ixK W (n := nn) (cap := capn) (j := m) han (by omega)
                              have hix1 : ∀ W, (Instr.indexAt 30 (.slice an nn capn) (.int .i64 ((m : Int) + 1))).run Try.prog W = .ok (.pointer (some ⟨gn, on + (m + 1) * 4, none⟩)) W := fun W => ixK W (cap := capn) (j := m + 1) han hmlt
                              have hage : u1.ag ≤ u0.ag := by
                                have hd := HGm.out.des
                                rw [List.pairwise_iff_getElem] at hd
                                obtain ⟨i0, e0'⟩ := List.getElem?_eq_some_iff.1 hu0
                                obtain ⟨i1, e1'⟩ := List.getElem?_eq_some_iff.1 hu1
                                have := hd m (m + 1) i0 i1 (by omega)
                                rw [e0', e1'] at this
                                exact this
                              have hdec : decide (u0.ag < u1.ag) = false := by simp; omega
                              have hwm : IntKind.i64.wrap ((m : Int) + 1 - 1) = m := by rw [IntKind.wrap_i64]; omega
                              clear hage han han' hu0 hu1
                              go_wp2_with fail
                              go_quiet (fail)
                              have hbq := below_drewN (Below.refl wr.heap.size wr) nq
                              have HMy := Hid.intro' (HMm.out.next hbq)
                              have HNy := Hid.intro' (HNm.out.below' hbq)
                              clear hbq r0 r1 HMm HNm
                              generalize wr.drewN nq = wy at HMy HNy ⊢
                              go_wp2
                              go_roundw
                              case rel => exact ⟨m + 1, by go_num, by omega, HMy, HNy⟩
                              case measure => simp [intOf]; omega
                            · have hmz : ¬ (m : Int) + 1 < (nn : Int) := by omega
                              go_wp2
                              go_roundw
                              case rel => exact ⟨k + 1, vm, tm, Lm, by omega, by go_num, HMm.out.bk, HMm.out.bel, HGm⟩
                              case measure => simp [intOf]; omega
                        · have hqz : decide ((q : Int) < (nn : Int)) = false := by simp; omega
                          clear HHX
                          go_wp2
                          go_loopw [15] (fun i wr => ∃ m : Nat, i = .int .i64 ((m : Int) + 1) ∧ m ≤ 128 ∧ Hid (Md w wr b s.fl s.ca vm tm Lm M (.slice a8 n8 cap8) A0 x c y) ∧ Hid (RV wr (.slice an nn capn) Lm)) (fun i _ => 200 - (intOf i).toNat)
                          case atStart => exact ⟨0, rfl, by omega, HMq, HNq⟩
                          case round =>
                            obtain ⟨m, rfl, hm, HMm, HNm⟩ := hrel
                            by_cases hmlt : m + 1 < nn
                            · have hmz : (m : Int) + 1 < (nn : Int) := by omega
                              obtain ⟨u0, hu0⟩ : ∃ u, Lm[m]? = some u := ⟨_, List.getElem?_eq_getElem (by have := HNN.out; omega)⟩
                              obtain ⟨u1, hu1⟩ : ∃ u, Lm[m + 1]? = some u := ⟨_, List.getElem?_eq_getElem (by have := HNN.out; omega)⟩
                              obtain ⟨gn, on, han, _, _, r0, _⟩ := HNm.out.at hu0
                              obtain ⟨gn', on', han', _, _, r1, _⟩ := HNm.out.at hu1
                              have hgg : some (⟨gn', on', none⟩ : Addr) = some ⟨gn, on, none⟩ := han'.symm.trans han
                              cases hgg
                              have hix0 := fun W => ixK W (n := nn) (cap := capn) (j := m) han (by omega)
                              have hix1 : ∀ W, (Instr.indexAt 30 (.slice an nn capn) (.int .i64 ((m : Int) + 1))).run Try.prog W = .ok (.pointer (some ⟨gn, on + (m + 1) * 4, none⟩)) W := fun W => ixK W (cap := capn) (j := m + 1) han hmlt
                              have hage : u1.ag ≤ u0.ag := by
                                have hd := HGm.out.des
                                rw [List.pairwise_iff_getElem] at hd
                                obtain ⟨i0, e0'⟩ := List.getElem?_eq_some_iff.1 hu0
                                obtain ⟨i1, e1'⟩ := List.getElem?_eq_some_iff.1 hu1
                                have := hd m (m + 1) i0 i1 (by omega)
                                rw [e0', e1'] at this
                                exact this
                              have hdec : decide (u0.ag < u1.ag) = false := by simp; omega
                              have hwm : IntKind.i64.wrap ((m : Int) + 1 - 1) = m := by rw [IntKind.wrap_i64]; omega
                              clear hage han han' hu0 hu1
                              go_wp2_with fail
                              go_quiet (fail)
                              have hbq := below_drewN (Below.refl wr.heap.size wr) nq
                              have HMy := Hid.intro' (HMm.out.next hbq)
                              have HNy := Hid.intro' (HNm.out.below' hbq)
                              clear hbq r0 r1 HMm HNm
                              generalize wr.drewN nq = wy at HMy HNy ⊢
                              go_wp2
                              go_roundw
                              case rel => exact ⟨m + 1, by go_num, by omega, HMy, HNy⟩
                              case measure => simp [intOf]; omega
                            · have hmz : ¬ (m : Int) + 1 < (nn : Int) := by omega
                              go_wp2
                              go_roundw
                              case rel => exact ⟨k + 1, vm, tm, Lm, by omega, by go_num, HMm.out.bk, HMm.out.bel, HGm⟩
                              case measure => simp [intOf]; omega
              · have b0 : (x == 0) = false := by simpa using h0
                have b1 : (x == 1) = false := by simpa using h1
                have b2 : (x == 2) = false := by simpa using h2
                clear h0 h1 h2
                go_wp2_with fail
                generalize W4.alloc (.cells #[] 35) = W5 at HP5 ⊢
                clear e0 e1 e2 e3 e4 e5
                refine (serve_any _ b s.fl s.ca v t L c.ca c.fl c.up y _ HP5.out.bk hL).mono ?_
                rintro e W6 ⟨vo, v6, rfl, ho6, hk6, hx6, kp6⟩
                obtain ⟨a9, n9, c9, rfl⟩ := ho6.slice
                obtain ⟨vm, tm, Lm, M, S, p, ex, HM, HMG, HX, HGm, HSV⟩ : ∃ (vm : Value) (tm : Nat) (Lm M S : List Cl) (p : Cl → Bool) (ex : List Cl), Hid (Md w W6 b s.fl s.ca vm tm Lm M (.slice a8 n8 cap8) A0 x c y) ∧ Hid (KM.Mg M Lm S p ex) ∧ Hid (ex ≠ [] → x = 0) ∧ Hid (KM.Gd s.fl s.ca ((k + 1 : Nat) : Int) Lm) ∧ Hid (RV W6 (.slice a9 n9 c9) S) :=
                  ⟨v6, t, _, L, _, KM.srv c.ca c.fl c.up y, [], HP5.out.upd hk6 kp6, KM.Mg.served L _, fun h => absurd rfl h, (HG.out.filter _).up (by omega), ho6.rv⟩
                clear ho6 hk6 hx6 kp6 HP5 HP4 HG
                go_wp2_with fail
                refine (all_any _ _ _ _ _ _ _ _ HM.out.bk HGm.out.len).mono ?_
                rintro e Wn ⟨vn, rfl, hrn, hbn⟩
                have HMn := Hid.intro' (HM.out.next hbn)
                have HSn := Hid.intro' (HSV.out.below' hbn)
                obtain ⟨an, nn, capn, rfl⟩ := hrn.slice
                have hnn := hrn.len
                have HNn := Hid.intro' hrn.rv
                have hlm := HGm.out.len
                have hnn' : nn ≤ 128 := by omega
                have HNN := Hid.intro' hnn
                have hN8 := HMn.out.bf.len.1
                have HNM := Hid.intro' hN8
                clear hrn hbn HM HSV hnn hlm hN8
                go_wp2
                go_loopw [9, 12, 14, 90] (fun s9 s12 _ i wr => ∃ (j q : Nat), j ≤ n8 ∧ i = .int .i64 j ∧ s12 = .int .i64 q ∧ q ≤ 128 ∧ Hid (q = ((M.take j).filter fun z => !p z).length) ∧ Hid (RV wr s9 ((M.drop j).filter p)) ∧ Hid (Md w wr b s.fl s.ca vm tm Lm M (.slice a8 n8 cap8) A0 x c y) ∧ Hid (RV wr (.slice an nn capn) Lm)) (fun _ _ _ i _ => n8 - (intOf i).toNat)
                case atStart => exact ⟨0, 0, Nat.zero_le _, rfl, rfl, by omega, rfl, by have := HMG.out.srv; rw [this] at HSn; exact HSn, HMn, HNn⟩
                case round =>
                  obtain ⟨j, q, hj, rfl, rfl, hq, HQ, HSq, HMq, HNq⟩ := hrel
                  obtain ⟨S9, hS9⟩ : ∃ S9, S9 = (M.drop j).filter p := ⟨_, rfl⟩
                  rw [← hS9] at HSq
                  have HSE := Hid.intro' hS9
                  clear hS9
                  obtain ⟨a9', c9', rfl, hc9⟩ := HSq.out.form
                  by_cases hjlt : j < n8
                  · have hjz : (j : Int) < (n8 : Int) := by omega
                    have hjM : j < M.length := by have := HNM.out; omega
                    obtain ⟨z, hz⟩ : ∃ z, M[j]? = some z := ⟨_, List.getElem?_eq_getElem hjM⟩
                    obtain ⟨g8, o8, ha8, d0, d1, d2, d3⟩ := HMq.out.bf.at hz
                    have hix8 := fun W => ixK W (cap := cap8) ha8 hjlt
                    clear ha8 hjM
                    have HBz := Hid.intro' (CB.new wr z)
                    have HMz := Hid.intro' (HMq.out.next ((Below.refl wr.heap.size wr).alloc (Nat.le_refl _) (.cells #[.int .i64 z.fl, .int .i64 z.ca, .int .i64 z.ag, .bool z.up] 35)))
                    have HNz := Hid.intro' (HNq.out.alloc (.cells #[.int .i64 z.fl, .int .i64 z.ca, .int .i64 z.ag, .bool z.up] 35))
                    have HSz := Hid.intro' (HSq.out.alloc (.cells #[.int .i64 z.fl, .int .i64 z.ca, .int .i64 z.ag, .bool z.up] 35))
                    cases hp : p z with
                    | false =>
                      obtain ⟨k1, k2, k3⟩ := HMG.out.kept hz hp
                      rw [← HQ.out] at k1 k2
                      have hqn : q < nn := by have := (List.getElem?_eq_some_iff.1 k1).1; have := HNN.out; omega
                      have hqz : (q : Int) < (nn : Int) := by omega
                      obtain ⟨gn, on, han, n0, n1, n2, n3⟩ := HNz.out.at k1
                      have hixn := fun W => ixK W (cap := capn) han hqn
                      have hq1 : ∀ W, (Op.equalIn 10000 35 (.agg #[.int .i64 z.fl, .int .i64 z.ca, .int .i64 z.ag, .bool z.up]) (.agg #[.int .i64 z.fl, .int .i64 z.ca, .int .i64 z.ag, .bool z.up])).run Try.prog W = .ok true W := fun W => by rw [eqCall W z z, KM.same_refl]
                      have K2 := Hid.intro' k2
                      have K3 := Hid.intro' (HSE.out.trans k3)
                      clear han hz k1 k2 k3 HQ HMq HNq HSq HSE
                      go_wp2_with fail
                      generalize wr.alloc (.cells #[.int .i64 z.fl, .int .i64 z.ca, .int .i64 z.ag, .bool z.up] 35) = wz at HBz HMz HNz HSz n0 n1 n2 n3 ⊢
                      have z0 := HBz.out.c0
                      have z1 := HBz.out.c1
                      have z2 := HBz.out.c2
                      have z3 := HBz.out.c3
                      go_quiet (fail)
                      have hbq := below_drewN (Below.refl wz.heap.size wz) nq
                      have HMy := Hid.intro' (HMz.out.next hbq)
                      have HNy := Hid.intro' (HNz.out.below' hbq)
                      have HSy := Hid.intro' (HSz.out.below' hbq)
                      clear hbq HBz HMz HNz HSz z0 z1 z2 z3 n0 n1 n2 n3 d0 d1 d2 d3
                      generalize wz.drewN nq = wy at HMy HNy HSy ⊢
                      go_wp2
                      go_roundw
                      case rel => exact ⟨j + 1, q + 1, by omega, by go_num, by go_num, by omega, K2.out.symm, by rw [← K3.out]; exact HSy, HMy, HNy⟩
                      case measure => simp [intOf]; omega
                    | true =>
                      obtain ⟨k1, k2, k3⟩ := HMG.out.gone hz hp
                      rw [← HQ.out] at k2
                      rw [← HSE.out] at k3
                      obtain ⟨S8, hS8⟩ : ∃ S8, S8 = (M.drop (j + 1)).filter p := ⟨_, rfl⟩
                      rw [← hS8] at k3
                      subst k3
                      simp only [List.length_cons] at hc9 HSz ⊢
                      generalize hn9 : S8.length = n9' at HSz hc9 ⊢
                      have HN9 := Hid.intro' hn9
                      have hn9b : n9' ≤ 128 := by
                        have h1 := List.length_filter_le p (M.drop (j + 1))
                        rw [List.length_drop, ← hS8] at h1
                        have := HNM.out
                        omega
                      obtain ⟨g9, o9, ha9, s0, s1, s2, s3⟩ := HSz.out.at (i := 0) (y := z) rfl
                      subst ha9
                      simp only [Nat.zero_mul, Nat.add_zero] at s0 s1 s2 s3
                      have hq2 : ∀ W, (Op.equalIn 10000 35 (.agg #[.int .i64 z.fl, .int .i64 z.ca, .int .i64 z.ag, .bool z.up]) (.agg #[.int .i64 z.fl, .int .i64 z.ca, .int .i64 z.ag, .bool z.up])).run Try.prog W = .ok true W := fun W => by rw [eqCall W z z, KM.same_refl]
                      have K1 := Hid.intro' k1
                      have K2 := Hid.intro' k2
                      have HS8 := Hid.intro' hS8
                      clear hz k1 k2 HQ HMq HSq HSE hn9 hS8
                      by_cases hqn : q < nn
                      · have hqz : (q : Int) < (nn : Int) := by omega
                        obtain ⟨u, hu⟩ : ∃ u, Lm[q]? = some u := ⟨_, List.getElem?_eq_getElem (by have := HNN.out; omega)⟩
                        obtain ⟨gn, on, han, n0, n1, n2, n3⟩ := HNz.out.at hu
                        have hixn := fun W => ixK W (cap := capn) han hqn
                        have hq1 : ∀ W, (Op.equalIn 10000 35 (.agg #[.int .i64 u.fl, .int .i64 u.ca, .int .i64 u.ag, .bool u.up]) (.agg #[.int .i64 z.fl, .int .i64 z.ca, .int .i64 z.ag, .bool z.up])).run Try.prog W = .ok false W := fun W => by rw [eqCall W u z, K1.out u (List.mem_of_getElem? hu)]
                        clear han hu HNq
                        go_wp2_with fail
                        generalize wr.alloc (.cells #[.int .i64 z.fl, .int .i64 z.ca, .int .i64 z.ag, .bool z.up] 35) = wz at HBz HMz HNz HSz n0 n1 n2 n3 s0 s1 s2 s3 ⊢
                        have z0 := HBz.out.c0
                        have z1 := HBz.out.c1
                        have z2 := HBz.out.c2
                        have z3 := HBz.out.c3
                        go_quiet (fail)
                        have hbq := below_drewN (Below.refl wz.heap.size wz) nq
                        have HBy := Hid.intro' (HBz.out.below' hbq)
                        have HMy := Hid.intro' (HMz.out.next hbq)
                        have HNy := Hid.intro' (HNz.out.below' hbq)
                        have HSy := Hid.intro' (HSz.out.below' hbq)
                        clear hbq HBz HMz HNz HSz z0 z1 z2 z3 n0 n1 n2 n3 d0 d1 d2 d3 s0 s1 s2 s3
                        generalize wz.drewN nq = wy at HBy HMy HNy HSy ⊢
                        have z0 := HBy.out.c0
                        have z1 := HBy.out.c1
                        have z2 := HBy.out.c2
                        have z3 := HBy.out.c3
                        obtain ⟨g9', o9', hg9, s0, s1, s2, s3⟩ := HSy.out.at (i := 0) (y := z) rfl
                        cases hg9
                        simp only [Nat.zero_mul, Nat.add_zero] at s0 s1 s2 s3
                        have hn9z : ((n9' : Int) + 1 == 0) = false := by simp; omega
                        go_wp2_with fail
                        go_quiet (fail)
                        have hbq := below_drewN (Below.refl wy.heap.size wy) nq
                        have HMx := Hid.intro' (HMy.out.next hbq)
                        have HNx := Hid.intro' (HNy.out.below' hbq)
                        have HSx := Hid.intro' (HSy.out.below' hbq)
                        clear hbq HBy HMy HNy HSy z0 z1 z2 z3 s0 s1 s2 s3
                        generalize wy.drewN nq = wx at HMx HNx HSx ⊢
                        go_wp2
                        go_roundw
                        case rel =>
                          refine ⟨j + 1, q, by omega, by go_num, rfl, hq, K2.out.symm, (show Hid _ from ?_), HMx, HNx⟩
                          rw [← HS8.out]
                          have h9 := HSx.out.rest (if c9' = 1 then some ⟨g9, o9, none⟩ else some ⟨g9, o9 + 4, none⟩) (fun h => if_neg h)
                          rw [HN9.out] at h9
                          exact h9
                        case measure => simp [intOf]; omega
                      · have hqz : decide ((q : Int) < (nn : Int)) = false := by simp; omega
                        clear HNq
                        go_wp2_with fail
                        generalize wr.alloc (.cells #[.int .i64 z.fl, .int .i64 z.ca, .int .i64 z.ag, .bool z.up] 35) = wz at HBz HMz HNz HSz s0 s1 s2 s3 ⊢
                        have z0 := HBz.out.c0
                        have z1 := HBz.out.c1
                        have z2 := HBz.out.c2
                        have z3 := HBz.out.c3
                        go_quiet (fail)
                        have hbq := below_drewN (Below.refl wz.heap.size wz) nq
                        have HBy := Hid.intro' (HBz.out.below' hbq)
                        have HMy := Hid.intro' (HMz.out.next hbq)
                        have HNy := Hid.intro' (HNz.out.below' hbq)
                        have HSy := Hid.intro' (HSz.out.below' hbq)
                        clear hbq HBz HMz HNz HSz z0 z1 z2 z3  d0 d1 d2 d3 s0 s1 s2 s3
                        generalize wz.drewN nq = wy at HBy HMy HNy HSy ⊢
                        have z0 := HBy.out.c0
                        have z1 := HBy.out.c1
                        have z2 := HBy.out.c2
                        have z3 := HBy.out.c3
                        obtain ⟨g9', o9', hg9, s0, s1, s2, s3⟩ := HSy.out.at (i := 0) (y := z) rfl
                        cases hg9
                        simp only [Nat.zero_mul, Nat.add_zero] at s0 s1 s2 s3
                        have hn9z : ((n9' : Int) + 1 == 0) = false := by simp; omega
                        go_wp2_with fail
                        go_quiet (fail)
                        have hbq := below_drewN (Below.refl wy.heap.size wy) nq
                        have HMx := Hid.intro' (HMy.out.next hbq)
                        have HNx := Hid.intro' (HNy.out.below' hbq)
                        have HSx := Hid.intro' (HSy.out.below' hbq)
                        clear hbq HBy HMy HNy HSy z0 z1 z2 z3 s0 s1 s2 s3
                        generalize wy.drewN nq = wx at HMx HNx HSx ⊢
                        go_wp2
                        go_roundw
                        case rel =>
                          refine ⟨j + 1, q, by omega, by go_num, rfl, hq, K2.out.symm, (show Hid _ from ?_), HMx, HNx⟩
                          rw [← HS8.out]
                          have h9 := HSx.out.rest (if c9' = 1 then some ⟨g9, o9, none⟩ else some ⟨g9, o9 + 4, none⟩) (fun h => if_neg h)
                          rw [HN9.out] at h9
                          exact h9
                        case measure => simp [intOf]; omega
                  · have hje : j = n8 := by omega
                    have hjz : ¬ (j : Int) < (n8 : Int) := by omega
                    have hjd : decide ((j : Int) < (n8 : Int)) = false := by simp; omega
                    have hMj : M.take j = M := List.take_of_length_le (by have := HNM.out; omega)
                    have hdr : (M.drop j).filter p = [] := by rw [List.drop_of_length_le (by have := HNM.out; omega)]; rfl
                    have hlen := HMG.out.len
                    have hone := HMG.out.one
                    have hqe := HQ.out
                    rw [hMj] at hqe
                    have hS9' : S9.length = 0 := by rw [HSE.out, hdr]; rfl
                    rw [hS9']
                    have hnq : nn = q + ex.length := by rw [HNN.out, hlen, hqe]
                    have hs1 : decide ((1 : Int) < (nn : Int) - (q : Int)) = false := by simp; omega
                    have hs2 : decide ((128 : Int) < (nn : Int)) = false := by simp; omega
                    have hsg : (q : Int) ≤ (nn : Int) := by omega
                    have e0 := HMq.out.ac.c0
                    have HHX : Hid (q < nn → x = 0) := fun h => HX.out (by intro e; rw [e] at hnq; simp at hnq; omega)
                    clear hMj hdr hlen hone hqe hnq HQ HSq hc9 hS9' HSE hje
                    by_cases hex : q < nn
                    · have hx0 := HHX.out hex
                      have hx1 : (x != 0) = false := by simp [hx0]
                      have hqz : decide ((q : Int) < (nn : Int)) = true := by simp; omega
                      clear hx0 HHX
                      go_wp2
                      go_loopw [15] (fun i wr => ∃ m : Nat, i = .int .i64 ((m : Int) + 1) ∧ m ≤ 128 ∧ Hid (Md w wr b s.fl s.ca vm tm Lm M (.slice a8 n8 cap8) A0 x c y) ∧ Hid (RV wr (.slice an nn capn) Lm)) (fun i _ => 200 - (intOf i).toNat)
                      case atStart => exact ⟨0, rfl, by omega, HMq, HNq⟩
                      case round =>
                        obtain ⟨m, rfl, hm, HMm, HNm⟩ := hrel
                        by_cases hmlt : m + 1 < nn
                        · have hmz : (m : Int) + 1 < (nn : Int) := by omega
                          obtain ⟨u0, hu0⟩ : ∃ u, Lm[m]? = some u := ⟨_, List.getElem?_eq_getElem (by have := HNN.out; omega)⟩
                          obtain ⟨u1, hu1⟩ : ∃ u, Lm[m + 1]? = some u := ⟨_, List.getElem?_eq_getElem (by have := HNN.out; omega)⟩
                          obtain ⟨gn, on, han, _, _, r0, _⟩ := HNm.out.at hu0
                          obtain ⟨gn', on', han', _, _, r1, _⟩ := HNm.out.at hu1
                          have hgg : some (⟨gn', on', none⟩ : Addr) = some ⟨gn, on, none⟩ := han'.symm.trans han
                          cases hgg
                          have hix0 := fun W => ixK W (n := nn) (cap := capn) (j := m) han (by omega)
                          have hix1 : ∀ W, (Instr.indexAt 30 (.slice an nn capn) (.int .i64 ((m : Int) + 1))).run Try.prog W = .ok (.pointer (some ⟨gn, on + (m + 1) * 4, none⟩)) W := fun W => ixK W (cap := capn) (j := m + 1) han hmlt
                          have hage : u1.ag ≤ u0.ag := by
                            have hd := HGm.out.des
                            rw [List.pairwise_iff_getElem] at hd
                            obtain ⟨i0, e0'⟩ := List.getElem?_eq_some_iff.1 hu0
                            obtain ⟨i1, e1'⟩ := List.getElem?_eq_some_iff.1 hu1
                            have := hd m (m + 1) i0 i1 (by omega)
                            rw [e0', e1'] at this
                            exact this
                          have hdec : decide (u0.ag < u1.ag) = false := by simp; omega
                          have hwm : IntKind.i64.wrap ((m : Int) + 1 - 1) = m := by rw [IntKind.wrap_i64]; omega
                          clear hage han han' hu0 hu1
                          go_wp2_with fail
                          go_quiet (fail)
                          have hbq := below_drewN (Below.refl wr.heap.size wr) nq
                          have HMy := Hid.intro' (HMm.out.next hbq)
                          have HNy := Hid.intro' (HNm.out.below' hbq)
                          clear hbq r0 r1 HMm HNm
                          generalize wr.drewN nq = wy at HMy HNy ⊢
                          go_wp2
                          go_roundw
                          case rel => exact ⟨m + 1, by go_num, by omega, HMy, HNy⟩
                          case measure => simp [intOf]; omega
                        · have hmz : ¬ (m : Int) + 1 < (nn : Int) := by omega
                          go_wp2
                          go_roundw
                          case rel => exact ⟨k + 1, vm, tm, Lm, by omega, by go_num, HMm.out.bk, HMm.out.bel, HGm⟩
                          case measure => simp [intOf]; omega
                    · have hqz : decide ((q : Int) < (nn : Int)) = false := by simp; omega
                      clear HHX
                      go_wp2
                      go_loopw [15] (fun i wr => ∃ m : Nat, i = .int .i64 ((m : Int) + 1) ∧ m ≤ 128 ∧ Hid (Md w wr b s.fl s.ca vm tm Lm M (.slice a8 n8 cap8) A0 x c y) ∧ Hid (RV wr (.slice an nn capn) Lm)) (fun i _ => 200 - (intOf i).toNat)
                      case atStart => exact ⟨0, rfl, by omega, HMq, HNq⟩
                      case round =>
                        obtain ⟨m, rfl, hm, HMm, HNm⟩ := hrel
                        by_cases hmlt : m + 1 < nn
                        · have hmz : (m : Int) + 1 < (nn : Int) := by omega
                          obtain ⟨u0, hu0⟩ : ∃ u, Lm[m]? = some u := ⟨_, List.getElem?_eq_getElem (by have := HNN.out; omega)⟩
                          obtain ⟨u1, hu1⟩ : ∃ u, Lm[m + 1]? = some u := ⟨_, List.getElem?_eq_getElem (by have := HNN.out; omega)⟩
                          obtain ⟨gn, on, han, _, _, r0, _⟩ := HNm.out.at hu0
                          obtain ⟨gn', on', han', _, _, r1, _⟩ := HNm.out.at hu1
                          have hgg : some (⟨gn', on', none⟩ : Addr) = some ⟨gn, on, none⟩ := han'.symm.trans han
                          cases hgg
                          have hix0 := fun W => ixK W (n := nn) (cap := capn) (j := m) han (by omega)
                          have hix1 : ∀ W, (Instr.indexAt 30 (.slice an nn capn) (.int .i64 ((m : Int) + 1))).run Try.prog W = .ok (.pointer (some ⟨gn, on + (m + 1) * 4, none⟩)) W := fun W => ixK W (cap := capn) (j := m + 1) han hmlt
                          have hage : u1.ag ≤ u0.ag := by
                            have hd := HGm.out.des
                            rw [List.pairwise_iff_getElem] at hd
                            obtain ⟨i0, e0'⟩ := List.getElem?_eq_some_iff.1 hu0
                            obtain ⟨i1, e1'⟩ := List.getElem?_eq_some_iff.1 hu1
                            have := hd m (m + 1) i0 i1 (by omega)
                            rw [e0', e1'] at this
                            exact this
                          have hdec : decide (u0.ag < u1.ag) = false := by simp; omega
                          have hwm : IntKind.i64.wrap ((m : Int) + 1 - 1) = m := by rw [IntKind.wrap_i64]; omega
                          clear hage han han' hu0 hu1
                          go_wp2_with fail
                          go_quiet (fail)
                          have hbq := below_drewN (Below.refl wr.heap.size wr) nq
                          have HMy := Hid.intro' (HMm.out.next hbq)
                          have HNy := Hid.intro' (HNm.out.below' hbq)
                          clear hbq r0 r1 HMm HNm
                          generalize wr.drewN nq = wy at HMy HNy ⊢
                          go_wp2
                          go_roundw
                          case rel => exact ⟨m + 1, by go_num, by omega, HMy, HNy⟩
                          case measure => simp [intOf]; omega
                        · have hmz : ¬ (m : Int) + 1 < (nn : Int) := by omega
                          go_wp2
                          go_roundw
                          case rel => exact ⟨k + 1, vm, tm, Lm, by omega, by go_num, HMm.out.bk, HMm.out.bel, HGm⟩
                          case measure => simp [intOf]; omega
        · obtain rfl : k = len := by omega
          have hkz : ¬ (k : Int) < (k : Int) := by omega
          go_wp2
          go_ret
          exact ⟨rfl, HB.out⟩
  · go_wp2_with (refine wpList_load23 rfl _ rfl w.heap.size s rfl HS1.out ?_)
    refine (rright_f s R _).mono ?_
    rintro e W2 ⟨rfl, hb2⟩
    have HB2 := Hid.intro' (below_class HB1.out hb2)
    clear hb2 HB1 HS1
    go_wp2
    go_ret
    exact ⟨rfl, HB2.out⟩

end Go.Proofs.Ytiihnjfknohhbad
