/- A search's tree: a node's least cost. -/
import Derived.Test.YtagmidolcdefiahSlT
import Derived.Test.YtagmidolcdefiahPk9
namespace Go.Proofs.Ytagmidolcdefiah
open Go.RowKit Go.Shelf
/-- the time behind a car, in memory -/
theorem TR.time {D : Nat → Prop} {W : World} {tb : Nat} {s : Sn} {vc vw vb : Value} (h : TR D W tb s vc vw vb) {k j : Nat} {y : Int × Int} (hk : k < s.cs.length) (hy : s.ws[j]? = some y) :
    ∃ g o cap, vb = .slice (some ⟨g, o, none⟩) s.cs.length cap ∧ ∃ g' o' cap', W.cell? ⟨g, o + k, none⟩ = some (.slice (some ⟨g', o', none⟩) s.ws.length cap') ∧ W.cell? ⟨g', o' + j, none⟩ = some (.int .i64 (alo s (k + 1) y)) := by
  obtain ⟨a, cap, rfl, _, _⟩ := h.bh.form
  obtain ⟨g, o, rfl, u, hu, hri⟩ := h.bh.at (bhd_get s hk)
  rw [bhd_length]
  obtain ⟨a', cap', rfl, _, _⟩ := hri.form
  obtain ⟨g', o', rfl, hc⟩ := hri.at (i := j) (y := alo s (k + 1) y) (by rw [List.getElem?_map, hy]; rfl)
  rw [List.length_map] at hu
  exact ⟨g, o, cap, rfl, g', o', cap', hu, hc⟩
/-- what holds while the least cost is reckoned -/
structure Lq (D : Nat → Prop) (W wr : World) (tb : Nat) (s : Sn) (vc vw vb : Value) (e : En) : Prop where
  tr : TR D wr tb s vc vw vb
  nk : NK wr W.heap.size (e.c s)
  bel : Below W.heap.size W wr
theorem Lq.next {D : Nat → Prop} {W wr w' : World} {tb : Nat} {s : Sn} {vc vw vb : Value} {e : En} (h : Lq D W wr tb s vc vw vb e) (hb : Below wr.heap.size wr w') : Lq D W w' tb s vc vw vb e := ⟨h.tr.below' hb, h.nk.below' hb, below_class h.bel hb⟩
theorem En.cell1 (s : Sn) (e : En) : (e.c s)[1]? = some (.int .i64 (e.nd.k : Int)) := rfl
section
variable {D : Nat → Prop} {W : World} {tb : Nat} {s : Sn} {vc vw vb : Value} {e : En}
set_option maxRecDepth 100000 in
set_option maxHeartbeats 4000000 in
theorem tleast_any (ht : TR D W tb s vc vw vb) (ok : e.nd.ok s) :
    Calls Try.prog 42 #[.pointer (some ⟨tb, 0, none⟩), .agg (e.c s).toArray] W fun r w' => r = .returned (.int .i64 (lsv s e.nd.k e.nd.b e.nd.st)) ∧ Below W.heap.size W w' := by
  have hb0 := (Below.refl W.heap.size W).alloc (Nat.le_refl _) (.cells (e.c s).toArray 97)
  have HL0 : Hid (Lq D W (W.alloc (.cells (e.c s).toArray 97)) tb s vc vw vb e) := ⟨ht.below' hb0, NK.new W (En.len s e), hb0⟩
  obtain ⟨aw, kw, rfl, _, _⟩ := ht.ws.form
  have c6 : (W.alloc (.cells (e.c s).toArray 97)).cell? ⟨W.heap.size, 6, none⟩ = some (.int .i64 (RM.cst s.st s.ws s.cs e.nd.b)) := HL0.out.nk.cell 6
  have c14 := HL0.out.tr.c14
  have HOK := Hid.intro' ok
  have HNB := Hid.intro' ok.nb
  obtain ⟨n8, hrs⟩ := rgt_rs ht.rg
  have HRS := Hid.intro' hrs
  have hwl : s.ws.length ≤ 128 := hrs.wl
  have hkc : e.nd.k < s.cs.length := by have := ok.kl; have := ok.bl; omega
  have hk8 : e.nd.k ≤ 8 := by have := hrs.cl; have := hrs.n8; omega
  generalize hT : lsv s e.nd.k e.nd.b e.nd.st = T
  have HTT := Hid.intro' hT
  obtain ⟨ct, HCT⟩ : ∃ ct, Hid (RM.cst s.st s.ws s.cs e.nd.b = ct) := ⟨_, Hid.intro' rfl⟩
  rw [HCT.out] at c6
  clear ht hb0 ok hrs hT
  go_enter Try.func42, Try.ntmps42
  go_wp2_with fail
  clear c6 c14
  generalize W.alloc (.cells (e.c s).toArray 97) = W1 at HL0 ⊢
  go_loopw [5, 17] (fun tv jv wr => ∃ (j : Nat) (t : Int), j ≤ s.ws.length ∧ tv = .int .i64 t ∧ jv = .int .i64 (j : Int) ∧ Hid (t = lsk s e.nd.k e.nd.b e.nd.st j) ∧ Hid (Lq D W wr tb s vc (.slice aw s.ws.length kw) vb e)) (fun _ jv _ => s.ws.length - (intOf jv).toNat)
  case atStart => exact ⟨0, ct, Nat.zero_le _, rfl, rfl, by show _ = _; rw [lsk_zero, HCT.out], HL0⟩
  case round =>
    clear HL0
    obtain ⟨j, t, hj, rfl, rfl, HT, HL⟩ := hrel
    by_cases hlt : j < s.ws.length
    · have hjz : (j : Int) < (s.ws.length : Int) := by omega
      obtain ⟨y, hy⟩ : ∃ y, s.ws[j]? = some y := ⟨_, List.getElem?_eq_getElem hlt⟩
      obtain ⟨q, hq⟩ : ∃ q, e.nd.st[j]? = some q := ⟨_, List.getElem?_eq_getElem (by rw [HOK.out.sl]; exact hlt)⟩
      obtain ⟨gw, ow, haw, w0, w1⟩ := HL.out.tr.ws.at hy
      subst haw
      have hja : j < 128 := by omega
      have HL1 := Hid.intro' (HL.out.next ((Below.refl wr.heap.size wr).alloc (Nat.le_refl _) (.cells #[.int .i64 y.1, .int .i64 y.2] 58)))
      have HY1 := Hid.intro' (World.alloc_heap_new wr (.cells #[.int .i64 y.1, .int .i64 y.2] 58))
      have c8 : (wr.alloc (.cells #[.int .i64 y.1, .int .i64 y.2] 58)).cell? ⟨W.heap.size, 8 + j, none⟩ = some (.bool q) := (HL1.out.nk.cell (8 + j)).trans (ncl_st (by rw [HOK.out.sl]; exact hwl) hq)
      cases q with
      | true =>
        have HT2 : Hid (t = lsk s e.nd.k e.nd.b e.nd.st (j + 1)) := by
          show _ = _
          rw [lsk_same (by rw [hq]; simp), HT.out]
        clear hq hy HL HY1
        go_wp2
        go_roundw
        case rel => exact ⟨j + 1, t, by omega, rfl, by go_num, HT2, HL1⟩
        case measure => simp [intOf]; omega
      | false =>
        obtain ⟨m, hm, hym⟩ := HRS.out.mm.eq j y hy
        have HSPL := Hid.intro' (optw_split HOK.out hy)
        have HMY : Hid (mayk s e.nd.k (j : Int) = PM.bt m e.nd.k) := by show _ = _; unfold mayk; rw [Int.toNat_natCast, hm]; rfl
        rw [HMY.out] at HSPL
        have HMO := Hid.intro' (lsk_more HNB.out.bs (fun l hl => by have := HNB.out.ll l hl; omega) hja hq)
        rw [← HT.out] at HMO
        obtain ⟨u, HU⟩ : ∃ u, Hid (u = lsk s e.nd.k e.nd.b e.nd.st (j + 1)) := ⟨_, Hid.intro' rfl⟩
        rw [← HU.out] at HMO
        have HY := Hid.intro' hy
        obtain ⟨y1, y2⟩ := y
        simp only at hym
        subst hym
        clear hq hy hm HL HMY
        go_wp2_with fail
        clear w0 w1 c8
        have HY2 : Hid ((wr.alloc (.cells #[.int .i64 y1, .int .i64 (m : Int)] 58)).heap[wr.heap.size]? = some (.cells #[.int .i64 y1, .int .i64 (m : Int)] 58 (0, 0))) := HY1.out
        clear HY1
        generalize wr.alloc (.cells #[.int .i64 y1, .int .i64 (m : Int)] 58) = V at HL1 HY2 ⊢
        generalize wr.heap.size = wb at HY2 ⊢
        obtain ⟨gb, ob, cb, hvb, gb2, ob2, cb2, hr1, hr2⟩ := HL1.out.tr.time hkc HY.out
        subst hvb
        have hcell : ∀ {w' : World} {p : Addr} {v : Value}, Below V.drew.heap.size V.drew w' → V.cell? p = some v → w'.cell? p = some v := fun hw h => (Below.cell ((Below.refl V.heap.size V).drew.trans hw) (World.block_lt_of_cell? V _ h)).trans h
        have H15 : Hid (∀ w', Below V.drew.heap.size V.drew w' → w'.cell? ⟨tb, 15, none⟩ = some (.slice (some ⟨gb, ob, none⟩) s.cs.length cb)) := fun w' hw => hcell hw HL1.out.tr.c15
        have HKK : Hid (∀ w', Below V.drew.heap.size V.drew w' → w'.cell? ⟨W.heap.size, 1, none⟩ = some (.int .i64 (e.nd.k : Int))) := fun w' hw => hcell hw (HL1.out.nk.cell 1)
        have HR1 : Hid (∀ w', Below V.drew.heap.size V.drew w' → w'.cell? ⟨gb, ob + e.nd.k, none⟩ = some (.slice (some ⟨gb2, ob2, none⟩) s.ws.length cb2)) := fun w' hw => hcell hw hr1
        have HR2 : Hid (∀ w', Below V.drew.heap.size V.drew w' → w'.cell? ⟨gb2, ob2 + j, none⟩ = some (.int .i64 (alo s (e.nd.k + 1) (y1, (m : Int))))) := fun w' hw => hcell hw hr2
        clear hr1 hr2 hcell
        generalize alo s (e.nd.k + 1) (y1, (m : Int)) = A at HSPL HR2
        refine wp_region_tail 11 (by kernel_rfl) (by kernel_rfl) ?_
        simp only [List.take_succ_cons, List.take_zero, List.drop_succ_cons, List.drop_zero]
        unfold wpCalm
        generalize hK : wpCalm Try.prog _ _ _ _ = K
        unfold Oper.calm
        go_simp
        refine ⟨_, fun _ _ => rfl, ?_⟩
        subst hK
        unfold wpCalm
        generalize hK : wpCalm Try.prog _ _ _ _ = K
        unfold Oper.calm
        go_simp
        refine ⟨_, fun _ _ => rfl, ?_⟩
        subst hK
        unfold wpCalm
        generalize hK : wpCalm Try.prog _ _ _ _ = K
        unfold Oper.calm
        go_simp
        refine ⟨_, fun _ _ => rfl, ?_⟩
        subst hK
        unfold wpCalm
        generalize hK : wpCalm Try.prog _ _ _ _ = K
        rw [if_pos (by go_simp)]
        refine calm_loadBH _ _ _ rfl rfl H15.out ?_
        go_simp
        subst hK
        unfold wpCalm
        generalize hK : wpCalm Try.prog _ _ _ _ = K
        unfold Oper.calm
        go_simp
        refine ⟨_, fun _ _ => rfl, ?_⟩
        subst hK
        unfold wpCalm
        generalize hK : wpCalm Try.prog _ _ _ _ = K
        rw [if_pos (by go_simp)]
        refine calm_load3 _ _ _ rfl rfl HKK.out ?_
        go_simp
        subst hK
        unfold wpCalm
        generalize hK : wpCalm Try.prog _ _ _ _ = K
        rw [if_pos (by go_simp)]
        refine calm_ixB _ _ rfl rfl rfl hkc ?_
        go_simp
        subst hK
        unfold wpCalm
        generalize hK : wpCalm Try.prog _ _ _ _ = K
        rw [if_pos (by go_simp)]
        refine calm_loadLI _ _ _ rfl rfl HR1.out ?_
        go_simp
        subst hK
        unfold wpCalm
        generalize hK : wpCalm Try.prog _ _ _ _ = K
        unfold Oper.calm
        go_simp
        refine ⟨_, fun _ _ => rfl, ?_⟩
        subst hK
        unfold wpCalm
        generalize hK : wpCalm Try.prog _ _ _ _ = K
        rw [if_pos (by go_simp)]
        refine calm_ixI _ _ rfl rfl rfl hlt ?_
        go_simp
        subst hK
        unfold wpCalm
        generalize hK : wpCalm Try.prog _ _ _ _ = K
        rw [if_pos (by go_simp)]
        refine calm_load3 _ _ _ rfl rfl HR2.out ?_
        go_simp
        subst hK
        refine wpCalm_nil ?_
        intro V2 hb2
        have hbd := (Below.refl V.heap.size V).drew.trans hb2
        have HL2 := Hid.intro' (HL1.out.next hbd)
        have HY3 : Hid (V2.heap[wb]? = some (.cells #[.int .i64 y1, .int .i64 (m : Int)] 58 (0, 0))) := (hbd.block wb (Array.getElem?_eq_some_iff.1 HY2.out).1).trans HY2.out
        clear hbd hb2 H15 HKK HR1 HR2 HL1 HY2
        have d0 : V2.cell? ⟨wb, 0, none⟩ = some (.int .i64 y1) := by rw [cell_of_row _ _ 0 _ _ _ HY3.out]; rfl
        have d1 : V2.cell? ⟨wb, 1, none⟩ = some (.int .i64 (m : Int)) := by rw [cell_of_row _ _ 1 _ _ _ HY3.out]; rfl
        have d2 : V2.cell? ⟨W.heap.size, 1, none⟩ = some (.int .i64 (e.nd.k : Int)) := HL2.out.nk.cell 1
        have HH := Hid.intro' (shas_any y1 m e.nd.k (by omega))
        go_wp2_with fail
        refine (HH.out _).mono ?_
        rintro r V3 ⟨rfl, hb3⟩
        have HL3 := Hid.intro' (HL2.out.next hb3)
        have HY4 : Hid (V3.heap[wb]? = some (.cells #[.int .i64 y1, .int .i64 (m : Int)] 58 (0, 0))) := (hb3.block wb (Array.getElem?_eq_some_iff.1 HY3.out).1).trans HY3.out
        clear hb3 HL2 HY3 d0 d1 d2 HH
        cases hbt : PM.bt m e.nd.k with
        | false =>
          rw [hbt, if_neg (by simp)] at HSPL
          rw [HSPL.out] at HMO
          have HAD : Hid (∀ w', Calls Try.prog 68 #[.int .i64 t, .int .i64 A] w' fun r w'' => r = .returned (.int .i64 u) ∧ w'' = w') := fun w' => by have := add_any t A w'; rw [HMO.out] at this; exact this
          clear hbt HSPL HMO HY4
          go_wp2_with (go_at_call 68; refine (HAD.out _).mono ?_; rintro r w' ⟨rfl, rfl⟩)
          go_roundw
          case rel => exact ⟨j + 1, u, by omega, rfl, by go_num, HU, HL3⟩
          case measure => simp [intOf]; omega
        | true =>
          rw [hbt, if_pos rfl] at HSPL
          rw [HSPL.out] at HMO
          have hwr := HNB.out.bs.rz.wr _ (List.mem_of_getElem? HY.out)
          have HNX : Hid (∀ w', Calls Try.prog 66 #[.agg (sv s.st).toArray, .agg #[.int .i64 (sat s e.nd).fl, .int .i64 (sat s e.nd).he, .int .i64 (sat s e.nd).le], .int .i64 y1] w' fun r w'' => r = .returned (.agg #[.int .i64 y1, .int .i64 (RM.ar s.st (sat s e.nd) y1), .int .i64 (RM.ar s.st (sat s e.nd) y1 + RM.dw s.st)]) ∧ Below w'.heap.size w' w'') := fun w' => next_any s.st HNB.out.bs.rz.rt (sat s e.nd) HNB.out.sk HNB.out.sl y1 hwr.1 hwr.2 w'
          have hdr : ∀ w', Below V3.drew.heap.size V3.drew w' → Lq D W w' tb s vc (.slice (some ⟨gw, ow, none⟩) s.ws.length kw) (.slice (some ⟨gb, ob, none⟩) s.cs.length cb) e := fun w' hw => HL3.out.next ((Below.refl V3.heap.size V3).drew.trans hw)
          have HST : Hid (∀ w', Below V3.drew.heap.size V3.drew w' → w'.rangeAt tb 0 (sv s.st)) := fun w' hw => (hdr w' hw).tr.site
          have HAT : Hid (∀ w', Below V3.drew.heap.size V3.drew w' → w'.rangeAt W.heap.size 3 [.int .i64 (sat s e.nd).fl, .int .i64 (sat s e.nd).he, .int .i64 (sat s e.nd).le]) := fun w' hw => fun i v hv => by
            rw [(hdr w' hw).nk.cell]
            match i, hv with
            | 0, hv => cases hv; rfl
            | 1, hv => cases hv; rfl
            | 2, hv => cases hv; rfl
            | i + 3, hv => simp at hv
          have HXG : Hid (∀ w', Below V3.drew.heap.size V3.drew w' → w'.cell? ⟨wb, 0, none⟩ = some (.int .i64 y1)) := fun w' hw => by
            rw [cell_of_row _ _ 0 _ _ _ ((((Below.refl V3.heap.size V3).drew.trans hw).block wb (Array.getElem?_eq_some_iff.1 HY4.out).1).trans HY4.out)]; rfl
          clear hdr hbt HSPL hwr
          generalize RM.ar s.st (sat s e.nd) y1 = R at HNX HMO
          generalize R + RM.dw s.st = L at HNX
          generalize sat s e.nd = a0 at HNX HAT
          have HAD : Hid (∀ w', Calls Try.prog 68 #[.int .i64 t, .int .i64 (min A R)] w' fun r w'' => r = .returned (.int .i64 u) ∧ w'' = w') := fun w' => by have := add_any t (min A R) w'; rw [HMO.out] at this; exact this
          clear HMO
          go_wp2_with fail
          refine wp_region_tail 13 (by kernel_rfl) (by kernel_rfl) ?_
          simp only [List.take_succ_cons, List.take_zero, List.drop_succ_cons, List.drop_zero]
          unfold wpCalm
          generalize hK : wpCalm Try.prog _ _ _ _ = K
          unfold Oper.calm
          go_simp
          refine ⟨_, fun _ _ => rfl, ?_⟩
          subst hK
          unfold wpCalm
          generalize hK : wpCalm Try.prog _ _ _ _ = K
          unfold Oper.calm
          go_simp
          refine ⟨_, fun _ _ => rfl, ?_⟩
          subst hK
          unfold wpCalm
          generalize hK : wpCalm Try.prog _ _ _ _ = K
          unfold Oper.calm
          go_simp
          refine ⟨_, fun _ _ => rfl, ?_⟩
          subst hK
          unfold wpCalm
          generalize hK : wpCalm Try.prog _ _ _ _ = K
          unfold Oper.calm
          go_simp
          refine ⟨_, fun _ _ => rfl, ?_⟩
          subst hK
          unfold wpCalm
          generalize hK : wpCalm Try.prog _ _ _ _ = K
          unfold Oper.calm
          go_simp
          refine ⟨_, fun _ _ => rfl, ?_⟩
          subst hK
          unfold wpCalm
          generalize hK : wpCalm Try.prog _ _ _ _ = K
          rw [if_pos (by go_simp)]
          refine calm_load23b _ tb s.st rfl rfl HST.out ?_
          go_simp
          subst hK
          unfold wpCalm
          generalize hK : wpCalm Try.prog _ _ _ _ = K
          unfold Oper.calm
          go_simp
          refine ⟨_, fun _ _ => rfl, ?_⟩
          subst hK
          unfold wpCalm
          generalize hK : wpCalm Try.prog _ _ _ _ = K
          rw [if_pos (by go_simp)]
          refine calm_loadE _ _ _ a0 rfl rfl HAT.out ?_
          go_simp
          subst hK
          unfold wpCalm
          generalize hK : wpCalm Try.prog _ _ _ _ = K
          unfold Oper.calm
          go_simp
          refine ⟨_, fun _ _ => rfl, ?_⟩
          subst hK
          unfold wpCalm
          generalize hK : wpCalm Try.prog _ _ _ _ = K
          rw [if_pos (by go_simp)]
          refine calm_load3 _ _ _ rfl rfl HXG.out ?_
          go_simp
          subst hK
          unfold wpCalm
          generalize hK : wpCalm Try.prog _ _ _ _ = K
          unfold Oper.calm
          go_simp
          refine ⟨_, fun w' hw => HNX.out w', ?_⟩
          subst hK
          unfold wpCalm
          generalize hK : wpCalm Try.prog _ _ _ _ = K
          rw [if_pos (by go_simp)]
          refine calm_fieldT _ rfl rfl ?_
          go_simp
          subst hK
          unfold wpCalm
          generalize hK : wpCalm Try.prog _ _ _ _ = K
          rw [if_pos (by go_simp)]
          refine calm_min _ _ rfl rfl rfl ?_
          go_simp
          subst hK
          refine wpCalm_nil ?_
          intro V4 hb4
          have hbd := (Below.refl V3.heap.size V3).drew.trans hb4
          have HL4 := Hid.intro' (HL3.out.next hbd)
          clear hbd hb4 HST HAT HXG HNX HL3 HY4
          generalize min A R = mn at HAD ⊢
          go_wp2_with (go_at_call 68; refine (HAD.out _).mono ?_; rintro r w' ⟨rfl, rfl⟩)
          go_roundw
          case rel => exact ⟨j + 1, u, by omega, rfl, by go_num, HU, HL4⟩
          case measure => simp [intOf]; omega
    · have hjz : ¬ (j : Int) < (s.ws.length : Int) := by omega
      have HE : Hid (t = T) := by
        show _ = _
        rw [← HTT.out, ← lsk_end, HT.out, show j = s.ws.length by omega]
      go_wp2
      go_ret
      exact ⟨ret_int HE.out, HL.out.bel⟩
end
end Go.Proofs.Ytagmidolcdefiah
