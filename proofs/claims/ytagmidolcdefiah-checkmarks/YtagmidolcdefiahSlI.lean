/- A new tree: the walk. -/
import Derived.Test.YtagmidolcdefiahSlH
namespace Go.Proofs.Ytagmidolcdefiah
open Go.RowKit Go.Shelf
section
variable (s : Sn) (D : Nat → Prop) (vc vw : Value) (W : World)
set_option maxRecDepth 100000 in
set_option maxHeartbeats 1500000 in
theorem newTree_any (hc : R2 D W vc s.cs) (hw : R2 D W vw s.ws) (hr : rgt s = true) :
    Calls Try.prog 23 #[.agg (nv s.st vc vw).toArray] W fun e w' => Below W.heap.size W w' ∧ ∃ tb vb, e = .returned (.pointer (some ⟨tb, 0, none⟩)) ∧ W.heap.size ≤ tb ∧ TR (fun g => (D g ∧ g < W.heap.size) ∨ W.heap.size ≤ g) w' tb s vc vw vb := by
  have hbx := (Below.refl W.heap.size W).alloc (Nat.le_refl _) (.cells (nv s.st vc vw).toArray 27)
  have HN := Hid.intro' (NB.new W s.st vc vw)
  have HB := Hid.intro' hbx
  have HC : Hid (R2 (fun g => D g ∧ g < W.heap.size) W vc s.cs) := hc.mono fun g h1 h _ => ⟨h1, h⟩
  have HW : Hid (R2 (fun g => D g ∧ g < W.heap.size) W vw s.ws) := hw.mono fun g h1 h _ => ⟨h1, h⟩
  obtain ⟨ac, kc, rfl, _, _⟩ := hc.form
  obtain ⟨aw, kw, rfl, _, _⟩ := hw.form
  have HR := Hid.intro' hr
  obtain ⟨n8, hrs⟩ := rgt_rs hr
  have HRS := Hid.intro' hrs
  have hwl : s.ws.length ≤ 128 := hrs.wl
  have hcl : s.cs.length ≤ 8 := by have := hrs.cl; have := hrs.n8; omega
  have HS1 : Hid ((W.alloc (.cells (nv s.st (.slice ac s.cs.length kc) (.slice aw s.ws.length kw)).toArray 27)).heap.size = W.heap.size + 1) := by show _ = _; simp
  clear hc hw hr hbx hrs
  go_enter Try.func23, Try.ntmps23
  go_wp2_with fail
  generalize hX : W.alloc (.cells (nv s.st (.slice ac s.cs.length kc) (.slice aw s.ws.length kw)).toArray 27) = X at HN HB HS1 ⊢
  clear hX
  refine wp_mono (Q := fun e a W' => e = Exit.normal ∧ W' = (X.drew.alloc (.cells (Array.replicate s.cs.length (Value.slice none 0 0)) 55)).alloc (.cells (tcl s.st (.slice ac s.cs.length kc) (.slice aw s.ws.length kw) (.slice (some ⟨X.heap.size, 0, none⟩) s.cs.length s.cs.length)).toArray 104) ∧ a = { tmps := #[.agg (nv s.st (.slice ac s.cs.length kc) (.slice aw s.ws.length kw)).toArray, .pointer (some ⟨W.heap.size, 0, none⟩), .pointer none, .pointer (some ⟨X.heap.size + 1, 0, none⟩), undef, undef, undef, .agg (nv s.st (.slice ac s.cs.length kc) (.slice aw s.ws.length kw)).toArray, .pointer (some ⟨W.heap.size, 13, none⟩), .slice ac s.cs.length kc, .int .i64 (s.cs.length : Int), (.slice (some ⟨X.heap.size, 0, none⟩) s.cs.length s.cs.length), .agg (tcl s.st (.slice ac s.cs.length kc) (.slice aw s.ws.length kw) (.slice (some ⟨X.heap.size, 0, none⟩) s.cs.length s.cs.length)).toArray, .pointer (some ⟨X.heap.size + 1, 0, none⟩), undef, undef, undef, undef, undef, undef, undef, undef, undef, undef, undef, undef, undef, undef, undef, undef, undef, undef, undef, undef, undef, undef, undef, undef, undef, undef, undef, undef, undef, undef, undef, undef, undef, undef, undef, undef, undef, undef, undef, undef, undef, undef, undef], defers := [] }) ?reg ?rest
  case reg =>
    have hdr := (Below.refl X.heap.size X).drew
    have hal := hdr.alloc (Nat.le_refl _) (.cells (Array.replicate s.cs.length (Value.slice none 0 0)) 55)
    have HNX := Hid.intro' (HN.out.below' hdr)
    have HNA := Hid.intro' (HN.out.below' hal)
    have k2 : X.drew.cell? ⟨W.heap.size, 13, none⟩ = some (.slice ac s.cs.length kc) := HNX.out.cell 13
    have k3 : X.cell? ⟨W.heap.size, 13, none⟩ = some (.slice ac s.cs.length kc) := HN.out.cell 13
    have kk := mkBh s.cs.length (by omega)
    clear hdr hal
    refine wp_region_any (by kernel_rfl) ?_
    change wpAny _ _ _ _ _ _ _ (World.drew _)
    refine wpAny_take (i := 1) (v := .pointer (some ⟨W.heap.size, 13, none⟩)) rfl (by kernel_rfl) (by kernel_rfl) (by kernel_rfl) (fun _ _ _ h => by cases h.1) ?hy ?_
    case hy => exact yields_val rfl (fun w => by go_simp)
    generalize hKK : wpAny Try.prog _ _ _ _ _ = KK
    go_simp
    subst hKK
    refine wpAny_all (rs := [0, 2]) (by kernel_rfl) (by simp) (fun ii hii => ?_)
    have h7 : ii = 0 ∨ ii = 2 := by simpa using hii
    clear hii
    rcases h7 with rfl | rfl
    · refine wpOp_load27 rfl rfl _ rfl W.heap.size s.st _ _ rfl HNX.out ?_
      generalize hKK : wpAny Try.prog _ _ _ _ _ = KK
      go_simp
      subst hKK
      refine wpAny_seq 2 (by kernel_rfl) (by kernel_rfl) ?_
      simp only [List.drop_succ_cons, List.drop_zero]
      go_wp2_with (first | (refine wpList_load27g rfl _ rfl W.heap.size s.st _ _ rfl HNX.out ?_) | (refine wpList_buildS rfl _ _ rfl [(0, .agg (nv s.st (.slice ac s.cs.length kc) (.slice aw s.ws.length kw)).toArray), (1, (.slice (some ⟨X.heap.size, 0, none⟩) s.cs.length s.cs.length))] (by simp only [List.map_toArray, List.map_cons, List.map_nil]; rfl) _ (built_tree s.st _ _ _ _ _) ?_))
    · refine wpOp_loadRs rfl rfl _ rfl W.heap.size 13 _ rfl k2 ?_
      generalize hKK : wpAny Try.prog _ _ _ _ _ = KK
      go_simp
      subst hKK
      refine wpAny_take (i := 3) (v := .int .i64 (s.cs.length : Int)) rfl (by kernel_rfl) (by kernel_rfl) (by kernel_rfl) (fun _ _ _ h => by cases h.1) ?hy ?_
      case hy => exact yields_val rfl (fun w => by go_simp)
      generalize hKK : wpAny Try.prog _ _ _ _ _ = KK
      go_simp
      subst hKK
      refine wpAny_all (rs := [0, 4]) (by kernel_rfl) (by simp) (fun ii hii => ?_)
      have h7 : ii = 0 ∨ ii = 4 := by simpa using hii
      clear hii
      rcases h7 with rfl | rfl
      · refine wpOp_load27 rfl rfl _ rfl W.heap.size s.st _ _ rfl HNX.out ?_
        generalize hKK : wpAny Try.prog _ _ _ _ _ = KK
        go_simp
        subst hKK
        refine wpAny_seq 4 (by kernel_rfl) (by kernel_rfl) ?_
        simp only [List.drop_succ_cons, List.drop_zero]
        go_wp2_with (first | (refine wpList_load27g rfl _ rfl W.heap.size s.st _ _ rfl HNX.out ?_) | (refine wpList_buildS rfl _ _ rfl [(0, .agg (nv s.st (.slice ac s.cs.length kc) (.slice aw s.ws.length kw)).toArray), (1, (.slice (some ⟨X.heap.size, 0, none⟩) s.cs.length s.cs.length))] (by simp only [List.map_toArray, List.map_cons, List.map_nil]; rfl) _ (built_tree s.st _ _ _ _ _) ?_))
      · refine wpOp_mkB rfl rfl _ _ rfl s.cs.length (by omega) rfl rfl ?_
        generalize hKK : wpAny Try.prog _ _ _ _ _ = KK
        go_simp
        subst hKK
        refine wpAny_all (rs := [0]) (by kernel_rfl) (by simp) (fun ii hii => ?_)
        have h7 : ii = 0 := by simpa using hii
        clear hii
        subst h7
        refine wpOp_load27 rfl rfl _ rfl W.heap.size s.st _ _ rfl HNA.out ?_
        generalize hKK : wpAny Try.prog _ _ _ _ _ = KK
        go_simp
        subst hKK
        refine wpAny_seq 5 (by kernel_rfl) (by kernel_rfl) ?_
        simp only [List.drop_succ_cons, List.drop_zero]
        go_wp2_with (first | (refine wpList_load27g rfl _ rfl W.heap.size s.st _ _ rfl HNX.out ?_) | (refine wpList_buildS rfl _ _ rfl [(0, .agg (nv s.st (.slice ac s.cs.length kc) (.slice aw s.ws.length kw)).toArray), (1, (.slice (some ⟨X.heap.size, 0, none⟩) s.cs.length s.cs.length))] (by simp only [List.map_toArray, List.map_cons, List.map_nil]; rfl) _ (built_tree s.st _ _ _ _ _) ?_))
  case rest =>
    rintro e a W1 ⟨rfl, rfl, rfl⟩
    have HT0 : Hid (Tn W ((X.drew.alloc (.cells (Array.replicate s.cs.length (Value.slice none 0 0)) 55)).alloc (.cells (tcl s.st (.slice ac s.cs.length kc) (.slice aw s.ws.length kw) (.slice (some ⟨X.heap.size, 0, none⟩) s.cs.length s.cs.length)).toArray 104)) s (.slice ac s.cs.length kc) (.slice aw s.ws.length kw) (List.replicate s.cs.length (Value.slice none 0 0)) (bhk s 0)) := by
      have hdr := (Below.refl X.heap.size X).drew
      have hal := hdr.alloc (Nat.le_refl _) (.cells (Array.replicate s.cs.length (Value.slice none 0 0)) 55)
      have hb2 := (Below.refl _ (X.drew.alloc (.cells (Array.replicate s.cs.length (Value.slice none 0 0)) 55))).alloc (Nat.le_refl _) (.cells (tcl s.st (.slice ac s.cs.length kc) (.slice aw s.ws.length kw) (.slice (some ⟨X.heap.size, 0, none⟩) s.cs.length s.cs.length)).toArray 104)
      have hmk := OW.make (B := W.heap.size + 1) X.drew s.cs.length (by show _ ≤ X.heap.size; rw [HS1.out]; exact Nat.le_refl _)
      rw [List.toArray_replicate] at hmk
      have hgs : X.drew.heap.size = W.heap.size + 1 := HS1.out
      rw [hgs] at hmk
      refine ⟨(HN.out.below' hal).below' hb2, ?_, by rw [bhk_zero]; exact hmk.next hb2, fun c u hu => ?_, below_class (below_class HB.out hal) hb2⟩
      · have := World.alloc_heap_new (X.drew.alloc (.cells (Array.replicate s.cs.length (Value.slice none 0 0)) 55)) (.cells (tcl s.st (.slice ac s.cs.length kc) (.slice aw s.ws.length kw) (.slice (some ⟨X.heap.size, 0, none⟩) s.cs.length s.cs.length)).toArray 104)
        rw [World.size_alloc, hgs, HS1.out] at this
        rw [HS1.out]
        exact this
      · rw [List.getElem?_replicate] at hu
        split at hu
        · cases hu; simp [Value.ownBlock]
        · cases hu
    have hvb : (.slice (some ⟨X.heap.size, 0, none⟩) s.cs.length s.cs.length) = Value.slice (some ⟨W.heap.size + 1, 0, none⟩) s.cs.length s.cs.length := by rw [HS1.out]
    rw [HS1.out] at HT0 ⊢
    clear hvb HN HB HS1
    generalize (X.drew.alloc (.cells (Array.replicate s.cs.length (Value.slice none 0 0)) 55)).alloc (.cells (tcl s.st (.slice ac s.cs.length kc) (.slice aw s.ws.length kw) (.slice (some ⟨W.heap.size + 1, 0, none⟩) s.cs.length s.cs.length)).toArray 104) = Y at HT0 ⊢
    have c15 := HT0.out.c15
    go_wp2_with fail
    clear c15
    go_loopw [19] (fun iv wr => ∃ (c : Nat) (us : List Value), c ≤ s.cs.length ∧ iv = .int .i64 (c : Int) ∧ Hid (Tn W wr s (.slice ac s.cs.length kc) (.slice aw s.ws.length kw) us (bhk s c))) (fun iv _ => s.cs.length - (intOf iv).toNat)
    case atStart => exact ⟨0, _, Nat.zero_le _, rfl, HT0⟩
    case round =>
      clear HT0
      obtain ⟨c, us, hc, rfl, HT⟩ := hrel
      by_cases hlt : c < s.cs.length
      · have hcz : (c : Int) < (s.cs.length : Int) := by omega
        have hal := (Below.refl wr.heap.size wr).alloc (Nat.le_refl _) (.cells (Array.replicate s.ws.length (Value.int .i64 0)) 3)
        have HTA := Hid.intro' (HT.out.next hal)
        have c15 := HT.out.c15
        have c15a := HTA.out.c15
        have c14 : wr.cell? ⟨W.heap.size, 14, none⟩ = some (.slice aw s.ws.length kw) := HT.out.nb.cell 14
        have c14a : (wr.alloc (.cells (Array.replicate s.ws.length (Value.int .i64 0)) 3)).cell? ⟨W.heap.size, 14, none⟩ = some (.slice aw s.ws.length kw) := HTA.out.nb.cell 14
        have hrl : (bhk s c).length = s.cs.length := bhk_length hc
        have HRL := Hid.intro' hrl
        obtain ⟨u, hu⟩ : ∃ u, us[c]? = some u := ⟨_, List.getElem?_eq_getElem (by rw [HT.out.ow.len, hrl]; exact hlt)⟩
        have cu : (wr.alloc (.cells (Array.replicate s.ws.length (Value.int .i64 0)) 3)).cell? ⟨W.heap.size + 1, c, none⟩ = some u := (blk_cell HTA.out.ow.hl c).trans hu
        have fu : (wr.alloc (.cells (Array.replicate s.ws.length (Value.int .i64 0)) 3)).frozen? ⟨W.heap.size + 1, c, none⟩ = false := blk_fr HTA.out.ow.hl c
        have hmk := mkI s.ws.length (by omega)
        have HUC : Hid (c < us.length) := (List.getElem?_eq_some_iff.1 hu).1
        clear hal hrl hu
        go_wp2_with fail
        go_region
        have HT1 : Hid (Tn W ((wr.alloc (.cells (Array.replicate s.ws.length (Value.int .i64 0)) 3)).setCell ⟨W.heap.size + 1, c, none⟩ (.slice (some ⟨wr.heap.size, 0, none⟩) s.ws.length s.ws.length)).drew s (.slice ac s.cs.length kc) (.slice aw s.ws.length kw) (us.set c (.slice (some ⟨wr.heap.size, 0, none⟩) s.ws.length s.ws.length)) ((bhk s c).set c (bhj s c 0))) := by
          have hoi : OI (wr.alloc (.cells (Array.replicate s.ws.length (Value.int .i64 0)) 3)) (W.heap.size + 1) (.slice (some ⟨wr.heap.size, 0, none⟩) s.ws.length s.ws.length) (bhj s c 0) := by
            have := OI.lit (B := W.heap.size + 1) wr (List.replicate s.ws.length 0) (by have := HT.out.ow.lt; omega) (by rw [List.length_replicate]; unfold maxLen; omega)
            rw [ic_rep, List.length_replicate, List.toArray_replicate] at this
            rw [bhj_zero]
            exact this
          exact (HT.out.lay (by rw [HRL.out]; exact hlt) ((Below.refl _ _).alloc (Nat.le_refl _) _) (fun q hq => Nat.le_of_eq (by simpa [Value.ownBlock] using hq)) hoi).next (Below.refl _ _).drew
        clear c15 c15a c14 c14a cu fu hmk HTA HT
        generalize ((wr.alloc (.cells (Array.replicate s.ws.length (Value.int .i64 0)) 3)).setCell ⟨W.heap.size + 1, c, none⟩ (.slice (some ⟨wr.heap.size, 0, none⟩) s.ws.length s.ws.length)).drew = V at HT1 ⊢
        generalize wr.heap.size = gl at HT1 ⊢
        have c14 : V.cell? ⟨W.heap.size, 14, none⟩ = some (.slice aw s.ws.length kw) := HT1.out.nb.cell 14
        go_wp2_with fail
        clear c14
        go_loopw [35] (fun jv wr => ∃ (j : Nat), j ≤ s.ws.length ∧ jv = .int .i64 (j : Int) ∧ Hid (Tn W wr s (.slice ac s.cs.length kc) (.slice aw s.ws.length kw) (us.set c (.slice (some ⟨gl, 0, none⟩) s.ws.length s.ws.length)) ((bhk s c).set c (bhj s c j)))) (fun jv _ => s.ws.length - (intOf jv).toNat)
        case atStart => exact ⟨0, Nat.zero_le _, rfl, HT1⟩
        case round =>
          clear HT1
          obtain ⟨j, hj, rfl, HT⟩ := hrel
          by_cases hjl : j < s.ws.length
          · have hjz : (j : Int) < (s.ws.length : Int) := by omega
            obtain ⟨y, hy⟩ : ∃ y, s.ws[j]? = some y := ⟨_, List.getElem?_eq_getElem hjl⟩
            obtain ⟨gw, ow, haw, w0, w1⟩ := (HW.out.below' HT.out.bel).at hy
            subst haw
            obtain ⟨y1, y2⟩ := y
            have HY := Hid.intro' hy
            have hal := (Below.refl wr.heap.size wr).alloc (Nat.le_refl _) (.cells #[.int .i64 y1, .int .i64 y2] 58)
            have HTA := Hid.intro' (HT.out.next hal)
            have HYB : Hid ((wr.alloc (.cells #[.int .i64 y1, .int .i64 y2] 58)).heap[wr.heap.size]? = some (.cells #[.int .i64 y1, .int .i64 y2] 58 (0, 0))) := World.alloc_heap_new wr _
            clear hal hy HT
            go_wp2_with fail
            clear w0 w1
            generalize wr.alloc (.cells #[.int .i64 y1, .int .i64 y2] 58) = V1 at HTA HYB ⊢
            generalize wr.heap.size = wb at HYB ⊢
            have hus : (us.set c (.slice (some ⟨gl, 0, none⟩) s.ws.length s.ws.length))[c]? = some (.slice (some ⟨gl, 0, none⟩) s.ws.length s.ws.length) := List.getElem?_set_self HUC.out
            have hrs2 : ((bhk s c).set c (bhj s c j))[c]? = some (bhj s c j) := List.getElem?_set_self (by rw [HRL.out]; exact hlt)
            have HUR := Hid.intro' (And.intro hus hrs2)
            have hcell : ∀ {w' : World} {p : Addr} {v : Value}, Below V1.drew.heap.size V1.drew w' → V1.cell? p = some v → w'.cell? p = some v := fun hw h => (Below.cell ((Below.refl V1.heap.size V1).drew.trans hw) (World.block_lt_of_cell? V1 _ h)).trans h
            have H15 : Hid (∀ w', Below V1.drew.heap.size V1.drew w' → w'.cell? ⟨W.heap.size + 1 + 1, 15, none⟩ = some (.slice (some ⟨W.heap.size + 1, 0, none⟩) s.cs.length s.cs.length)) := fun w' hw => hcell hw HTA.out.c15
            have HRW : Hid (∀ w', Below V1.drew.heap.size V1.drew w' → w'.cell? ⟨W.heap.size + 1, c, none⟩ = some (.slice (some ⟨gl, 0, none⟩) s.ws.length s.ws.length)) := fun w' hw => hcell hw ((blk_cell HTA.out.ow.hl c).trans hus)
            have HNB : Hid (∀ w', Below V1.drew.heap.size V1.drew w' → NB w' W.heap.size s.st (.slice ac s.cs.length kc) (.slice (some ⟨gw, ow, none⟩) s.ws.length kw)) := fun w' hw => (HTA.out.next ((Below.refl V1.heap.size V1).drew.trans hw)).nb
            have HWV : Hid (∀ w', Below V1.drew.heap.size V1.drew w' → w'.heap[wb]? = some (.cells #[.int .i64 (y1, y2).1, .int .i64 (y1, y2).2] 58 (0, 0))) := fun w' hw => (((Below.refl V1.heap.size V1).drew.trans hw).block wb (Array.getElem?_eq_some_iff.1 HYB.out).1).trans HYB.out
            have HLA : Hid (∀ w', Below V1.drew.heap.size V1.drew w' → Calls Try.prog 44 #[.agg (nv s.st (.slice ac s.cs.length kc) (.slice (some ⟨gw, ow, none⟩) s.ws.length kw)).toArray, .int .i64 ((c : Int) + 1), .agg #[.int .i64 y1, .int .i64 y2]] w' fun e w'' => e = .returned (.int .i64 (alo s (c + 1) (y1, y2))) ∧ Below w'.heap.size w' w'') := fun w' hw => by
              have hca : ((c + 1 : Nat) : Int) = (c : Int) + 1 := by omega
              rw [← hca]
              exact leastAlone_any s (fun _ => True) _ _ (c + 1) y1 y2 w' ((HC.out.mono fun _ _ _ _ => trivial).below' (HTA.out.next ((Below.refl V1.heap.size V1).drew.trans hw)).bel) HR.out (List.mem_of_getElem? HY.out)
            have HBJ := Hid.intro' (bhj_succ (c := c) HY.out)
            have hw1 : IntKind.i64.wrap ((c : Int) + 1) = (c : Int) + 1 := IntWalk.i64_in _ (by omega)
            clear hus hrs2 hcell
            generalize alo s (c + 1) (y1, y2) = A at HLA HBJ
            refine wp_region_tail 14 (by kernel_rfl) (by kernel_rfl) ?_
            simp only [List.take_succ_cons, List.take_zero, List.drop_succ_cons, List.drop_zero]
            unfold wpCalm
            generalize hK : wpCalm Try.prog _ _ _ _ = K
            unfold Oper.calm
            go_simp
            refine ⟨_, fun _ _ => rfl, ?_⟩
            subst hK
            unfold wpCalm
            generalize hK : wpCalm Try.prog _ _ _ _ = K
            unfold Oper.calm
            go_simp
            refine ⟨_, fun _ _ => rfl, ?_⟩
            subst hK
            unfold wpCalm
            generalize hK : wpCalm Try.prog _ _ _ _ = K
            unfold Oper.calm
            go_simp
            refine ⟨_, fun _ _ => rfl, ?_⟩
            subst hK
            unfold wpCalm
            generalize hK : wpCalm Try.prog _ _ _ _ = K
            rw [if_pos (by go_simp)]
            refine calm_loadBH _ _ _ rfl rfl H15.out ?_
            go_simp
            subst hK
            unfold wpCalm
            generalize hK : wpCalm Try.prog _ _ _ _ = K
            unfold Oper.calm
            go_simp
            refine ⟨_, fun _ _ => rfl, ?_⟩
            subst hK
            unfold wpCalm
            generalize hK : wpCalm Try.prog _ _ _ _ = K
            rw [if_pos (by go_simp)]
            refine calm_ixB _ _ rfl rfl rfl hlt ?_
            go_simp
            subst hK
            unfold wpCalm
            generalize hK : wpCalm Try.prog _ _ _ _ = K
            rw [if_pos (by go_simp)]
            refine calm_loadLI _ _ _ rfl rfl HRW.out ?_
            go_simp
            subst hK
            unfold wpCalm
            generalize hK : wpCalm Try.prog _ _ _ _ = K
            unfold Oper.calm
            go_simp
            refine ⟨_, fun _ _ => rfl, ?_⟩
            subst hK
            unfold wpCalm
            generalize hK : wpCalm Try.prog _ _ _ _ = K
            rw [if_pos (by go_simp)]
            refine calm_load27 _ W.heap.size s.st _ _ rfl rfl HNB.out ?_
            go_simp
            subst hK
            unfold wpCalm
            generalize hK : wpCalm Try.prog _ _ _ _ = K
            unfold Oper.calm
            go_simp
            refine ⟨_, fun _ _ => rfl, ?_⟩
            subst hK
            unfold wpCalm
            generalize hK : wpCalm Try.prog _ _ _ _ = K
            unfold Oper.calm
            go_simp
            refine ⟨_, fun _ _ => rfl, ?_⟩
            subst hK
            unfold wpCalm
            generalize hK : wpCalm Try.prog _ _ _ _ = K
            rw [if_pos (by go_simp)]
            refine calm_loadWV _ wb (y1, y2) rfl rfl HWV.out ?_
            go_simp
            subst hK
            unfold wpCalm
            generalize hK : wpCalm Try.prog _ _ _ _ = K
            unfold Oper.calm
            go_simp
            refine ⟨_, fun w' hw => HLA.out w' hw, ?_⟩
            subst hK
            unfold wpCalm
            generalize hK : wpCalm Try.prog _ _ _ _ = K
            rw [if_pos (by go_simp)]
            refine calm_ixI _ _ rfl rfl rfl hjl ?_
            go_simp
            subst hK
            refine wpCalm_nil ?_
            intro V3 hb3
            have HT3 := Hid.intro' (HTA.out.next ((Below.refl V1.heap.size V1).drew.trans hb3))
            have ou := HT3.out.ow.li c _ _ HUR.out.1 HUR.out.2
            obtain ⟨v0, hv0⟩ : ∃ v0, (bhj s c j)[j]? = some v0 := ⟨_, List.getElem?_eq_getElem (by rw [bhj_length hj]; exact hjl)⟩
            have d0 : V3.cell? ⟨gl, j, none⟩ = some (.int .i64 v0) := ou.cell hv0
            have g0 : V3.frozen? ⟨gl, j, none⟩ = false := ou.fr j
            have HT4 : Hid (Tn W (V3.setCell ⟨gl, j, none⟩ (.int .i64 A)) s (.slice ac s.cs.length kc) (.slice (some ⟨gw, ow, none⟩) s.ws.length kw) (us.set c (.slice (some ⟨gl, 0, none⟩) s.ws.length s.ws.length)) ((bhk s c).set c (bhj s c (j + 1)))) := by
              have := HT3.out.put HUR.out.1 HUR.out.2 j A
              rwa [List.set_set, HBJ.out] at this
            clear hb3 H15 HRW HNB HWV HLA HTA HYB HT3 ou hv0 HBJ HUR
            go_wp2
            go_roundw
            case rel => exact ⟨j + 1, by omega, by go_num, HT4⟩
            case measure => simp [intOf]; omega
          · have hjz : ¬ (j : Int) < (s.ws.length : Int) := by omega
            have hje : j = s.ws.length := by omega
            have hT := HT.out
            rw [hje, bhj_end, bhk_succ hlt] at hT
            have HT2 := Hid.intro' hT
            clear hT HT hje
            go_wp2
            go_roundw
            case rel => exact ⟨c + 1, _, by omega, by go_num, HT2⟩
            case measure => simp [intOf]; omega
      · have hcz : ¬ (c : Int) < (s.cs.length : Int) := by omega
        have hce : c = s.cs.length := by omega
        rw [hce, bhk_end] at HT
        have HE : Hid (Below W.heap.size W wr ∧ TR (fun g => (D g ∧ g < W.heap.size) ∨ W.heap.size ≤ g) wr (W.heap.size + 1 + 1) s (.slice ac s.cs.length kc) (.slice aw s.ws.length kw) (.slice (some ⟨W.heap.size + 1, 0, none⟩) s.cs.length s.cs.length)) := by
          refine ⟨HT.out.bel, HT.out.tb, .inr (by omega), (HC.out.below' HT.out.bel).mono fun g hg _ _ => .inl hg, (HW.out.below' HT.out.bel).mono fun g hg _ _ => .inl hg, ?_, HR.out⟩
          have := HT.out.ow.rl (D := fun g => (D g ∧ g < W.heap.size) ∨ W.heap.size ≤ g) fun q hq => .inr (by omega)
          rwa [bhd_length] at this
        clear HT hce
        go_wp2
        go_ret
        refine ⟨HE.out.1, W.heap.size + 1 + 1, ?_⟩
        first
          | exact ⟨rfl, by omega, _, HE.out.2⟩
          | exact ⟨_, rfl, by omega, HE.out.2⟩
end
end Go.Proofs.Ytagmidolcdefiah
