/- The program's Read. -/
import Derived.Test.YthhmaaeijbofbaaDoorTlG
import Derived.Laws.ResultCell
import Derived.Deep.LoopGhost
import Derived.WalkMore
namespace Go.Proofs.YthhmaaeijbofbaaDoor
open Go.RowKit

theorem retEI {fn : Func} {t u : Tmp} (hf : fn.results = #[.cell t 25, .tmp u]) {tmps : Array Value} {w : World} {b : Nat} {c : TM.Ev} {k : Int} (hp : tmps.getD t undef = .pointer (some ⟨b, 0, none⟩)) (hu : tmps.getD u undef = .int .i64 k) (hC : EB w b c) :
    (results fn tmps).run Tryd.prog w = .ok (.tuple #[.agg (ev c), .int .i64 k]) w := by
  rw [results_cell_tmp hf, hp, hu]
  simp only [asAddr, Sem.run_pure, Result.andThen_ok, run_loadVar_row w b 25 25 (ev c) (0, 0) _ hC Tryd.underlying25 rfl infoE]
/-- what is handed back, and the words -/
structure Rw (w wr : World) (ws : List (List UInt8)) (cap : Nat) : Prop where
  zb : EB wr w.heap.size ez
  wb : wr.heap[w.heap.size + 1]? = some (.cells (Lib.cellsOf (ws.map sb) cap) 9 (0, 0))
  pw : Pw w
  be : Below w.heap.size w wr
theorem Rw.pr {w wr : World} {ws : List (List UInt8)} {cap : Nat} (h : Rw w wr ws cap) : Pw wr := h.pw.below h.be
theorem Rw.next {w wr w' : World} {ws : List (List UInt8)} {cap : Nat} (h : Rw w wr ws cap) (hb : Below wr.heap.size wr w') : Rw w w' ws cap :=
  ⟨h.zb.below' hb, (hb.block _ (Array.getElem?_eq_some_iff.1 h.wb).1).trans h.wb, h.pw, below_cl h.be h.be.size hb⟩
theorem Rw.word {w wr : World} {ws : List (List UInt8)} {cap : Nat} (h : Rw w wr ws cap) {i : Nat} {x : List UInt8} (hx : ws[i]? = some x) : wr.cell? ⟨w.heap.size + 1, i, none⟩ = some (.string (sb x)) := by
  have hi := (List.getElem?_eq_some_iff.1 hx).1
  have he := (List.getElem?_eq_some_iff.1 hx).2
  simp [World.cell?, h.wb, Lib.cellsOf, List.getElem?_append_left, hi, he]
theorem Rw.start (w : World) (hp : Pw w) (ws : List (List UInt8)) (cap : Nat) : Rw w ((w.alloc (.cells #[.int .i64 0, .int .i64 0, .int .i64 0, .bool false, .int .i64 0, .int .i64 0, .int .i64 0, .bool false] 25)).alloc (.cells (Lib.cellsOf (ws.map sb) cap) 9)) ws cap := by
  have b0 := (Below.refl w.heap.size w).alloc (Nat.le_refl _) (.cells #[.int .i64 0, .int .i64 0, .int .i64 0, .bool false, .int .i64 0, .int .i64 0, .int .i64 0, .bool false] 25)
  have b1 := (Below.refl _ (w.alloc (.cells #[.int .i64 0, .int .i64 0, .int .i64 0, .bool false, .int .i64 0, .int .i64 0, .int .i64 0, .bool false] 25))).alloc (Nat.le_refl _) (.cells (Lib.cellsOf (ws.map sb) cap) 9)
  have s0 : (w.alloc (.cells #[.int .i64 0, .int .i64 0, .int .i64 0, .bool false, .int .i64 0, .int .i64 0, .int .i64 0, .bool false] 25)).heap.size = w.heap.size + 1 := by simp
  refine ⟨(EB.new w ez).below' b1, ?_, hp, below_cl b0 b0.size b1⟩
  have := World.alloc_heap_new (w.alloc (.cells #[.int .i64 0, .int .i64 0, .int .i64 0, .bool false, .int .i64 0, .int .i64 0, .int .i64 0, .bool false] 25)) (.cells (Lib.cellsOf (ws.map sb) cap) 9)
  rwa [s0] at this
/-- behind Read -/
def RQ (w : World) (s : List UInt8) (r : Ending) (w' : World) : Prop := ∃ x c, r = .returned (.tuple #[.agg (ev x), .int .i64 c]) ∧ RP s x c ∧ Below w.heap.size w w'
theorem wds_ne (s : List UInt8) : ∃ h xs, wds s = h :: xs ∧ xs.length ≤ 3 ∧ h.length ≤ s.length ∧ ∀ x ∈ xs, x.length ≤ s.length := by
  obtain ⟨h1, h2, h3⟩ := TM.split_len (min 4 (s.length + 1) - 1) s
  unfold wds
  generalize Lib.splitK [32] 0 (min 4 (s.length + 1) - 1) s = l at h1 h2 h3 ⊢
  cases l with
  | nil => simp at h2
  | cons h xs => exact ⟨h, xs, rfl, by simp at h1; omega, h3 h (List.mem_cons_self ..), fun x hx => h3 x (List.mem_cons_of_mem _ hx)⟩
/-- and the numbers that have been read -/
structure Ri (w wy : World) (g : Nat) (h0 : List UInt8) (xs : List (List UInt8)) (cap i : Nat) : Prop where
  rw : Rw w wy (h0 :: xs) cap
  tb : wy.heap[g]? = some (.cells #[.int .i64 (vat xs i 0), .int .i64 (vat xs i 1), .int .i64 (vat xs i 2)] 40 (0, 0))
  hg : w.heap.size + 1 < g
section
variable {w wy : World} {g : Nat} {h0 : List UInt8} {xs : List (List UInt8)} {cap i : Nat}
theorem Ri.start (h : Rw w wy (h0 :: xs) cap) : Ri w (wy.alloc (.cells #[.int .i64 0, .int .i64 0, .int .i64 0] 40)) wy.heap.size h0 xs cap 0 :=
  ⟨h.next ((Below.refl _ _).alloc (Nat.le_refl _) _), World.alloc_heap_new wy _, (Array.getElem?_eq_some_iff.1 h.wb).1⟩
theorem Ri.next {w' : World} (h : Ri w wy g h0 xs cap i) (hb : Below wy.heap.size wy w') : Ri w w' g h0 xs cap i := ⟨h.rw.next hb, (hb.block _ (Array.getElem?_eq_some_iff.1 h.tb).1).trans h.tb, h.hg⟩
theorem Ri.cell (h : Ri w wy g h0 xs cap i) (j : Nat) : wy.cell? ⟨g, j, none⟩ = (#[.int .i64 (vat xs i 0), .int .i64 (vat xs i 1), .int .i64 (vat xs i 2)] : Array Value)[j]? := by simp [World.cell?, h.tb]
theorem Ri.fr (h : Ri w wy g h0 xs cap i) (j : Nat) : wy.frozen? ⟨g, j, none⟩ = false := by simp [World.frozen?, h.tb]
theorem Ri.set (h : Ri w wy g h0 xs cap i) {x : List UInt8} (hx : xs[i]? = some x) (hi : i < 3) {v : Int} (hv : Lib.atoiAll x = .ok v) : Ri w (wy.setCell ⟨g, i, none⟩ (.int .i64 v)) g h0 xs cap (i + 1) := by
  have hg := h.hg
  have hvv : vv xs[i]? = v := by rw [hx]; exact vv_ok hv
  refine ⟨⟨h.rw.zb.other _ (by omega), (Below.heap_setCell wy ⟨g, i, none⟩ _ (w.heap.size + 1) (by show _ ≠ g; omega)).trans h.rw.wb, h.rw.pw, h.rw.be.setCell (by show _ ≤ g; omega) _⟩, ?_, hg⟩
  · have := heap_setCell_same wy g i _ _ (.int .i64 v) h.tb
    rw [this]
    have h3 : i = 0 ∨ i = 1 ∨ i = 2 := by omega
    rcases h3 with rfl | rfl | rfl <;> simp [vat, hvv]
end
theorem infoA : (Tryd.prog.info? 40).map (·.size) = some 3 := by kernel_rfl
theorem wd_pos (k : Int) : 1 ≤ (wd k).length := by
  unfold wd
  repeat' split
  all_goals decide
set_option maxRecDepth 100000 in
set_option maxHeartbeats 8000000 in
theorem read_any (s : List UInt8) (hs : s.length ≤ 1000) (w : World) (hp : Pw w) : Calls Tryd.prog 8 #[.string (sb s)] w (RQ w s) := by
  obtain ⟨h0, xs, hws, hx3, hh0, hxl⟩ := wds_ne s
  have HSP := Hid.mk' (split_any s hs (w.alloc (.cells #[.int .i64 0, .int .i64 0, .int .i64 0, .bool false, .int .i64 0, .int .i64 0, .int .i64 0, .bool false] 25)) (hp.below ((Below.refl w.heap.size w).alloc (Nat.le_refl _) _)))
  have HR0 := Hid.mk' (Rw.start w hp (wds s) (min 4 (s.length + 1)))
  rw [hws] at HSP HR0
  have HWS := Hid.mk' hws
  have HXL := Hid.mk' hxl
  have hcap : (min 4 (s.length + 1)) = 4 ∨ min 4 (s.length + 1) = s.length + 1 := by omega
  obtain ⟨cap, HC⟩ : ∃ cap, Hid (min 4 (s.length + 1) = cap) := ⟨_, Hid.mk' rfl⟩
  rw [HC.out] at HSP HR0
  clear hws hp hcap hxl
  go_enter Tryd.func8, Tryd.ntmps8
  go_wp2
  go_step3
  go_wp2_with fail
  refine HSP.out.mono ?_
  rintro r W1 ⟨rfl, rfl⟩
  have s0 : (w.alloc (.cells #[.int .i64 0, .int .i64 0, .int .i64 0, .bool false, .int .i64 0, .int .i64 0, .int .i64 0, .bool false] 25)).heap.size = w.heap.size + 1 := by simp
  rw [s0]
  clear HSP s0
  generalize (w.alloc (.cells #[.int .i64 0, .int .i64 0, .int .i64 0, .bool false, .int .i64 0, .int .i64 0, .int .i64 0, .bool false] 25)).alloc (.cells (Lib.cellsOf ((h0 :: xs).map sb) cap) 9) = V at HR0 ⊢
  rw [List.length_cons]
  go_wp2
  go_step3
  go_wp2
  go_loopg [5] 8 (fun g s5 wx => ∃ k : Nat, k + g = 9 ∧ 1 ≤ k ∧ s5 = .int .i64 (k : Int) ∧ Hid (Nl s k) ∧ Hid (Rw w wx (h0 :: xs) cap))
  case atStart => exact ⟨1, rfl, Nat.le_refl _, rfl, Nl.one s, HR0⟩
  case round =>
    obtain ⟨k, hkg, hk1, rfl, HN, HR⟩ := hrel
    clear HR0
    cases gk with
    | zero =>
      obtain rfl : k = 9 := by omega
      have HE := Hid.mk' (Nl.none HN.out)
      go_wp2_with (refine wpList_storeE (c' := ez) rfl _ _ rfl _ rfl rfl HR.out.zb ?_)
      intro W9 hk9 hb9 _ hz9
      have HB9 := Hid.mk' (HR.out.be.trans hb9)
      have HZ9 := Hid.mk' hz9
      clear hk9 hb9 hz9 HR
      go_wp2
      try rw [Exit.noGoto_ret]
      exact bodyPost_ret (retEI Tryd.results8 rfl rfl HZ9.out) rfl ⟨ez, 3, rfl, .inr ⟨rfl, rfl, HE.out⟩, HB9.out⟩
    | succ g =>
      have hk8 : (k : Int) ≤ 8 := by omega
      have c0 : wr.cell? ⟨w.heap.size + 1, 0, none⟩ = some (.string (sb h0)) := HR.out.word rfl
      have hnn : ((0 : Int) < ((xs.length + 1 : Nat) : Int)) := by omega
      have htl : ∀ l, (sb l).toList = l := sb_toList
      go_wp2
      refine wp_region_still_tail 5 (by kernel_rfl) (by kernel_rfl) ?_
      simp only [List.take_succ_cons, List.take_zero, List.drop_succ_cons, List.drop_zero]
      unfold wpStill
      generalize hK : wpStill Tryd.prog _ _ _ _ = K
      go_simp
      subst hK
      unfold wpStill
      generalize hK : wpStill Tryd.prog _ _ _ _ = K
      go_simp
      refine ⟨_, word_any k _, ?_⟩
      subst hK
      unfold wpStill
      generalize hK : wpStill Tryd.prog _ _ _ _ = K
      go_simp
      subst hK
      unfold wpStill
      generalize hK : wpStill Tryd.prog _ _ _ _ = K
      go_simp
      subst hK
      unfold wpStill
      generalize hK : wpStill Tryd.prog _ _ _ _ = K
      go_simp
      subst hK
      refine wpStill_nil ?_
      by_cases hw : wd k = h0
      · have hwb : (wd k == h0) = true := by simp [hw]
        have hc1 : ¬ cap = 1 := by
          have h1 := wd_pos k
          rw [hw] at h1
          have := HC.out
          omega
        have HR1 := Hid.mk' (HR.out.next (Below.refl _ _).drew)
        clear c0 HR
        change wpList _ _ _ _ _ wr.drew
        generalize wr.drew = V1 at HR1 ⊢
        go_wp2
        clear hw hwb
        go_loopg [27] xs.length (fun g2 s27 wy => ∃ i : Nat, i + g2 = xs.length ∧ s27 = .int .i64 (i : Int) ∧ Hid (Ri w wy V1.heap.size h0 xs cap i))
        case atStart => exact ⟨0, by omega, rfl, Ri.start HR1.out⟩
        case round =>
          obtain ⟨i, hig, rfl, HI⟩ := hrel
          clear HR1
          cases gk with
          | zero =>
            obtain rfl : i = xs.length := by omega
            have hiz : ¬ ((xs.length : Int) < (xs.length : Int)) := by omega
            have hk : 1 ≤ (k : Int) ∧ (k : Int) ≤ 8 := by omega
            obtain ⟨e, HE⟩ : ∃ e, Hid (mk k (vat xs xs.length 0) (vat xs xs.length 1) (vat xs xs.length 2) = e) := ⟨_, Hid.mk' rfl⟩
            have HEV : Hid (∀ w', Calls Tryd.prog 16 #[.int .i64 k, .agg #[.int .i64 (vat xs xs.length 0), .int .i64 (vat xs xs.length 1), .int .i64 (vat xs xs.length 2)]] w' fun r w'' => r = .returned (.agg #[.int .i64 e.ki, .int .i64 e.a, .int .i64 e.b, .bool e.on, .int .i64 e.fl, .int .i64 e.ca, .int .i64 e.ag, .bool e.up]) ∧ Below w'.heap.size w' w'') := fun w' => by
              have := event_any k (vat xs xs.length 0) (vat xs xs.length 1) (vat xs xs.length 2) hk w'
              rwa [HE.out] at this
            have HM : Hid (TM.known e ∧ TM.Ok e ∧ TM.told e = e) := by
              show _ ∧ _ ∧ _
              rw [← HE.out]
              refine ⟨mk_known hk, mk_ok hk ?_ ?_, mk_told hk⟩
              · rw [vat_all]; exact vv_in _
              · rw [vat_all]; exact vv_in _
            have HNL : Hid (TM.line e ≠ s → Nl s (k + 1)) := fun hn => HN.out.made HWS.out (by rw [← HE.out] at hn; simpa [vat_all] using hn)
            clear HE
            go_wp2_with (refine wpList_load_row rfl 40 _ rfl _ rfl _ _ _ _ HI.out.tb Tryd.underlying40 rfl infoA ?_)
            refine (HEV.out _).mono ?_
            rintro r W2 ⟨rfl, hb2⟩
            have HR2 := Hid.mk' (HI.out.rw.next hb2)
            have HE2 := Hid.mk' (EB.new W2 e)
            have HR3 := Hid.mk' (HR2.out.next ((Below.refl _ W2).alloc (Nat.le_refl _) (.cells #[.int .i64 e.ki, .int .i64 e.a, .int .i64 e.b, .bool e.on, .int .i64 e.fl, .int .i64 e.ca, .int .i64 e.ag, .bool e.up] 25)))
            clear hb2 HEV HI HR2
            go_wp2_with (refine wpList_loadE rfl _ rfl _ rfl HE2.out ?_)
            generalize W2.alloc (.cells #[.int .i64 e.ki, .int .i64 e.a, .int .i64 e.b, .bool e.on, .int .i64 e.fl, .int .i64 e.ca, .int .i64 e.ag, .bool e.up] 25) = V3 at HE2 HR3 ⊢
            generalize W2.heap.size = b3 at HE2 ⊢
            refine (tline_any e HM.out.2.1 _ HR3.out.pr.pt).mono ?_
            rintro r W4 ⟨rfl, hb4⟩
            have HE4 := Hid.mk' (HE2.out.below' hb4)
            have HR4 := Hid.mk' (HR3.out.next hb4)
            clear hb4 HE2 HR3
            by_cases hl : TM.line e = s
            · have hlb : (TM.line e == s) = true := by simp [hl]
              have HRP : Hid (RP s e 0) := .inl ⟨rfl, HM.out.1, HM.out.2.1, hl, HM.out.2.2⟩
              clear HNL HM hl
              go_wp2_with (first | (refine wpList_loadE rfl _ rfl _ rfl HE4.out ?_) | (refine wpList_storeE (c' := e) rfl _ _ rfl _ rfl rfl HR4.out.zb ?_))
              intro W9 hk9 hb9 _ hz9
              have HB9 := Hid.mk' (HR4.out.be.trans hb9)
              have HZ9 := Hid.mk' hz9
              clear hk9 hb9 hz9 HR4 HE4
              go_wp2
              try rw [Exit.noGoto_ret]
              exact bodyPost_ret (retEI Tryd.results8 rfl rfl HZ9.out) rfl ⟨e, 0, rfl, HRP.out, HB9.out⟩
            · have hlb : (TM.line e == s) = false := by simp [hl]
              have HN1 := Hid.mk' (HNL.out hl)
              clear HNL HM hl
              go_wp2
              go_roundg g
              case measure => omega
              case rel => exact ⟨k + 1, by omega, by omega, by go_num, HN1, HR4⟩
          | succ g2 =>
            have hil : i < xs.length := by omega
            have hiz : (i : Int) < (xs.length : Int) := by omega
            have hi3 : i < 3 := by omega
            have hi3z : (i : Int) < 3 := by omega
            obtain ⟨x, hx⟩ : ∃ x, xs[i]? = some x := ⟨_, List.getElem?_eq_getElem hil⟩
            have ci : wr.cell? ⟨w.heap.size + 1, 1 + i, none⟩ = some (.string (sb x)) := HI.out.rw.word (i := 1 + i) (by rw [Nat.add_comm]; exact hx)
            have hxs : x.length ≤ 1000 := Nat.le_trans (HXL.out x (List.mem_of_getElem? hx)) hs
            by_cases hv : ∃ v, Lib.atoiAll x = .ok v
            · obtain ⟨v, hv⟩ := hv
              go_wp2_with fail
              refine (atoi_yes x hxs hv _).mono ?_
              rintro r W2 ⟨rfl, hb2⟩
              have HI2 := Hid.mk' (HI.out.next hb2)
              have HI3 := Hid.mk' (HI2.out.set hx hi3 hv)
              have ct : W2.cell? ⟨V1.heap.size, i, none⟩ = some (.int .i64 (vat xs i i)) := by
                rw [HI2.out.cell]
                have h3 : i = 0 ∨ i = 1 ∨ i = 2 := by omega
                rcases h3 with rfl | rfl | rfl <;> rfl
              have ft := HI2.out.fr i
              clear hb2 HI ci HI2
              go_wp2
              go_roundg g2
              case measure => omega
              case rel => exact ⟨i + 1, by omega, by go_num, HI3⟩
            · have hvn : ∀ v, Lib.atoiAll x ≠ .ok v := fun v h => hv ⟨v, h⟩
              have HE := Hid.mk' (Nl.bad HWS.out (List.mem_of_getElem? hx) hvn)
              go_wp2_with fail
              refine (atoi_no x hxs hvn _ HI.out.rw.pr).mono ?_
              rintro r W2 ⟨⟨u, t, p, rfl⟩, hb2⟩
              have HR2 := Hid.mk' (HI.out.rw.next hb2)
              clear hb2 HI ci hv hvn
              go_wp2_with (refine wpList_storeE (c' := ez) rfl _ _ rfl _ rfl rfl HR2.out.zb ?_)
              intro W9 hk9 hb9 _ hz9
              have HB9 := Hid.mk' (HR2.out.be.trans hb9)
              have HZ9 := Hid.mk' hz9
              clear hk9 hb9 hz9 HR2
              go_wp2
              try rw [Exit.noGoto_ret]
              exact bodyPost_ret (retEI Tryd.results8 rfl rfl HZ9.out) rfl ⟨ez, 3, rfl, .inr ⟨rfl, rfl, HE.out⟩, HB9.out⟩
      · have hwb : (wd k == h0) = false := by simp [hw]
        have HR1 := Hid.mk' (HR.out.next (Below.refl _ _).drew)
        have HN1 := Hid.mk' (HN.out.next HWS.out hw)
        clear c0 HR
        go_wp2
        go_roundg g
        case measure => omega
        case rel => exact ⟨k + 1, by omega, by omega, by go_num, HN1, HR1⟩
end Go.Proofs.YthhmaaeijbofbaaDoor
