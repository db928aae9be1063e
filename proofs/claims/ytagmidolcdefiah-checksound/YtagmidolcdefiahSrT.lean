/- The best of all plans, as the document makes it. -/
import Derived.Test.YtagmidolcdefiahPk9
import Derived.Test.YtagmidolcdefiahSrB
import Derived.Test.YtagmidolcdefiahPk10
namespace Go.Proofs.Ytagmidolcdefiah
open Go.RowKit Go.Shelf
section
variable {s : Sn}
/-- the first places of a list; the first lists -/
def inq (p : List (List Int)) (w : Int) (c i : Nat) : List (List (List Int)) := (List.range i).map fun j => p.set c (insw (p[c]?.getD []) j w)
def inp (s : Sn) (p : List (List Int)) (w : Int) (c : Nat) : List (List (List Int)) := (List.range c).flatMap fun c => if mayk s c w = true then inq p w c ((p[c]?.getD []).length + 1) else []
theorem inp_all (s : Sn) (p : List (List Int)) (w : Int) : inp s p w s.cs.length = ino s p w := rfl
theorem inp_succ (p : List (List Int)) (w : Int) (c : Nat) : inp s p w (c + 1) = inp s p w c ++ if mayk s c w = true then inq p w c ((p[c]?.getD []).length + 1) else [] := by
  unfold inp
  rw [List.range_succ, List.flatMap_append, List.flatMap_singleton]
theorem inq_succ {p : List (List Int)} {w : Int} {c : Nat} {l : List Int} (h : p[c]? = some l) (j : Nat) : inq p w c (j + 1) = inq p w c j ++ [p.set c (insw l j w)] := by
  unfold inq
  rw [List.range_succ, List.map_append, h]
  rfl
theorem insw_length (l : List Int) {i : Nat} (w : Int) (h : i ≤ l.length) : (insw l i w).length = l.length + 1 := by
  unfold insw
  rw [List.length_append, List.length_cons, List.length_take, List.length_drop]
  omega
theorem ins_max {p : List (List Int)} {c i n : Nat} {w : Int} {l : List Int} (hl : p[c]? = some l) (hi : i ≤ l.length) (h : ∀ l ∈ p, l.length ≤ n) : ∀ m ∈ p.set c (insw l i w), m.length ≤ n + 1 := fun m hm => by
  rcases List.mem_or_eq_of_mem_set hm with hm | hm
  · exact Nat.le_succ_of_le (h m hm)
  · rw [hm, insw_length l w hi]
    have := h l (List.mem_of_getElem? hl)
    omega
theorem bst_nn (hr : rgt s = true) : ∀ (r n : Nat) (p : List (List Int)), n + r = s.ws.length → Pw s n p → (∀ l ∈ p, l.length ≤ n) → 0 ≤ bst s r n p
  | 0, n, p, hn, hp, hl => by
    obtain rfl : n = s.ws.length := by omega
    obtain ⟨_, hrs⟩ := rgt_rs hr
    have hwl := hrs.wl
    exact ((fsb_fs (hp.fsb hr)).cost fun l h => by have := hl l h; omega).1
  | r + 1, n, p, hn, hp, hl => by
    have ih := bst_nn hr r (n + 1)
    obtain ⟨c, hc, hm⟩ := has_car hr (w := n) (by omega)
    have hall : ∀ o ∈ ino s p (n : Int), 0 ≤ bst s r (n + 1) o := fun o ho => by
      obtain ⟨c, i, hc, hm, hi, rfl⟩ := ino_mem.1 ho
      obtain ⟨l, hcl⟩ : ∃ l, p[c]? = some l := ⟨_, List.getElem?_eq_getElem (by rw [hp.len]; exact hc)⟩
      have h1 := (hp.ins (i := i) hc (by omega) hm).1
      rw [hcl] at h1 hi ⊢
      exact ih _ (by omega) h1 (ins_max hcl hi hl)
    have hne : (ino s p (n : Int)).map (bst s r (n + 1)) ≠ [] := fun e => by
      have hmem : p.set c (insw (p[c]?.getD []) 0 (n : Int)) ∈ ino s p (n : Int) := ino_mem.2 ⟨c, 0, hc, hm, Nat.zero_le _, rfl⟩
      rw [List.map_eq_nil_iff] at e
      rw [e] at hmem
      cases hmem
    show 0 ≤ RM.lm ((ino s p (n : Int)).map (bst s r (n + 1)))
    rw [RM.lm_low hne]
    obtain ⟨o, ho, e⟩ := List.mem_map.1 (RM.low_mem hne).1
    rw [← e]
    exact hall o ho
end
/-- what is claimed of the best that is reckoned with so many wants to go -/
def Bsc (s : Sn) (r : Nat) : Prop := ∀ (n : Nat) (p : List (List Int)) (vc vw v : Value) (w : World), n + r = s.ws.length → Pw s n p → (∀ l ∈ p, l.length ≤ n) → R2 (fun _ => True) w vc s.cs → R2 (fun _ => True) w vw s.ws → RL (fun _ => True) w v p →
  Calls Try.prog 35 #[.agg (nv s.st vc vw).toArray, .int .i64 (n : Int), v] w fun e w' => e = .returned (.int .i64 (bst s r n p)) ∧ Below w.heap.size w w'
set_option maxRecDepth 100000 in
set_option maxHeartbeats 4000000 in
theorem best_zero (s : Sn) (hr : rgt s = true) : Bsc s 0 := by
  intro n p vc vw v w hn hp hl hc hw hv
  obtain rfl : n = s.ws.length := by omega
  have hbx := (Below.refl w.heap.size w).alloc (Nat.le_refl _) (.cells (nv s.st vc vw).toArray 27)
  have HN := Hid.intro' (NB.new w s.st vc vw)
  have HB := Hid.intro' hbx
  obtain ⟨_, hrs⟩ := rgt_rs hr
  have hwl := hrs.wl
  have HC := Hid.intro' (rcost_any s (fun _ => True) vc vw v p _ (hc.below' hbx) (hw.below' hbx) (hv.below' hbx) (hp.fsb hr) fun l h => by have := hl l h; omega)
  obtain ⟨ac, kc, rfl, _, _⟩ := hc.form
  obtain ⟨aw, kw, rfl, _, _⟩ := hw.form
  have c14 : (w.alloc (.cells (nv s.st (.slice ac s.cs.length kc) (.slice aw s.ws.length kw)).toArray 27)).cell? ⟨w.heap.size, 14, none⟩ = some (.slice aw s.ws.length kw) := HN.out.cell 14
  clear hc hw hv hbx
  go_enter Try.func35, Try.ntmps35
  go_wp2_with (refine wpList_load27g rfl _ rfl w.heap.size s.st _ _ rfl HN.out ?_)
  refine HC.out.mono ?_
  rintro e W2 ⟨rfl, hb2⟩
  have HE := Hid.intro' (below_class HB.out hb2)
  clear hb2 HC HN HB c14
  go_wp2
  go_ret
  exact ⟨rfl, HE.out⟩
/-- the least of the plans' numbers -/
def lmf (F : List (List Int) → Int) (L : List (List (List Int))) : Int := RM.lm (L.map F)
set_option maxRecDepth 100000 in
set_option maxHeartbeats 8000000 in
theorem best_succ (s : Sn) (hr : rgt s = true) (r : Nat) (ih : Bsc s r) : Bsc s (r + 1) := by
  intro n p vc vw v w hn hp hl hc hw hv
  have hbx := (Below.refl w.heap.size w).alloc (Nat.le_refl _) (.cells (nv s.st vc vw).toArray 27)
  have HN := Hid.intro' (NB.new w s.st vc vw)
  have HB := Hid.intro' hbx
  have HC := Hid.intro' (hc.below' hbx)
  have HW := Hid.intro' (hw.below' hbx)
  have HV := Hid.intro' (hv.below' hbx)
  have IH := Hid.intro' ih
  have HP := Hid.intro' hp
  have HR := Hid.intro' hr
  have HLM := Hid.intro' hl
  obtain ⟨ac, kc, rfl, _, _⟩ := hc.form
  obtain ⟨aw, kw, rfl, _, _⟩ := hw.form
  obtain ⟨av, kv, rfl, _, _⟩ := hv.form
  obtain ⟨n8, hrs⟩ := rgt_rs hr
  have hwl : s.ws.length ≤ 128 := hrs.wl
  have hcl : s.cs.length ≤ 8 := by have := hrs.cl; have := hrs.n8; omega
  have hpl : p.length = s.cs.length := hp.len
  have hnl : n < s.ws.length := by omega
  have hnz : ¬ (n : Int) = (s.ws.length : Int) := by omega
  have hnq : ((n : Int) == (s.ws.length : Int)) = false := by simp; omega
  have hnd : decide ((n : Int) = (s.ws.length : Int)) = false := decide_eq_false hnz
  obtain ⟨y, hy⟩ : ∃ y, s.ws[n]? = some y := ⟨_, List.getElem?_eq_getElem hnl⟩
  obtain ⟨m, hm, hym⟩ := hrs.mm.eq n y hy
  have hm8 : m ≤ 100000 := by
    have h1 := hrs.lt m (List.mem_of_getElem? hm)
    have h2 : 2 ^ n8 ≤ 2 ^ 8 := Nat.pow_le_pow_right (by omega) hrs.n8
    omega
  have HMY : Hid (∀ c, mayk s c (n : Int) = PM.bt m c) := fun c => by unfold mayk; rw [Int.toNat_natCast, hm]; rfl
  have HY := Hid.intro' hy
  have HYM := Hid.intro' hym
  have HNR : Hid (n + 1 + r = s.ws.length) := by show _ = _; omega
  obtain ⟨F, HF⟩ : ∃ F, Hid (bst s r (n + 1) = F) := ⟨_, Hid.intro' rfl⟩
  have HNN : Hid (∀ (c j : Nat) (l : List Int), c < s.cs.length → p[c]? = some l → mayk s c (n : Int) = true → j ≤ l.length → Pw s (n + 1) (p.set c (insw l j (n : Int))) ∧ (∀ m ∈ p.set c (insw l j (n : Int)), m.length ≤ n + 1) ∧ 0 ≤ F (p.set c (insw l j (n : Int)))) := fun c j l hcc hcp hmm hj => by
    have h1 := (hp.ins (i := j) hcc hnl hmm).1
    rw [hcp] at h1
    have h2 := ins_max (w := (n : Int)) hcp hj hl
    exact ⟨h1, h2, by rw [← HF.out]; exact bst_nn hr r (n + 1) _ (by omega) h1 h2⟩
  have HGP : Hid (∀ c, c ≤ s.cs.length → ∀ z ∈ (inp s p (n : Int) c).map F, 0 ≤ z) := fun c hc z hz => by
    obtain ⟨o, ho, rfl⟩ := List.mem_map.1 hz
    unfold inp at ho
    obtain ⟨d, hd, ho⟩ := List.mem_flatMap.1 ho
    rw [List.mem_range] at hd
    split at ho
    · rename_i hmm
      obtain ⟨j, hj, rfl⟩ := List.mem_map.1 ho
      rw [List.mem_range] at hj
      obtain ⟨l, hcp⟩ : ∃ l, p[d]? = some l := ⟨_, List.getElem?_eq_getElem (by omega)⟩
      rw [hcp] at hj ⊢
      exact (HNN.out d j l (by omega) hcp hmm (by simp at hj; omega)).2.2
    · simp at ho
  have HBE : Hid (bst s (r + 1) n p = lmf F (inp s p (n : Int) s.cs.length)) := by
    show _ = _
    unfold lmf
    rw [inp_all, ← HF.out]; rfl
  have c14 : (w.alloc (.cells (nv s.st (.slice ac s.cs.length kc) (.slice aw s.ws.length kw)).toArray 27)).cell? ⟨w.heap.size, 14, none⟩ = some (.slice aw s.ws.length kw) := HN.out.cell 14
  have HPL := Hid.intro' hpl
  have hp8 : p.length ≤ 8 := by omega
  clear hc hw hv hbx hr hrs ih hp hl hy hm hym hpl hn
  go_enter Try.func35, Try.ntmps35
  go_wp2_with fail
  clear c14
  generalize w.alloc (.cells (nv s.st (.slice ac s.cs.length kc) (.slice aw s.ws.length kw)).toArray 27) = X at HN HB HC HW HV ⊢
  go_loopw [7, 8] (fun lv cv wr => ∃ c : Nat, c ≤ p.length ∧ cv = .int .i64 (c : Int) ∧ lv = .int .i64 (lmf F (inp s p (n : Int) c)) ∧ Hid (Below X.heap.size X wr)) (fun _ cv _ => p.length - (intOf cv).toNat)
  case atStart => exact ⟨0, Nat.zero_le _, rfl, rfl, Below.refl _ _⟩
  case round =>
    obtain ⟨c, hcn, rfl, rfl, HBC⟩ := hrel
    by_cases hcc : c < p.length
    · have hcz : (c : Int) < (p.length : Int) := by omega
      have HMAY := Hid.intro' (may_any s (fun _ => True) (.slice ac s.cs.length kc) (.slice aw s.ws.length kw) wr (HW.out.below' HBC.out) n c m y HY.out HYM.out hm8 (by omega))
      have HN1 := Hid.intro' (HN.out.below' HBC.out)
      go_wp2_with (refine wpList_load27g rfl _ rfl w.heap.size s.st _ _ rfl HN1.out ?_)
      refine HMAY.out.mono ?_
      rintro e W5 ⟨rfl, hb5⟩
      have HB5 := Hid.intro' (below_class HBC.out hb5)
      have HIS := Hid.intro' (inp_succ (s := s) p (n : Int) c)
      clear hb5 HMAY HBC HN1
      cases hbt : PM.bt m c with
      | false =>
        rw [HMY.out c, hbt, if_neg (by simp), List.append_nil] at HIS
        clear hbt
        go_wp2
        go_roundw
        case rel => exact ⟨c + 1, by omega, by go_num, by rw [HIS.out], HB5⟩
        case measure => simp [intOf]; omega
      | true =>
        have HM := Hid.intro' ((HMY.out c).trans hbt)
        rw [HMY.out c, hbt, if_pos rfl] at HIS
        obtain ⟨l, hl⟩ : ∃ l, p[c]? = some l := ⟨_, List.getElem?_eq_getElem hcc⟩
        have hln : l.length ≤ 128 := by have := HLM.out l (List.mem_of_getElem? hl); omega
        rw [hl] at HIS
        have HL := Hid.intro' hl
        clear hbt hl
        go_wp2_with fail
        go_loopw [7, 9] (fun lv jv wr => ∃ j : Nat, j ≤ l.length + 1 ∧ jv = .int .i64 (j : Int) ∧ lv = .int .i64 (lmf F (inp s p (n : Int) c ++ inq p (n : Int) c j)) ∧ Hid (Below X.heap.size X wr)) (fun _ jv _ => l.length + 1 - (intOf jv).toNat)
        case atStart => exact ⟨0, Nat.zero_le _, rfl, by rw [show inq p (n : Int) c 0 = [] from rfl, List.append_nil], HB5⟩
        case round =>
          clear HB5
          obtain ⟨j, hjn, rfl, rfl, HBJ⟩ := hrel
          obtain ⟨gp, op, rfl, u, hcu, hru⟩ := (HV.out.below' HBJ.out).at HL.out
          obtain ⟨au, ku, rfl, hku, _⟩ := hru.form
          have HRU := Hid.intro' hru
          have HCU := Hid.intro' hcu
          by_cases hjl : j ≤ l.length
          · have hjz : (j : Int) ≤ (l.length : Int) := by omega
            have hjd : decide ((j : Int) ≤ (l.length : Int)) = true := decide_eq_true hjz
            have hmk := mkL p.length (by omega)
            have HBJ2 := HBJ
            go_wp2_with fail
            have HO0 : Hid (OW (wr.alloc (.cells (Array.replicate p.length (Value.slice none 0 0)) 55)) wr.heap.size wr.heap.size (List.replicate p.length (Value.slice none 0 0)) (cpk p 0)) := by
              have := OW.make (B := wr.heap.size) wr p.length (Nat.le_refl _)
              rw [List.toArray_replicate] at this
              rw [cpk_zero]
              exact this
            have HB0 := Hid.intro' ((Below.refl wr.heap.size wr).alloc (Nat.le_refl _) (.cells (Array.replicate p.length (Value.slice none 0 0)) 55))
            clear hmk hru hcu
            have HV8 := Hid.intro' (HV.out.below' HBJ.out)
            generalize wr.alloc (.cells (Array.replicate p.length (Value.slice none 0 0)) 55) = Y at HO0 HB0 ⊢
            obtain ⟨W8, hW8⟩ : ∃ W, wr = W := ⟨_, rfl⟩
            rw [hW8] at HO0 HB0 HV8 HBJ HRU HCU ⊢
            clear HBJ2 hW8
            go_loopw [11] (fun iv wr => ∃ (d : Nat) (us : List Value), d ≤ p.length ∧ iv = .int .i64 (d : Int) ∧ Hid (OW wr W8.heap.size W8.heap.size us (cpk p d)) ∧ Hid (Below W8.heap.size W8 wr)) (fun iv _ => p.length - (intOf iv).toNat)
            case atStart => exact ⟨0, _, Nat.zero_le _, rfl, HO0, HB0⟩
            case round =>
              clear HO0 HB0
              obtain ⟨d, us, hd, rfl, HO, HBC⟩ := hrel
              by_cases hdb : d < p.length
              · have hdz : (d : Int) < (p.length : Int) := by omega
                obtain ⟨ld, hld⟩ : ∃ l, p[d]? = some l := ⟨_, List.getElem?_eq_getElem hdb⟩
                have hldn : ld.length ≤ 128 := by have := HLM.out ld (List.mem_of_getElem? hld); omega
                have HLD := Hid.intro' hld
                have hal := (Below.refl wr.heap.size wr).alloc (Nat.le_refl _) (.cells #[] 3)
                have HBA := Hid.intro' hal
                obtain ⟨gp', op', e', u', hcu', hru'⟩ := ((HV8.out.below' HBC.out).below' hal).at hld
                cases e'
                obtain ⟨au', ku', rfl, _, _⟩ := hru'.form
                have HRU' := Hid.intro' hru'
                have HO1 : Hid (OI (wr.alloc (.cells #[] 3)) wr.heap.size (.slice (some ⟨wr.heap.size, 0, none⟩) 0 0) []) := OI.lit (B := wr.heap.size) wr [] (Nat.le_refl _) (Nat.zero_le _)
                have HSA : Hid (wr.heap.size ≤ (wr.alloc (.cells #[] 3)).heap.size) := hal.size
                clear hld hal hru'
                go_wp2_with (at_builtin; refine wpList_appendRI rfl _ _ rfl wr.heap.size _ _ [] ld (fun _ => True) rfl HO1.out rfl HRU'.out ?qa2 HSA.out ?_)
                case qa2 => simp; omega
                intro v9 W9 ho9 hg9
                have hb9 := HBA.out.grown hg9 HSA.out (fun q hq => (HO1.out.lt q hq).1)
                have hon := HO.out.next hb9
                obtain ⟨uc, huc⟩ : ∃ z, us[d]? = some z := ⟨_, List.getElem?_eq_getElem (by rw [HO.out.len, cpk_length hd]; exact hdb)⟩
                have d1 : W9.cell? ⟨W8.heap.size, d, none⟩ = some uc := (blk_cell hon.hl d).trans huc
                have d2 : W9.frozen? ⟨W8.heap.size, d, none⟩ = false := blk_fr hon.hl d
                have hpt := HO.out.put (c := d) (u' := v9) (l := ld) (by rw [cpk_length hd]; exact hdb) hb9 (fun q hq => (OI.lt ho9 q hq).1) (OI.mono ho9 HBC.out.size)
                rw [cpk_succ HLD.out] at hpt
                have HOP := Hid.intro' hpt
                have HBP := Hid.intro' ((below_class HBC.out hb9).setCell (p := ⟨W8.heap.size, d, none⟩) (Nat.le_refl _) v9)
                obtain ⟨a9, c9, rfl⟩ := OI.slice ho9
                clear ho9 hg9 hb9 hon huc hpt hcu' HO HBC HBA HO1 HSA HRU'
                go_wp2
                go_roundw
                case rel => exact ⟨d + 1, _, by omega, by go_num, HOP, HBP⟩
                case measure => simp [intOf]; omega
              · have hdz : ¬ (d : Int) < (p.length : Int) := by omega
                have hde : d = p.length := by omega
                rw [hde, cpk_end] at HO
                clear hde
                obtain ⟨W7, hW7⟩ : ∃ W, wr = W := ⟨_, rfl⟩
                rw [hW7] at HO HBC ⊢
                clear hW7
                have HDR : Hid (∀ w', Below W7.drew.heap.size W7.drew w' → Below W7.heap.size W7 w') := fun w' hw => ((Below.refl _ W7).drew).trans hw
                have HCW : Hid (∀ w', Below W7.drew.heap.size W7.drew w' → w'.cell? ⟨gp, op + c, none⟩ = some (.slice au l.length ku)) := fun w' hw => ((below_class HBC.out (HDR.out w' hw)).cell (p := ⟨gp, op + c, none⟩) (cell_lt HCU.out)).trans HCU.out
                have HRU7 := Hid.intro' (HRU.out.below' HBC.out)
                have hjk : j ≤ ku := by omega
                go_wp2_with fail
                refine wp_region_rows 20 [2, 9, 11, 12, 19] [(9, 2), (12, 9), (19, 12)] (fun i v w => OI w W7.drew.heap.size v (if i = 2 then [] else if i = 9 then l.take j else if i = 11 then [(n : Int)] else if i = 12 then l.take j ++ [(n : Int)] else l.take j ++ [(n : Int)] ++ l.drop j)) (by kernel_rfl) (by kernel_rfl) (rowsI_ok _ _) ?_
                conv => arg 5; simp [calmL]
                unfold wpCalm
                generalize hK : wpCalm Try.prog _ _ _ _ = K
                unfold Oper.calm
                go_simp
                refine ⟨_, fun _ _ => rfl, ?_⟩
                subst hK
                unfold wpCalm
                generalize hK : wpCalm Try.prog _ _ _ _ = K
                unfold Oper.calm
                go_simp
                refine ⟨_, fun _ _ => rfl, ?_⟩
                subst hK
                unfold wpCalm
                generalize hK : wpCalm Try.prog _ _ _ _ = K
                unfold Oper.calm
                go_simp
                refine ⟨_, fun _ _ => rfl, ?_⟩
                subst hK
                unfold wpCalm
                generalize hK : wpCalm Try.prog _ _ _ _ = K
                unfold Oper.calm
                go_simp
                refine ⟨_, fun _ _ => rfl, ?_⟩
                subst hK
                unfold wpCalm
                generalize hK : wpCalm Try.prog _ _ _ _ = K
                rw [if_pos (by go_simp)]
                refine calm_ixP _ _ rfl rfl rfl hcc ?_
                go_simp
                subst hK
                unfold wpCalm
                generalize hK : wpCalm Try.prog _ _ _ _ = K
                rw [if_pos (by go_simp)]
                refine calm_loadLI _ _ _ rfl rfl HCW.out ?_
                go_simp
                subst hK
                unfold wpCalm
                generalize hK : wpCalm Try.prog _ _ _ _ = K
                unfold Oper.calm
                go_simp
                refine ⟨_, fun _ _ => rfl, ?_⟩
                subst hK
                unfold wpCalm
                generalize hK : wpCalm Try.prog _ _ _ _ = K
                rw [if_pos (by go_simp)]
                refine calm_cut _ _ rfl rfl rfl hjk ?_
                go_simp
                subst hK
                unfold wpCalm
                generalize hK : wpCalm Try.prog _ _ _ _ = K
                unfold Oper.calm
                go_simp
                refine ⟨_, fun _ _ => rfl, ?_⟩
                subst hK
                unfold wpCalm
                generalize hK : wpCalm Try.prog _ _ _ _ = K
                unfold Oper.calm
                go_simp
                refine ⟨_, fun _ _ => rfl, ?_⟩
                subst hK
                unfold wpCalm
                generalize hK : wpCalm Try.prog _ _ _ _ = K
                unfold Oper.calm
                go_simp
                refine ⟨_, fun _ _ => rfl, ?_⟩
                subst hK
                unfold wpCalm
                generalize hK : wpCalm Try.prog _ _ _ _ = K
                rw [if_pos (by go_simp)]
                refine calm_ixP _ _ rfl rfl rfl hcc ?_
                go_simp
                subst hK
                unfold wpCalm
                generalize hK : wpCalm Try.prog _ _ _ _ = K
                rw [if_pos (by go_simp)]
                refine calm_loadLI _ _ _ rfl rfl HCW.out ?_
                go_simp
                subst hK
                unfold wpCalm
                generalize hK : wpCalm Try.prog _ _ _ _ = K
                unfold Oper.calm
                go_simp
                refine ⟨_, fun _ _ => rfl, ?_⟩
                subst hK
                unfold wpCalm
                generalize hK : wpCalm Try.prog _ _ _ _ = K
                rw [if_pos (by go_simp)]
                refine calm_rest _ _ rfl rfl rfl hjl ?_
                go_simp
                subst hK
                refine wpCalm_nil ⟨?_, ?_⟩
                · intro i o hi ho ρ w' hb h1 h2
                  simp only [List.mem_cons, List.not_mem_nil, or_false] at hi
                  rcases hi with rfl | rfl | rfl | rfl | rfl
                  · cases ho
                    refine RowDo.lit rfl 0 (.cells #[] 3) ?_ (OI.lit (B := W7.drew.heap.size) w' [] hb.size (Nat.zero_le _))
                    simp only [rwv, pl, List.foldl, dstOf]
                    go_simp
                  · cases ho
                    exact RowDo.appI rfl (.tmp 61) (.tmp 67) rfl _ (ρ 2) (.slice au j ku) [] (l.take j) _ (by rfl) (h1 2 (by simp) (by kernel_rfl)) (by rfl) ((HRU7.out.below' (HDR.out w' hb)).cut hjl) (by simp; omega) hb.size
                  · cases ho
                    refine RowDo.lit rfl 1 (.cells #[.int .i64 (n : Int)] 3) ?_ (OI.lit (B := W7.drew.heap.size) w' [(n : Int)] hb.size (by unfold maxLen; simp))
                    simp only [rwv, pl, List.foldl, dstOf]
                    go_simp
                  · cases ho
                    exact RowDo.appI rfl (.tmp 68) (.tmp 70) rfl _ (ρ 9) (ρ 11) (l.take j) [(n : Int)] (fun _ => True) (by rfl) (h1 9 (by simp) (by kernel_rfl)) (by rfl) (OI.ri (h1 11 (by simp) (by kernel_rfl)) fun _ _ => trivial) (by simp; omega) hb.size
                  · cases ho
                    exact RowDo.appI rfl (.tmp 71) (.tmp 77) rfl _ (ρ 12) (.slice (restA au ku j) (l.length - j) (ku - j)) (l.take j ++ [(n : Int)]) (l.drop j) _ (by rfl) (h1 12 (by simp) (by kernel_rfl)) (by rfl) ((HRU7.out.below' (HDR.out w' hb)).rest hjl) (by simp; omega) hb.size
                · intro ρ w' hb hlive
                  have ho : OI w' W7.drew.heap.size (ρ 19) (l.take j ++ [(n : Int)] ++ l.drop j) := hlive 19 (by simp) (by rfl)
                  simp only [rwv, pl, List.foldl, dstOf]
                  generalize ρ 2 = v2
                  generalize ρ 9 = v9
                  generalize ρ 11 = v11
                  generalize ρ 12 = v12
                  generalize ρ 19 = v19 at ho ⊢
                  rw [show l.take j ++ [(n : Int)] ++ l.drop j = insw l j (n : Int) by unfold insw; simp] at ho
                  have hb8 := HDR.out w' hb
                  have h7 : W7.heap.size ≤ W7.drew.heap.size := Nat.le_refl _
                  have hpt := HO.out.put (c := c) (u' := v19) (l := insw l j (n : Int)) hcc hb8 (fun q hq => (ho.lt q hq).1) (ho.mono HBC.out.size)
                  obtain ⟨ux, hux⟩ : ∃ z, us[c]? = some z := ⟨_, List.getElem?_eq_getElem (by rw [HO.out.len]; exact hcc)⟩
                  have d1 : w'.cell? ⟨W8.heap.size, c, none⟩ = some ux := (blk_cell (HO.out.next hb8).hl c).trans hux
                  have d2 : w'.frozen? ⟨W8.heap.size, c, none⟩ = false := blk_fr (HO.out.next hb8).hl c
                  obtain ⟨a9, k9, rfl⟩ := ho.slice
                  have HB9 := Hid.intro' ((below_class HBC.out hb8).setCell (p := ⟨W8.heap.size, c, none⟩) (Nat.le_refl _) (.slice a9 (insw l j (n : Int)).length k9))
                  have hrl := hpt.rl (D := fun _ => True) fun _ _ => trivial
                  rw [List.length_set] at hrl
                  have HRL := Hid.intro' hrl
                  obtain ⟨W9, hW9⟩ : ∃ X, w'.setCell ⟨W8.heap.size, c, none⟩ (.slice a9 (insw l j (n : Int)).length k9) = X := ⟨_, rfl⟩
                  rw [hW9] at HB9 HRL
                  have HBX := Hid.intro' (below_class HBJ.out HB9.out)
                  have HN9 := Hid.intro' (HN.out.below' HBX.out)
                  have HNX := HNN.out c j l (by have := HPL.out; omega) HL.out HM.out hjl
                  have hwn : IntKind.i64.wrap ((n : Int) + 1) = (n : Int) + 1 := IntWalk.i64_in _ (by omega)
                  have HR9 := Hid.intro' (IH.out (n + 1) _ _ _ _ W9 HNR.out HNX.1 HNX.2.1 (HC.out.below' HBX.out) (HW.out.below' HBX.out) HRL.out)
                  rw [show ((n + 1 : Nat) : Int) = (n : Int) + 1 by omega, HF.out] at HR9
                  have HQS := Hid.intro' (inq_succ (w := (n : Int)) HL.out j)
                  obtain ⟨t1, HT1⟩ : ∃ t, Hid (F (p.set c (insw l j (n : Int))) = t) := ⟨_, Hid.intro' rfl⟩
                  have HSN : Hid (lmf F (inp s p (n : Int) c ++ inq p (n : Int) c (j + 1)) = if lmf F (inp s p (n : Int) c ++ inq p (n : Int) c j) < 0 ∨ t1 < lmf F (inp s p (n : Int) c ++ inq p (n : Int) c j) then t1 else lmf F (inp s p (n : Int) c ++ inq p (n : Int) c j)) := by
                    show _ = _
                    unfold lmf
                    rw [HQS.out, ← List.append_assoc, List.map_append (l₁ := inp s p (n : Int) c ++ inq p (n : Int) c j), List.map_singleton, HT1.out, RM.lm_snoc]
                    intro z hz
                    rw [List.map_append] at hz
                    rcases List.mem_append.1 hz with hz | hz
                    · exact HGP.out c (by have := HPL.out; omega) z hz
                    · obtain ⟨o, ho, rfl⟩ := List.mem_map.1 hz
                      obtain ⟨i, hi, rfl⟩ := List.mem_map.1 ho
                      rw [List.mem_range] at hi
                      rw [HL.out]
                      exact (HNN.out c i l (by have := HPL.out; omega) HL.out HM.out (by omega)).2.2
                  rw [HT1.out] at HR9
                  clear hpt hux ho hb8 hb hlive hrl HO HBC HRU7 HCW HDR HNX HB9 HRL HQS
                  go_wp2_with (refine wpList_load27g rfl _ rfl w.heap.size s.st _ _ rfl HN9.out ?_)
                  refine HR9.out.mono ?_
                  rintro e W10 ⟨rfl, hb10⟩
                  have HB10 := Hid.intro' (below_class HBX.out hb10)
                  clear hb10 HR9 HN9 HBX
                  generalize lmf F (inp s p (n : Int) c ++ inq p (n : Int) c j) = lv at HSN ⊢
                  by_cases h1 : lv < 0
                  · rw [if_pos (.inl h1)] at HSN
                    go_wp2
                    go_roundw
                    case rel => exact ⟨j + 1, by omega, by go_num, by rw [HSN.out], HB10⟩
                    case measure => simp [intOf]; omega
                  · have q1 : decide (lv < 0) = false := decide_eq_false h1
                    by_cases h2 : t1 < lv
                    · rw [if_pos (.inr h2)] at HSN
                      clear h1
                      go_wp2
                      go_roundw
                      case rel => exact ⟨j + 1, by omega, by go_num, by rw [HSN.out], HB10⟩
                      case measure => simp [intOf]; omega
                    · have q2 : decide (t1 < lv) = false := decide_eq_false h2
                      rw [if_neg (fun h => h.elim h1 h2)] at HSN
                      clear h1 h2
                      go_wp2
                      go_roundw
                      case rel => exact ⟨j + 1, by omega, by go_num, by rw [HSN.out], HB10⟩
                      case measure => simp [intOf]; omega
          · have hjz : ¬ (j : Int) ≤ (l.length : Int) := by omega
            have hje : j = l.length + 1 := by omega
            have HE : Hid (inp s p (n : Int) c ++ inq p (n : Int) c j = inp s p (n : Int) (c + 1)) := by
              show _ = _
              rw [HIS.out, hje]; rfl
            clear hru hje
            go_wp2
            go_roundw
            case rel => exact ⟨c + 1, by omega, by go_num, by rw [HE.out], HBJ⟩
            case measure => simp [intOf]; omega
    · have hcz : ¬ (c : Int) < (p.length : Int) := by omega
      have HE : Hid (lmf F (inp s p (n : Int) c) = bst s (r + 1) n p) := by
        show _ = _
        rw [HBE.out, show c = s.cs.length by have := HPL.out; omega]
      have HBW := Hid.intro' (below_class HB.out HBC.out)
      go_wp2
      go_ret
      exact ⟨ret_int HE.out, HBW.out⟩
theorem best_any (s : Sn) (hr : rgt s = true) : ∀ r, Bsc s r
  | 0 => best_zero s hr
  | r + 1 => best_succ s hr r (best_any s hr r)
end Go.Proofs.Ytagmidolcdefiah
