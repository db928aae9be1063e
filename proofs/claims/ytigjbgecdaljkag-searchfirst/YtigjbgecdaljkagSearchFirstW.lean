/- SearchFirst. -/
import Derived.Test.YtigjbgecdaljkagSlB
import Derived.Test.YtigjbgecdaljkagPk12
import Derived.Test.YtigjbgecdaljkagPk10
namespace Go.Proofs.Ytigjbgecdaljkag
open Go.RowKit Go.Shelf

set_option maxRecDepth 100000 in
set_option maxHeartbeats 4000000 in
theorem SearchFirst_any (s : Sn) (D : Nat → Prop) (vc vw : Value) (a1 a2 : Int) (w : World) (hc : R2 D w vc s.cs) (hw : R2 D w vw s.ws) :
    Calls Try.prog 8 #[.agg (nv s.st vc vw).toArray, .int .i64 a1, .int .i64 a2] w fun e w' => e = .returned (.bool true) ∧ Below w.heap.size w w' := by
  have hbx := (Below.refl w.heap.size w).alloc (Nat.le_refl _) (.cells (nv s.st vc vw).toArray 27)
  have HN := Hid.intro' (NB.new w s.st vc vw)
  have HB := Hid.intro' hbx
  have HC := Hid.intro' ((hc.mono (D' := fun _ => True) fun _ _ _ _ => trivial).below' hbx)
  have HW := Hid.intro' ((hw.mono (D' := fun _ => True) fun _ _ _ _ => trivial).below' hbx)
  obtain ⟨ac, kc, rfl, _, _⟩ := hc.form
  obtain ⟨aw, kw, rfl, _, _⟩ := hw.form
  clear hc hw hbx
  go_enter Try.func8, Try.ntmps8
  go_wp2_with fail
  refine (speaks12_any _).mono ?_
  rintro e W1 ⟨rfl, hb1⟩
  have HB1 := Hid.intro' (below_class HB.out hb1)
  have HN1 := Hid.intro' (HN.out.below' hb1)
  have HC1 := Hid.intro' (HC.out.below' hb1)
  have HW1 := Hid.intro' (HW.out.below' hb1)
  clear hb1 HN HB HC HW
  go_wp2_with (refine wpList_load27g rfl _ rfl w.heap.size s.st _ _ rfl HN1.out ?_)
  refine (great_any s _ _ _ _ [] W1 HC1.out HW1.out (RL.nil _ _)).mono ?_
  rintro e W2 ⟨⟨g, rfl, hb2, hs⟩⟩
  have HB2 := Hid.intro' (below_class HB1.out hb2)
  have HN2 := Hid.intro' (HN1.out.below' hb2)
  have HC2 := Hid.intro' (HC1.out.below' hb2)
  have HW2 := Hid.intro' (HW1.out.below' hb2)
  clear hb2 hs HN1 HB1 HC1 HW1
  cases g with
  | true =>
    go_wp2
    go_ret
    exact ⟨rfl, HB2.out⟩
  | false =>
    go_wp2_with (refine wpList_load27g (by go_simp) _ rfl w.heap.size s.st _ _ rfl HN2.out ?_)
    refine (rsnapRight_any s _ _ _ W2 HC2.out HW2.out).mono ?_
    rintro e W3 ⟨rfl, hb3⟩
    have HB3 := Hid.intro' (below_class HB2.out hb3)
    have HN3 := Hid.intro' (HN2.out.below' hb3)
    have HC3 := Hid.intro' (HC2.out.below' hb3)
    have HW3 := Hid.intro' (HW2.out.below' hb3)
    clear hb3 HN2 HB2 HC2 HW2
    cases hr : rgt s with
    | false =>
      go_wp2
      go_ret
      exact ⟨rfl, HB3.out⟩
    | true =>
      have HR := Hid.intro' hr
      clear hr
      go_wp2_with (refine wpList_load27g rfl _ rfl w.heap.size s.st _ _ rfl HN3.out ?_)
      refine (first_yes s _ _ _ W3 HC3.out HW3.out HR.out).mono ?_
      rintro e W4 ⟨hb4, v1, rfl, hrl⟩
      have HB4 := Hid.intro' (below_class HB3.out hb4)
      have HN4 := Hid.intro' (HN3.out.below' hb4)
      have HC4 := Hid.intro' (HC3.out.below' hb4)
      have HW4 := Hid.intro' (HW3.out.below' hb4)
      have HL4 := Hid.intro' (hrl.mono (D' := fun _ => True) fun _ _ _ _ => trivial)
      obtain ⟨ap, kp, rfl, _, _⟩ := hrl.form
      have HFF := Hid.intro' (ffp_fsb HR.out)
      have HFI : Hid (∀ b, (fnd s b).cost ≤ RM.cst s.st s.ws s.cs (ffp s s.ws.length)) := fun b => fnd_first b
      generalize ffp s s.ws.length = p0 at hrl HL4 HFF HFI ⊢
      have HLL := Hid.intro' (fs_ll (fsb_fs HFF.out))
      have HP8 := Hid.intro' (fsb_fs HFF.out).p8
      obtain ⟨co, HCO⟩ : ∃ c : Int, Hid (RM.cst s.st s.ws s.cs p0 = c) := ⟨_, Hid.intro' rfl⟩
      rw [HCO.out] at HFI
      clear hb4 hrl HN3 HB3 HC3 HW3
      go_wp2_with (refine wpList_load27g (by go_simp) _ rfl w.heap.size s.st _ _ rfl HN4.out ?_)
      have hfe := rfeasible_any s (fun _ => True) _ _ _ p0 W4 HC4.out HW4.out HL4.out (by have := HP8.out; omega) (fun l hl => by have := (HLL.out l hl).1; omega)
      rw [HFF.out] at hfe
      refine hfe.mono ?_
      clear hfe
      rintro e W5 ⟨rfl, hb5⟩
      have HB5 := Hid.intro' (below_class HB4.out hb5)
      have HN5 := Hid.intro' (HN4.out.below' hb5)
      have HC5 := Hid.intro' (HC4.out.below' hb5)
      have HW5 := Hid.intro' (HW4.out.below' hb5)
      have HL5 := Hid.intro' (HL4.out.below' hb5)
      clear hb5 HB4 HN4 HC4 HW4 HL4
      go_wp2_with (refine wpList_load27g rfl _ rfl w.heap.size s.st _ _ rfl HN5.out ?_)
      have hco := rcost_any s (fun _ => True) _ _ _ p0 W5 HC5.out HW5.out HL5.out HFF.out (fun l hl => by have := (HLL.out l hl).1; omega)
      rw [HCO.out] at hco
      refine hco.mono ?_
      clear hco
      rintro e W6 ⟨rfl, hb6⟩
      have HB6 := Hid.intro' (below_class HB5.out hb6)
      have HN6 := Hid.intro' (HN5.out.below' hb6)
      have HC6 := Hid.intro' (HC5.out.below' hb6)
      have HW6 := Hid.intro' (HW5.out.below' hb6)
      clear hb6 HB5 HN5 HC5 HW5 HL5 HLL HP8 HFF HCO
      obtain ⟨n1, hn1, hnm1⟩ : ∃ n : Nat, n < 512 ∧ a1 % 512 = (n : Int) := ⟨(a1 % 512).toNat, by omega, by omega⟩
      have hna : bits .and .i64 a1 511 = (n1 : Int) := (i64_mask a1 511 9 (by omega) (by decide)).trans hnm1
      have hwa : IntKind.i64.wrap ((n1 : Int) + 1) = (n1 : Int) + 1 := IntWalk.i64_in _ (by omega)
      obtain ⟨n2, hn2, hnm2⟩ : ∃ n : Nat, n < 512 ∧ a2 % 512 = (n : Int) := ⟨(a2 % 512).toNat, by omega, by omega⟩
      have hnb : bits .and .i64 a2 511 = (n2 : Int) := (i64_mask a2 511 9 (by omega) (by decide)).trans hnm2
      have hwb : IntKind.i64.wrap ((n2 : Int) + 1) = (n2 : Int) + 1 := IntWalk.i64_in _ (by omega)
      clear hnm1 hnm2
      go_wp2_with fail
      obtain ⟨bq, HQ⟩ : ∃ bq : Nat → Nat, Hid ((∀ i : Nat, i < 2 → 1 ≤ bq i ∧ bq i ≤ 1000000 ∧ (W6.alloc (.cells #[.int .i64 (min (n1 : Int) (n2 : Int) + 1), .int .i64 (max (n1 : Int) (n2 : Int) + 1)] 3)).cell? ⟨W6.heap.size, i, none⟩ = some (.int .i64 (bq i : Int))) ∧ bq 0 ≤ bq 1) := by
        refine ⟨fun i => if i = 0 then min n1 n2 + 1 else max n1 n2 + 1, fun i hi => ?_, by show min n1 n2 + 1 ≤ max n1 n2 + 1; omega⟩
        have h2 : i = 0 ∨ i = 1 := by omega
        rcases h2 with rfl | rfl
        · refine ⟨by show 1 ≤ min n1 n2 + 1; omega, by show min n1 n2 + 1 ≤ 1000000; omega, ?_⟩
          show _ = some (Value.int .i64 ((min n1 n2 + 1 : Nat) : Int))
          rw [show ((min n1 n2 + 1 : Nat) : Int) = min (n1 : Int) (n2 : Int) + 1 by omega]
          go_simp
        · refine ⟨by show 1 ≤ max n1 n2 + 1; omega, by show max n1 n2 + 1 ≤ 1000000; omega, ?_⟩
          show _ = some (Value.int .i64 ((max n1 n2 + 1 : Nat) : Int))
          rw [show ((max n1 n2 + 1 : Nat) : Int) = max (n1 : Int) (n2 : Int) + 1 by omega]
          go_simp
      have hb7 := (Below.refl W6.heap.size W6).alloc (Nat.le_refl _) (.cells #[.int .i64 (min (n1 : Int) (n2 : Int) + 1), .int .i64 (max (n1 : Int) (n2 : Int) + 1)] 3)
      have HB5 := Hid.intro' (below_class HB6.out hb7)
      have HN5 := Hid.intro' (HN6.out.below' hb7)
      have HC5 := Hid.intro' (HC6.out.below' hb7)
      have HW5 := Hid.intro' (HW6.out.below' hb7)
      have HS5 : Hid (W6.heap.size < (W6.alloc (.cells #[.int .i64 (min (n1 : Int) (n2 : Int) + 1), .int .i64 (max (n1 : Int) (n2 : Int) + 1)] 3)).heap.size) := by show _ < _; simp
      clear hb7 HB6 HN6 HC6 HW6 hna hnb hwa hwb hn1 hn2
      generalize (W6.alloc (.cells #[.int .i64 (min (n1 : Int) (n2 : Int) + 1), .int .i64 (max (n1 : Int) (n2 : Int) + 1)] 3)) = W5 at HQ HB5 HN5 HC5 HW5 HS5 ⊢
      generalize W6.heap.size = gb at HQ HS5 ⊢
      go_loopw [9, 55] (fun cv iv wr => ∃ (i : Nat) (la : Int), i ≤ 2 ∧ cv = .int .i64 la ∧ iv = .int .i64 (i : Int) ∧ Hid (i < 2 → (fnd s (bq i)).cost ≤ la) ∧ Hid (Below W5.heap.size W5 wr)) (fun _ iv _ => 2 - (intOf iv).toNat)
      case atStart => exact ⟨0, co, Nat.zero_le _, rfl, rfl, fun _ => HFI.out _, Below.refl _ _⟩
      case round =>
        clear HFI
        obtain ⟨i, la, hi, rfl, rfl, HLA, HBI⟩ := hrel
        by_cases hil : i < 2
        · have hiz : (i : Int) < 2 := by omega
          obtain ⟨hb1, hb2, hcl⟩ := HQ.out.1 i hil
          have HNX : Hid (i + 1 < 2 → (fnd s (bq (i + 1))).cost ≤ (fnd s (bq i)).cost) := fun h => by
            have h0 : i = 0 := by omega
            subst h0
            exact fnd_more HQ.out.2
          have hla := HLA.out hil
          generalize bq i = b at hb1 hb2 hcl HNX hla
          have cb : wr.cell? ⟨gb, i, none⟩ = some (.int .i64 (b : Int)) := (HBI.out.cell (p := ⟨gb, i, none⟩) HS5.out).trans hcl
          have HN6 := Hid.intro' (HN5.out.below' HBI.out)
          have HC6 := Hid.intro' (HC5.out.below' HBI.out)
          have HW6 := Hid.intro' (HW5.out.below' HBI.out)
          clear hcl HLA
          go_wp2_with (refine wpList_load27g rfl _ rfl w.heap.size s.st _ _ rfl HN6.out ?_)
          clear cb
          refine (find_yes (s := s) (B := b) HC6.out HW6.out HR.out hb1 hb2).mono ?_
          rintro e W7 ⟨vp, vf, rfl, hrl, hoy, hb6⟩
          have HOK := Hid.intro' (fnd_ok HR.out b)
          have HBD := Hid.intro' (fnd_bd (B := b) HR.out)
          obtain ⟨ap, kp, rfl, _, _⟩ := hrl.form
          obtain ⟨af, kf, rfl⟩ := hoy.slice
          generalize fnd s b = x at hrl hoy HOK HBD HNX hla ⊢
          have HL6 := Hid.intro' hrl
          have hbz := (Below.refl W7.heap.size W7).alloc (Nat.le_refl _) (.cells #[.slice none 0 0, .int .i64 0, .bool false, .int .i64 0, .slice none 0 0] 48)
          have HZ := Hid.intro' (GB.new W7 (.slice none 0 0) 0 false 0 (.slice none 0 0))
          go_wp2_with (refine wpList_storeG rfl _ _ rfl W7.heap.size rfl rfl HZ.out ?_)
          intro W8 hk7 hg7
          have hb7 : Below W7.heap.size W7 W8 := hk7.below hbz (by simp) (fun i hi e => by omega)
          have hb67 := below_class HBI.out (below_class hb6 hb7)
          have HN7 := Hid.intro' (HN5.out.below' hb67)
          have HC7 := Hid.intro' (HC5.out.below' hb67)
          have HW7 := Hid.intro' (HW5.out.below' hb67)
          have HL7 := Hid.intro' (HL6.out.below' hb7)
          have HG7 := Hid.intro' hg7
          have HBJ := Hid.intro' hb67
          clear hk7 hb7 hb67 hbz hb6 hg7 hrl hoy HZ HL6 HN6 HC6 HW6 HBI
          generalize W7.heap.size = rb at HG7 ⊢
          obtain ⟨M, HM⟩ : ∃ M : Nat, Hid (x.marks.length = M) := ⟨_, Hid.intro' rfl⟩
          obtain ⟨ct, HCO⟩ : ∃ c : Int, Hid (x.cost = c) := ⟨_, Hid.intro' rfl⟩
          obtain ⟨en, HEN⟩ : ∃ e : Bool, Hid (x.ended = e) := ⟨_, Hid.intro' rfl⟩
          rw [HCO.out] at HNX hla
          rw [HM.out, HCO.out, HEN.out] at HG7 ⊢
          have hd1 : decide ((b : Int) < (M : Int)) = false := decide_eq_false (by have := HM.out; have := HBD.out.2.2.2; omega)
          have hd3 : decide (b < M) = false := decide_eq_false (by have := HM.out; have := HBD.out.2.2.2; omega)
          have hd2 : decide (la < ct) = false := decide_eq_false (by omega)
          have HNB : Hid (∀ w', Below W8.heap.size W8 w' → NB w' w.heap.size s.st (.slice ac s.cs.length kc) (.slice aw s.ws.length kw)) := fun w' hw => HN7.out.below' hw
          have HR0 : Hid (∀ w', Below W8.heap.size W8 w' → w'.cell? ⟨rb, 0, none⟩ = some (.slice ap x.plan.length kp)) := fun w' hw => (HG7.out.below' hw).cell 0
          have HR1 : Hid (∀ w', Below W8.heap.size W8 w' → w'.cell? ⟨rb, 1, none⟩ = some (.int .i64 ct)) := fun w' hw => (HG7.out.below' hw).cell 1
          have HR2 : Hid (∀ w', Below W8.heap.size W8 w' → w'.cell? ⟨rb, 2, none⟩ = some (.bool (!en))) := fun w' hw => (HG7.out.below' hw).cell 2
          have HR3 : Hid (∀ w', Below W8.heap.size W8 w' → w'.cell? ⟨rb, 3, none⟩ = some (.int .i64 (M : Int))) := fun w' hw => (HG7.out.below' hw).cell 3
          have H1 : Hid (∀ w', Below W8.heap.size W8 w' → Calls Try.prog 16 #[.agg (nv s.st (.slice ac s.cs.length kc) (.slice aw s.ws.length kw)).toArray, .slice ap x.plan.length kp] w' fun e w'' => e = .returned (.bool true) ∧ Below w'.heap.size w' w'') := fun w' hw => by
            have := rfeasible_any s (fun _ => True) _ _ _ x.plan w' (HC7.out.below' hw) (HW7.out.below' hw) (HL7.out.below' hw) (by have := HBD.out.2.1; omega) (fun l hl => by have := (HBD.out.2.2.1 l hl).1; omega)
            rwa [HOK.out.fe] at this
          have H2 : Hid (∀ w', Below W8.heap.size W8 w' → Calls Try.prog 17 #[.agg (nv s.st (.slice ac s.cs.length kc) (.slice aw s.ws.length kw)).toArray, .slice ap x.plan.length kp] w' fun e w'' => e = .returned (.int .i64 ct) ∧ Below w'.heap.size w' w'') := fun w' hw => by
            have := rcost_any s (fun _ => True) _ _ _ x.plan w' (HC7.out.below' hw) (HW7.out.below' hw) (HL7.out.below' hw) HOK.out.fe (fun l hl => by have := (HBD.out.2.2.1 l hl).1; omega)
            rwa [← HOK.out.co, HCO.out] at this
          have HEQ : Hid (en = true → M = b) := fun h => by
            have h1 := HOK.out.en (HEN.out.trans h)
            have h2 := HBD.out.2.2.2.1
            have h3 := HM.out
            omega
          cases en with
          | false =>
            go_wp2_with fail
            refine wp_region_quiet (C := fun w' => Below W8.heap.size W8 w') (by kernel_rfl) (by kernel_rfl) ((Below.refl _ _).drew) ?_
            simp only []
            unfold wpQuiet
            generalize hK : wpQuiet Try.prog _ _ _ _ = K
            go_simp
            refine ⟨_, fun _ _ => rfl, ?_⟩
            subst hK
            unfold wpQuiet
            generalize hK : wpQuiet Try.prog _ _ _ _ = K
            go_simp
            refine ⟨_, fun _ _ => rfl, ?_⟩
            subst hK
            unfold wpQuiet
            generalize hK : wpQuiet Try.prog _ _ _ _ = K
            go_simp
            refine ⟨_, fun _ _ => rfl, ?_⟩
            subst hK
            unfold wpQuiet
            generalize hK : wpQuiet Try.prog _ _ _ _ = K
            rw [if_pos (by go_simp)]
            refine quiet_load27 _ w.heap.size s.st _ _ rfl rfl HNB.out ?_
            go_simp
            subst hK
            unfold wpQuiet
            generalize hK : wpQuiet Try.prog _ _ _ _ = K
            go_simp
            refine ⟨_, fun _ _ => rfl, ?_⟩
            subst hK
            unfold wpQuiet
            generalize hK : wpQuiet Try.prog _ _ _ _ = K
            rw [if_pos (by go_simp)]
            refine quiet_cellP _ rb 0 rfl rfl HR0.out ?_
            go_simp
            subst hK
            unfold wpQuiet
            generalize hK : wpQuiet Try.prog _ _ _ _ = K
            go_simp
            refine ⟨_, fun w' hw => (H1.out w' hw).mono fun e w'' hh => ⟨hh.1, below_class hw hh.2⟩, ?_⟩
            subst hK
            unfold wpQuiet
            generalize hK : wpQuiet Try.prog _ _ _ _ = K
            go_simp
            refine ⟨_, fun _ _ => rfl, ?_⟩
            subst hK
            unfold wpQuiet
            generalize hK : wpQuiet Try.prog _ _ _ _ = K
            go_simp
            refine ⟨_, fun _ _ => rfl, ?_⟩
            subst hK
            unfold wpQuiet
            generalize hK : wpQuiet Try.prog _ _ _ _ = K
            go_simp
            refine ⟨_, fun _ _ => rfl, ?_⟩
            subst hK
            unfold wpQuiet
            generalize hK : wpQuiet Try.prog _ _ _ _ = K
            go_simp
            refine ⟨_, fun _ _ => rfl, ?_⟩
            subst hK
            unfold wpQuiet
            generalize hK : wpQuiet Try.prog _ _ _ _ = K
            rw [if_pos (by go_simp)]
            refine quiet_cell3 _ rb 1 rfl rfl HR1.out ?_
            go_simp
            subst hK
            unfold wpQuiet
            generalize hK : wpQuiet Try.prog _ _ _ _ = K
            rw [if_pos (by go_simp)]
            refine quiet_load27 _ w.heap.size s.st _ _ rfl rfl HNB.out ?_
            go_simp
            subst hK
            unfold wpQuiet
            generalize hK : wpQuiet Try.prog _ _ _ _ = K
            go_simp
            refine ⟨_, fun _ _ => rfl, ?_⟩
            subst hK
            unfold wpQuiet
            generalize hK : wpQuiet Try.prog _ _ _ _ = K
            rw [if_pos (by go_simp)]
            refine quiet_cellP _ rb 0 rfl rfl HR0.out ?_
            go_simp
            subst hK
            unfold wpQuiet
            generalize hK : wpQuiet Try.prog _ _ _ _ = K
            go_simp
            refine ⟨_, fun w' hw => (H2.out w' hw).mono fun e w'' hh => ⟨hh.1, below_class hw hh.2⟩, ?_⟩
            subst hK
            unfold wpQuiet
            generalize hK : wpQuiet Try.prog _ _ _ _ = K
            go_simp
            refine ⟨_, fun _ _ => rfl, ?_⟩
            subst hK
            unfold wpQuiet
            generalize hK : wpQuiet Try.prog _ _ _ _ = K
            go_simp
            refine ⟨_, fun _ _ => rfl, ?_⟩
            subst hK
            unfold wpQuiet
            generalize hK : wpQuiet Try.prog _ _ _ _ = K
            go_simp
            refine ⟨_, fun _ _ => rfl, ?_⟩
            subst hK
            unfold wpQuiet
            generalize hK : wpQuiet Try.prog _ _ _ _ = K
            go_simp
            refine ⟨_, fun _ _ => rfl, ?_⟩
            subst hK
            unfold wpQuiet
            generalize hK : wpQuiet Try.prog _ _ _ _ = K
            rw [if_pos (by go_simp)]
            refine quiet_cell3 _ rb 1 rfl rfl HR1.out ?_
            go_simp
            subst hK
            unfold wpQuiet
            generalize hK : wpQuiet Try.prog _ _ _ _ = K
            go_simp
            refine ⟨_, fun _ _ => rfl, ?_⟩
            subst hK
            unfold wpQuiet
            generalize hK : wpQuiet Try.prog _ _ _ _ = K
            go_simp
            refine ⟨_, fun _ _ => rfl, ?_⟩
            subst hK
            unfold wpQuiet
            generalize hK : wpQuiet Try.prog _ _ _ _ = K
            go_simp
            refine ⟨_, fun _ _ => rfl, ?_⟩
            subst hK
            unfold wpQuiet
            generalize hK : wpQuiet Try.prog _ _ _ _ = K
            go_simp
            refine ⟨_, fun _ _ => rfl, ?_⟩
            subst hK
            unfold wpQuiet
            generalize hK : wpQuiet Try.prog _ _ _ _ = K
            go_simp
            refine ⟨_, fun _ _ => rfl, ?_⟩
            subst hK
            unfold wpQuiet
            generalize hK : wpQuiet Try.prog _ _ _ _ = K
            rw [if_pos (by go_simp)]
            refine quiet_cell3 _ rb 3 rfl rfl HR3.out ?_
            go_simp
            subst hK
            unfold wpQuiet
            generalize hK : wpQuiet Try.prog _ _ _ _ = K
            go_simp
            refine ⟨_, fun _ _ => rfl, ?_⟩
            subst hK
            unfold wpQuiet
            generalize hK : wpQuiet Try.prog _ _ _ _ = K
            go_simp
            refine ⟨_, fun _ _ => rfl, ?_⟩
            subst hK
            unfold wpQuiet
            generalize hK : wpQuiet Try.prog _ _ _ _ = K
            go_simp
            refine ⟨_, fun _ _ => rfl, ?_⟩
            subst hK
            unfold wpQuiet
            generalize hK : wpQuiet Try.prog _ _ _ _ = K
            go_simp
            refine ⟨_, fun _ _ => rfl, ?_⟩
            subst hK
            unfold wpQuiet
            generalize hK : wpQuiet Try.prog _ _ _ _ = K
            go_simp
            refine ⟨_, fun _ _ => rfl, ?_⟩
            subst hK
            unfold wpQuiet
            generalize hK : wpQuiet Try.prog _ _ _ _ = K
            rw [if_pos (by go_simp)]
            refine quiet_cell4 _ rb 2 rfl rfl HR2.out ?_
            go_simp
            subst hK
            unfold wpQuiet
            generalize hK : wpQuiet Try.prog _ _ _ _ = K
            go_simp
            refine ⟨_, fun _ _ => rfl, ?_⟩
            subst hK
            unfold wpQuiet
            generalize hK : wpQuiet Try.prog _ _ _ _ = K
            go_simp
            refine ⟨_, fun _ _ => rfl, ?_⟩
            subst hK
            unfold wpQuiet
            generalize hK : wpQuiet Try.prog _ _ _ _ = K
            go_simp
            subst hK
            unfold wpQuiet
            generalize hK : wpQuiet Try.prog _ _ _ _ = K
            go_simp
            subst hK
            unfold wpQuiet
            generalize hK : wpQuiet Try.prog _ _ _ _ = K
            go_simp
            subst hK
            unfold wpQuiet
            generalize hK : wpQuiet Try.prog _ _ _ _ = K
            go_simp
            subst hK
            unfold wpQuiet
            generalize hK : wpQuiet Try.prog _ _ _ _ = K
            go_simp
            refine ⟨_, fun _ _ => rfl, ?_⟩
            subst hK
            unfold wpQuiet
            generalize hK : wpQuiet Try.prog _ _ _ _ = K
            go_simp
            refine ⟨_, fun _ _ => rfl, ?_⟩
            subst hK
            refine wpQuiet_nil ?_
            intro W9 hb8
            have HBK := Hid.intro' (below_class HBJ.out hb8)
            have c1 : W9.cell? ⟨rb, 1, none⟩ = some (.int .i64 ct) := (HG7.out.below' hb8).cell 1
            clear hb8 HBJ HNB HR0 HR1 HR2 HR3 H1 H2 HN7 HC7 HW7 HL7 HG7 hd1 hd2 hd3 HOK HBD HM HCO HEN HEQ
            go_wp2
            go_roundw
            case rel => exact ⟨i + 1, ct, by omega, rfl, by go_num, HNX, HBK⟩
            case measure => simp [intOf]; omega
          | true =>
            have hMb := HEQ.out rfl
            subst hMb
            go_wp2_with fail
            refine wp_region_quiet (C := fun w' => Below W8.heap.size W8 w') (by kernel_rfl) (by kernel_rfl) ((Below.refl _ _).drew) ?_
            simp only []
            unfold wpQuiet
            generalize hK : wpQuiet Try.prog _ _ _ _ = K
            go_simp
            refine ⟨_, fun _ _ => rfl, ?_⟩
            subst hK
            unfold wpQuiet
            generalize hK : wpQuiet Try.prog _ _ _ _ = K
            go_simp
            refine ⟨_, fun _ _ => rfl, ?_⟩
            subst hK
            unfold wpQuiet
            generalize hK : wpQuiet Try.prog _ _ _ _ = K
            go_simp
            refine ⟨_, fun _ _ => rfl, ?_⟩
            subst hK
            unfold wpQuiet
            generalize hK : wpQuiet Try.prog _ _ _ _ = K
            rw [if_pos (by go_simp)]
            refine quiet_load27 _ w.heap.size s.st _ _ rfl rfl HNB.out ?_
            go_simp
            subst hK
            unfold wpQuiet
            generalize hK : wpQuiet Try.prog _ _ _ _ = K
            go_simp
            refine ⟨_, fun _ _ => rfl, ?_⟩
            subst hK
            unfold wpQuiet
            generalize hK : wpQuiet Try.prog _ _ _ _ = K
            rw [if_pos (by go_simp)]
            refine quiet_cellP _ rb 0 rfl rfl HR0.out ?_
            go_simp
            subst hK
            unfold wpQuiet
            generalize hK : wpQuiet Try.prog _ _ _ _ = K
            go_simp
            refine ⟨_, fun w' hw => (H1.out w' hw).mono fun e w'' hh => ⟨hh.1, below_class hw hh.2⟩, ?_⟩
            subst hK
            unfold wpQuiet
            generalize hK : wpQuiet Try.prog _ _ _ _ = K
            go_simp
            refine ⟨_, fun _ _ => rfl, ?_⟩
            subst hK
            unfold wpQuiet
            generalize hK : wpQuiet Try.prog _ _ _ _ = K
            go_simp
            refine ⟨_, fun _ _ => rfl, ?_⟩
            subst hK
            unfold wpQuiet
            generalize hK : wpQuiet Try.prog _ _ _ _ = K
            go_simp
            refine ⟨_, fun _ _ => rfl, ?_⟩
            subst hK
            unfold wpQuiet
            generalize hK : wpQuiet Try.prog _ _ _ _ = K
            go_simp
            refine ⟨_, fun _ _ => rfl, ?_⟩
            subst hK
            unfold wpQuiet
            generalize hK : wpQuiet Try.prog _ _ _ _ = K
            rw [if_pos (by go_simp)]
            refine quiet_cell3 _ rb 1 rfl rfl HR1.out ?_
            go_simp
            subst hK
            unfold wpQuiet
            generalize hK : wpQuiet Try.prog _ _ _ _ = K
            rw [if_pos (by go_simp)]
            refine quiet_load27 _ w.heap.size s.st _ _ rfl rfl HNB.out ?_
            go_simp
            subst hK
            unfold wpQuiet
            generalize hK : wpQuiet Try.prog _ _ _ _ = K
            go_simp
            refine ⟨_, fun _ _ => rfl, ?_⟩
            subst hK
            unfold wpQuiet
            generalize hK : wpQuiet Try.prog _ _ _ _ = K
            rw [if_pos (by go_simp)]
            refine quiet_cellP _ rb 0 rfl rfl HR0.out ?_
            go_simp
            subst hK
            unfold wpQuiet
            generalize hK : wpQuiet Try.prog _ _ _ _ = K
            go_simp
            refine ⟨_, fun w' hw => (H2.out w' hw).mono fun e w'' hh => ⟨hh.1, below_class hw hh.2⟩, ?_⟩
            subst hK
            unfold wpQuiet
            generalize hK : wpQuiet Try.prog _ _ _ _ = K
            go_simp
            refine ⟨_, fun _ _ => rfl, ?_⟩
            subst hK
            unfold wpQuiet
            generalize hK : wpQuiet Try.prog _ _ _ _ = K
            go_simp
            refine ⟨_, fun _ _ => rfl, ?_⟩
            subst hK
            unfold wpQuiet
            generalize hK : wpQuiet Try.prog _ _ _ _ = K
            go_simp
            refine ⟨_, fun _ _ => rfl, ?_⟩
            subst hK
            unfold wpQuiet
            generalize hK : wpQuiet Try.prog _ _ _ _ = K
            go_simp
            refine ⟨_, fun _ _ => rfl, ?_⟩
            subst hK
            unfold wpQuiet
            generalize hK : wpQuiet Try.prog _ _ _ _ = K
            rw [if_pos (by go_simp)]
            refine quiet_cell3 _ rb 1 rfl rfl HR1.out ?_
            go_simp
            subst hK
            unfold wpQuiet
            generalize hK : wpQuiet Try.prog _ _ _ _ = K
            go_simp
            refine ⟨_, fun _ _ => rfl, ?_⟩
            subst hK
            unfold wpQuiet
            generalize hK : wpQuiet Try.prog _ _ _ _ = K
            go_simp
            refine ⟨_, fun _ _ => rfl, ?_⟩
            subst hK
            unfold wpQuiet
            generalize hK : wpQuiet Try.prog _ _ _ _ = K
            go_simp
            refine ⟨_, fun _ _ => rfl, ?_⟩
            subst hK
            unfold wpQuiet
            generalize hK : wpQuiet Try.prog _ _ _ _ = K
            go_simp
            refine ⟨_, fun _ _ => rfl, ?_⟩
            subst hK
            unfold wpQuiet
            generalize hK : wpQuiet Try.prog _ _ _ _ = K
            go_simp
            refine ⟨_, fun _ _ => rfl, ?_⟩
            subst hK
            unfold wpQuiet
            generalize hK : wpQuiet Try.prog _ _ _ _ = K
            rw [if_pos (by go_simp)]
            refine quiet_cell3 _ rb 3 rfl rfl HR3.out ?_
            go_simp
            subst hK
            unfold wpQuiet
            generalize hK : wpQuiet Try.prog _ _ _ _ = K
            go_simp
            refine ⟨_, fun _ _ => rfl, ?_⟩
            subst hK
            unfold wpQuiet
            generalize hK : wpQuiet Try.prog _ _ _ _ = K
            go_simp
            refine ⟨_, fun _ _ => rfl, ?_⟩
            subst hK
            unfold wpQuiet
            generalize hK : wpQuiet Try.prog _ _ _ _ = K
            go_simp
            refine ⟨_, fun _ _ => rfl, ?_⟩
            subst hK
            unfold wpQuiet
            generalize hK : wpQuiet Try.prog _ _ _ _ = K
            go_simp
            refine ⟨_, fun _ _ => rfl, ?_⟩
            subst hK
            unfold wpQuiet
            generalize hK : wpQuiet Try.prog _ _ _ _ = K
            go_simp
            refine ⟨_, fun _ _ => rfl, ?_⟩
            subst hK
            unfold wpQuiet
            generalize hK : wpQuiet Try.prog _ _ _ _ = K
            rw [if_pos (by go_simp)]
            refine quiet_cell4 _ rb 2 rfl rfl HR2.out ?_
            go_simp
            subst hK
            unfold wpQuiet
            generalize hK : wpQuiet Try.prog _ _ _ _ = K
            go_simp
            refine ⟨_, fun _ _ => rfl, ?_⟩
            subst hK
            unfold wpQuiet
            generalize hK : wpQuiet Try.prog _ _ _ _ = K
            go_simp
            refine ⟨_, fun _ _ => rfl, ?_⟩
            subst hK
            unfold wpQuiet
            generalize hK : wpQuiet Try.prog _ _ _ _ = K
            go_simp
            refine ⟨_, fun _ _ => rfl, ?_⟩
            subst hK
            unfold wpQuiet
            generalize hK : wpQuiet Try.prog _ _ _ _ = K
            rw [if_pos (by go_simp)]
            refine quiet_cell3 _ rb 3 rfl rfl HR3.out ?_
            go_simp
            subst hK
            unfold wpQuiet
            generalize hK : wpQuiet Try.prog _ _ _ _ = K
            go_simp
            refine ⟨_, fun _ _ => rfl, ?_⟩
            subst hK
            unfold wpQuiet
            generalize hK : wpQuiet Try.prog _ _ _ _ = K
            go_simp
            refine ⟨_, fun _ _ => rfl, ?_⟩
            subst hK
            unfold wpQuiet
            generalize hK : wpQuiet Try.prog _ _ _ _ = K
            go_simp
            refine ⟨_, fun _ _ => rfl, ?_⟩
            subst hK
            unfold wpQuiet
            generalize hK : wpQuiet Try.prog _ _ _ _ = K
            go_simp
            refine ⟨_, fun _ _ => rfl, ?_⟩
            subst hK
            refine wpQuiet_nil ?_
            intro W9 hb8
            have HBK := Hid.intro' (below_class HBJ.out hb8)
            have c1 : W9.cell? ⟨rb, 1, none⟩ = some (.int .i64 ct) := (HG7.out.below' hb8).cell 1
            clear hb8 HBJ HNB HR0 HR1 HR2 HR3 H1 H2 HN7 HC7 HW7 HL7 HG7 hd1 hd2 hd3 HOK HBD HM HCO HEN HEQ
            go_wp2
            go_roundw
            case rel => exact ⟨i + 1, ct, by omega, rfl, by go_num, HNX, HBK⟩
            case measure => simp [intOf]; omega
        · have hiz : ¬ (i : Int) < 2 := by omega
          have HE := Hid.intro' (below_class HB5.out HBI.out)
          go_wp2
          go_ret
          exact ⟨rfl, HE.out⟩

end Go.Proofs.Ytigjbgecdaljkag
