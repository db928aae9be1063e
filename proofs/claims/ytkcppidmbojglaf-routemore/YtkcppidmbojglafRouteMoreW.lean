/- RouteMore. -/
import Derived.Test.YtkcppidmbojglafRtK
import Derived.Test.YtkcppidmbojglafRtJ
import Derived.Test.YtkcppidmbojglafRtL
import Derived.Test.YtkcppidmbojglafNewO
import Derived.Test.YtkcppidmbojglafPlOc
import Derived.Test.YtkcppidmbojglafPlY
import Derived.Test.YtkcppidmbojglafPlJ
namespace Go.Proofs.Ytkcppidmbojglaf
open Go.RowKit

set_option maxRecDepth 100000 in
set_option maxHeartbeats 8000000 in
theorem RouteMore_any (s : Sn) (D : Nat → Prop) (vc vw vp : Value) (p : List (List Int)) (f car at0 : Int) (w : World) (hc : R2 D w vc s.cs) (hw : R2 D w vw s.ws) (hp : RL D w vp p) :
    Calls Try.prog 8 #[.agg (nv s.st vc vw).toArray, vp, .int .i64 f, .int .i64 car, .int .i64 at0] w fun e w' => e = .returned (.bool true) ∧ Below w.heap.size w w' := by
  have hbx := (Below.refl w.heap.size w).alloc (Nat.le_refl _) (.cells (nv s.st vc vw).toArray 27)
  have HN := Hid.intro' (NB.new w s.st vc vw)
  have HB := Hid.intro' hbx
  have HC := Hid.intro' ((hc.mono (D' := fun g => g < w.heap.size) fun g _ h _ => h).below' hbx)
  have HW := Hid.intro' ((hw.mono (D' := fun g => g < w.heap.size) fun g _ h _ => h).below' hbx)
  have HP := Hid.intro' ((hp.mono (D' := fun g => g < w.heap.size) fun g _ h _ => h).below' hbx)
  obtain ⟨ac, kc, rfl, _, _⟩ := hc.form
  obtain ⟨aw, kw, rfl, _, _⟩ := hw.form
  obtain ⟨ap, kp, rfl, _, _⟩ := hp.form
  clear hc hw hp hbx
  go_enter Try.func8, Try.ntmps8
  go_wp2_with fail
  refine (speaks10_any _).mono ?_
  rintro e W1 ⟨rfl, hb1⟩
  have HB1 := Hid.intro' (below_class HB.out hb1)
  have HN1 := Hid.intro' (HN.out.below' hb1)
  have HC1 := Hid.intro' (HC.out.below' hb1)
  have HW1 := Hid.intro' (HW.out.below' hb1)
  have HP1 := Hid.intro' (HP.out.below' hb1)
  clear hb1 HN HB HC HW HP
  go_wp2_with (refine wpList_load27g rfl _ rfl w.heap.size s.st _ _ rfl HN1.out ?_)
  refine (great_any s _ _ _ _ p W1 HC1.out HW1.out HP1.out).mono ?_
  rintro e W2 ⟨⟨g, rfl, hb2, hs⟩⟩
  have HB2 := Hid.intro' (below_class HB1.out hb2)
  have HN2 := Hid.intro' (HN1.out.below' hb2)
  have HC2 := Hid.intro' (HC1.out.below' hb2)
  have HW2 := Hid.intro' (HW1.out.below' hb2)
  have HP2 := Hid.intro' (HP1.out.below' hb2)
  clear hb2 HN1 HB1 HC1 HW1 HP1
  cases g with
  | true =>
    clear hs
    go_wp2
    go_ret
    exact ⟨rfl, HB2.out⟩
  | false =>
    have HS := Hid.intro' (hs rfl)
    have HPL : Hid (p.length ≤ 1000) := by show p.length ≤ 1000; have := HS.out.pl; omega
    have HL2 : Hid (∀ l ∈ p, l.length ≤ 200) := HS.out.ll
    have HLL : Hid (∀ l ∈ p, l.length ≤ 1000) := fun l hl => by have := HS.out.ll l hl; omega
    clear hs HS
    go_wp2_with (refine wpList_load27g (by go_simp) _ rfl w.heap.size s.st _ _ rfl HN2.out ?_)
    refine (rfeasible_any s _ _ _ _ p W2 HC2.out HW2.out HP2.out HPL.out HLL.out).mono ?_
    rintro e W3 ⟨rfl, hb3⟩
    have HB3 := Hid.intro' (below_class HB2.out hb3)
    have HN3 := Hid.intro' (HN2.out.below' hb3)
    have HC3 := Hid.intro' (HC2.out.below' hb3)
    have HW3 := Hid.intro' (HW2.out.below' hb3)
    have HP3 := Hid.intro' (HP2.out.below' hb3)
    clear hb3 HN2 HB2 HC2 HW2 HP2
    cases hf : fsb s p with
    | false =>
      clear hf
      go_wp2
      go_ret
      exact ⟨rfl, HB3.out⟩
    | true =>
      have HF := Hid.intro' hf
      have HFS := Hid.intro' (fsb_fs hf)
      clear hf
      have c0 : W3.cell? ⟨w.heap.size, 0, none⟩ = some (.int .i64 s.st.fl) := HN3.out.cell 0
      have c14 : W3.cell? ⟨w.heap.size, 14, none⟩ = some (.slice aw s.ws.length kw) := HN3.out.cell 14
      by_cases h0 : f < 0
      · go_wp2
        go_ret
        exact ⟨rfl, HB3.out⟩
      have q0 : decide (f < 0) = false := decide_eq_false h0
      by_cases h1 : s.st.fl ≤ f
      · go_wp2
        go_ret
        exact ⟨rfl, HB3.out⟩
      have q1 : decide (s.st.fl ≤ f) = false := decide_eq_false h1
      by_cases h2 : 100 < s.ws.length
      · have h2z : (100 : Int) < (s.ws.length : Int) := by omega
        go_wp2
        go_ret
        exact ⟨rfl, HB3.out⟩
      have h2z : ¬ (100 : Int) < (s.ws.length : Int) := by omega
      have HFZ : Hid (0 ≤ f ∧ f < s.st.fl ∧ s.ws.length ≤ 100) := ⟨by omega, by omega, by omega⟩
      clear h0 h1 h2
      obtain ⟨kk, hkk, hkm⟩ : ∃ k : Nat, k < 65536 ∧ car % 65536 = (k : Int) := ⟨(car % 65536).toNat, by omega, by omega⟩
      have hk16 := i64_andffff car
      rw [hkm] at hk16
      have hp8 : p.length ≤ 8 := HFS.out.p8
      have hp1 : 0 < p.length := HFS.out.p1
      have hpe : ¬ p = [] := fun e => by rw [e] at hp1; simp at hp1
      have hrm : (kk : Int).tmod (p.length : Int) = ((kk % p.length : Nat) : Int) := by rw [Int.tmod_eq_emod_of_nonneg (by omega)]; omega
      obtain ⟨c, hcx⟩ : ∃ c, kk % p.length = c := ⟨_, rfl⟩
      have hcl : c < p.length := by rw [← hcx]; exact Nat.mod_lt _ hp1
      rw [hcx] at hrm
      clear hkm hcx
      have HZ : Hid ((W3.alloc (.cells #[.int .i64 0, .int .i64 0, .int .i64 0, .int .i64 0, .int .i64 0, .int .i64 0, .int .i64 0, .int .i64 0, .int .i64 0, .int .i64 0, .int .i64 0, .int .i64 0, .int .i64 0, .slice none 0 0, .slice none 0 0] 27)).heap[W3.heap.size]? = some (.cells #[.int .i64 0, .int .i64 0, .int .i64 0, .int .i64 0, .int .i64 0, .int .i64 0, .int .i64 0, .int .i64 0, .int .i64 0, .int .i64 0, .int .i64 0, .int .i64 0, .int .i64 0, .slice none 0 0, .slice none 0 0] 27)) := World.alloc_heap_new W3 _
      have hbA := (Below.refl W3.heap.size W3).alloc (Nat.le_refl _) (.cells #[.int .i64 0, .int .i64 0, .int .i64 0, .int .i64 0, .int .i64 0, .int .i64 0, .int .i64 0, .int .i64 0, .int .i64 0, .int .i64 0, .int .i64 0, .int .i64 0, .int .i64 0, .slice none 0 0, .slice none 0 0] 27)
      go_wp2_with (first | refine wpList_load27g rfl _ rfl w.heap.size s.st _ _ rfl HN3.out ?_ | refine wpList_store27 rfl _ _ rfl W3.heap.size _ rfl rfl rfl rfl HZ.out rfl ?_)
      intro W4 hk4 hn4
      have hb4 : Below W3.heap.size W3 W4 := hk4.below hbA (by simp) (fun i hi => by omega)
      have HT4 := Hid.intro' hn4
      have HB4 := Hid.intro' (below_class HB3.out hb4)
      have HN4 := Hid.intro' (HN3.out.below' hb4)
      have HC4 := Hid.intro' (HC3.out.below' hb4)
      have HW4 := Hid.intro' (HW3.out.below' hb4)
      have HP4 := Hid.intro' (HP3.out.below' hb4)
      have HBS := Hid.intro' (show w.heap.size < W3.heap.size from HN3.out.lt)
      clear hk4 hn4 hb4 hbA HZ HN3 HB3 HC3 HW3 HP3 c0 c14 q0 q1
      generalize W3.heap.size = bt at HT4 HBS ⊢
      have HDR : Hid (∀ w', Below W4.drew.heap.size W4.drew w' → Below W4.heap.size W4 w') := fun w' hw => ((Below.refl _ W4).drew).trans hw
      have HC14 : Hid (∀ w', Below W4.drew.heap.size W4.drew w' → w'.cell? ⟨w.heap.size, 14, none⟩ = some (.slice aw s.ws.length kw)) := fun w' hw => (HN4.out.below' (HDR.out w' hw)).cell 14
      have hc7 : c ≤ 7 := by omega
      have HWL := Hid.intro' HFZ.out.2.2
      go_wp2_with fail
      refine wp_region_rows 10 [0, 3, 8, 9] [(3, 0), (9, 3)] (fun j v w => O2 40 w W4.drew.heap.size v (if j = 0 then [] else if j = 3 then s.ws else if j = 8 then [(f, ((2 ^ c : Nat) : Int))] else s.ws ++ [(f, ((2 ^ c : Nat) : Int))])) (by kernel_rfl) (by kernel_rfl) (rows2_ok _ _ _) ?_
      conv => arg 5; simp [calmL]
      unfold wpCalm
      generalize hK : wpCalm Try.prog _ _ _ _ = K
      unfold Oper.calm
      go_simp
      refine ⟨_, fun _ _ => rfl, ?_⟩
      subst hK
      unfold wpCalm
      generalize hK : wpCalm Try.prog _ _ _ _ = K
      rw [if_pos (by go_simp)]
      refine calm_loadLW _ _ _ rfl rfl HC14.out ?_
      go_simp
      subst hK
      unfold wpCalm
      generalize hK : wpCalm Try.prog _ _ _ _ = K
      unfold Oper.calm
      go_simp
      refine ⟨_, fun _ _ => rfl, ?_⟩
      subst hK
      unfold wpCalm
      generalize hK : wpCalm Try.prog _ _ _ _ = K
      unfold Oper.calm
      go_simp
      refine ⟨_, fun _ _ => rfl, ?_⟩
      subst hK
      unfold wpCalm
      generalize hK : wpCalm Try.prog _ _ _ _ = K
      rw [if_pos (by go_simp)]
      refine calm_shl _ _ rfl rfl rfl hc7 ?_
      go_simp
      subst hK
      unfold wpCalm
      generalize hK : wpCalm Try.prog _ _ _ _ = K
      unfold Oper.calm
      go_simp
      refine ⟨_, fun _ _ => rfl, ?_⟩
      subst hK
      refine wpCalm_nil ⟨?_, ?_⟩
      · intro i o hi ho ρ w' hb h1 h2
        simp only [List.mem_cons, List.not_mem_nil, or_false] at hi
        rcases hi with rfl | rfl | rfl | rfl
        · cases ho
          refine RowDo.lit rfl 0 (.cells #[] 40) ?_ (O2.nil (B := W4.drew.heap.size) w' hb.size)
          simp only [rwv, pl, List.foldl, dstOf]
          go_simp
        · cases ho
          exact RowDo.app2 40 25 Try.underlying25 infoW rfl (.tmp 59) (.tmp 61) rfl _ (ρ 0) (.slice aw s.ws.length kw) [] s.ws _ (by rfl) (h1 0 (by simp) (by kernel_rfl)) (by rfl) (HW4.out.below' (HDR.out w' hb)) (by have := HWL.out; simp; omega) hb.size
        · cases ho
          refine RowDo.lit rfl 1 (.cells #[.int .i64 f, .int .i64 ((2 ^ c : Nat) : Int)] 40) ?_ (o2_one (B := W4.drew.heap.size) w' _ _ hb.size)
          simp only [rwv, pl, List.foldl, dstOf]
          go_simp
        · cases ho
          exact RowDo.app2 40 25 Try.underlying25 infoW rfl (.tmp 62) (.tmp 67) rfl _ (ρ 3) (ρ 8) s.ws [(f, ((2 ^ c : Nat) : Int))] (fun _ => True) (by rfl) (h1 3 (by simp) (by kernel_rfl)) (by rfl) (O2.r2 (h1 8 (by simp) (by kernel_rfl)) fun _ _ => trivial) (by have := HWL.out; simp; omega) hb.size
      · intro ρ w' hb hlive
        have ho : O2 40 w' W4.drew.heap.size (ρ 9) (s.ws ++ [(f, ((2 ^ c : Nat) : Int))]) := hlive 9 (by simp) (by rfl)
        simp only [rwv, pl, List.foldl, dstOf]
        generalize ρ 0 = v0
        generalize ρ 3 = v3
        generalize ρ 8 = v8
        generalize ρ 9 = v9 at ho ⊢
        obtain ⟨gn, kn, rfl, hgn⟩ := ho.some (by simp)
        have hlen : (s.ws ++ [(f, ((2 ^ c : Nat) : Int))]).length = s.ws.length + 1 := by simp
        rw [hlen] at ho ⊢
        have hb5 := HDR.out w' hb
        have HT5 := Hid.intro' (HT4.out.below' hb5)
        have t14 : w'.cell? ⟨bt, 14, none⟩ = some (.slice aw s.ws.length kw) := HT5.out.cell 14
        have f14 := HT5.out.fr 14
        have HBT := Hid.intro' HT4.out.lt
        have h3 : W4.drew.heap.size = W4.heap.size := rfl
        have HT6 := Hid.intro' (HT5.out.putw (.slice (some ⟨gn, 0, none⟩) (s.ws.length + 1) kn))
        have HO6 : Hid (O2 40 (w'.setCell ⟨bt, 14, none⟩ (.slice (some ⟨gn, 0, none⟩) (s.ws.length + 1) kn)) W4.heap.size (.slice (some ⟨gn, 0, none⟩) (s.ws.length + 1) kn) (s.ws ++ [(f, ((2 ^ c : Nat) : Int))])) := ho.keep fun g hg => Below.heap_setCell _ _ _ _ (by have h1 := (ho.lt g hg).1; have := HBT.out; show g ≠ bt; omega)
        have HK6 : Hid (Kp (fun k => k = bt) W4 (w'.setCell ⟨bt, 14, none⟩ (.slice (some ⟨gn, 0, none⟩) (s.ws.length + 1) kn))) := (Kp.ofBelow (fun k => k = bt) hb5).set bt 14 _ (fun _ => rfl)
        obtain ⟨X6, hX⟩ : ∃ X, w'.setCell ⟨bt, 14, none⟩ (.slice (some ⟨gn, 0, none⟩) (s.ws.length + 1) kn) = X := ⟨_, rfl⟩
        rw [hX] at HT6 HO6 HK6
        have HN6 := Hid.intro' (HN4.out.kp HK6.out (by have := HBS.out; omega))
        have HC6 := Hid.intro' (HC4.out.keep HK6.out.size fun g hg hlt => HK6.out.block g hlt (by have := HBS.out; omega))
        have HW6 := Hid.intro' (HW4.out.keep HK6.out.size fun g hg hlt => HK6.out.block g hlt (by have := HBS.out; omega))
        have HP6 := Hid.intro' (HP4.out.keep HK6.out.size fun g hg hlt => HK6.out.block g hlt (by have := HBS.out; omega))
        have HB6 := Hid.intro' (HK6.out.below HB4.out HB4.out.size (fun i hi => by have := HBS.out; omega))
        have c14 : X6.cell? ⟨w.heap.size, 14, none⟩ = some (.slice aw s.ws.length kw) := HN6.out.cell 14
        obtain ⟨l, hl⟩ : ∃ l, p[c]? = some l := ⟨_, List.getElem?_eq_getElem hcl⟩
        obtain ⟨gp, op, rfl, u, hcu, hru⟩ := HP6.out.at hl
        obtain ⟨au, ku, rfl, hlku, hnu⟩ := hru.form
        have hln : l.length ≤ 200 := HL2.out l (List.mem_of_getElem? hl)
        obtain ⟨jj, hjj, hjm⟩ : ∃ k : Nat, k < 65536 ∧ at0 % 65536 = (k : Int) := ⟨(at0 % 65536).toNat, by omega, by omega⟩
        have hj16 := i64_andffff at0
        rw [hjm] at hj16
        obtain ⟨k, hkx⟩ : ∃ c, jj % (l.length + 1) = c := ⟨_, rfl⟩
        have hkl : k ≤ l.length := by have := Nat.mod_lt jj (show 0 < l.length + 1 by omega); omega
        have hrk : (jj : Int).tmod ((l.length : Int) + 1) = (k : Int) := by
          rw [Int.tmod_eq_emod_of_nonneg (by omega), ← hkx, Int.natCast_emod]; rfl
        have hw1 : IntKind.i64.wrap ((l.length : Int) + 1) = (l.length : Int) + 1 := IntWalk.i64_in _ (by omega)
        have hnz : ¬ (l.length : Int) + 1 = 0 := by omega
        have hku : k ≤ ku := by omega
        have hcz : (c : Int) < (p.length : Int) := by omega
        have HL := Hid.intro' hl
        have HRU := Hid.intro' hru
        have HCU := Hid.intro' hcu
        clear hl hru hjm hkx hnu hlive ho hgn hb hb5 hlen h3 HT4 HT5 HN4 HC4 HW4 HP4 HB4 HK6 HC14 HDR
        have HOP : Hid (OP (X6.alloc (.cells #[] 38)) X6.heap.size (.slice (some ⟨X6.heap.size, 0, none⟩) 0 0) []) := OP.nil X6 (Nat.le_refl _)
        have HPX := Hid.intro' (HP6.out.alloc (.cells #[] 38))
        go_wp2_with (at_builtin; refine wpList_appPs rfl _ _ rfl X6.heap.size _ _ [] p _ rfl HOP.out rfl HPX.out ?qp3 ?qp4 ?_)
        case qp3 => have := HPL.out; simp; omega
        case qp4 => simp
        intro vq W7 us hus hrs hoq hgq
        have hoq' : OP W7 X6.heap.size vq us := hoq
        obtain ⟨gq, cq, rfl, hgb⟩ := hoq'.some (by rw [hus]; exact hp1)
        rw [hus] at hoq' ⊢
        have hb7 : Below X6.heap.size X6 W7 := ((Below.refl _ X6).alloc (Nat.le_refl _) (.cells #[] 38)).grown hgq (by simp) (fun q hq => by have := own_some hq; omega)
        have HOQ := Hid.intro' hoq'
        have HB7 := Hid.intro' hb7
        have HUS := Hid.intro' hus
        have HRS := Hid.intro' hrs
        have HGQ := Hid.intro' hgq
        have HGB := Hid.intro' hgb
        have HRU7 := Hid.intro' (HRU.out.below' hb7)
        have HDR : Hid (∀ w', Below W7.drew.heap.size W7.drew w' → Below W7.heap.size W7 w') := fun w' hw => ((Below.refl _ W7).drew).trans hw
        have HCW : Hid (∀ w', Below W7.drew.heap.size W7.drew w' → w'.cell? ⟨gp, op + c, none⟩ = some (.slice au l.length ku)) := fun w' hw => ((below_class HB7.out (HDR.out w' hw)).cell (p := ⟨gp, op + c, none⟩) (cell_lt HCU.out)).trans HCU.out
        clear hoq hoq' hb7 hus hrs hgq hgb HRU HOP HPX hcu c14 t14 f14 hX
        go_wp2_with fail
        refine wp_region_rows 20 [2, 9, 11, 12, 19] [(9, 2), (12, 9), (19, 12)] (fun j v w => OI w W7.drew.heap.size v (if j = 2 then [] else if j = 9 then l.take k else if j = 11 then [(s.ws.length : Int)] else if j = 12 then l.take k ++ [(s.ws.length : Int)] else l.take k ++ [(s.ws.length : Int)] ++ l.drop k)) (by kernel_rfl) (by kernel_rfl) (rowsI_ok _ _) ?_
        conv => arg 5; simp [calmL]
        unfold wpCalm
        generalize hK : wpCalm Try.prog _ _ _ _ = K
        unfold Oper.calm
        go_simp
        refine ⟨_, fun _ _ => rfl, ?_⟩
        subst hK
        unfold wpCalm
        generalize hK : wpCalm Try.prog _ _ _ _ = K
        unfold Oper.calm
        go_simp
        refine ⟨_, fun _ _ => rfl, ?_⟩
        subst hK
        unfold wpCalm
        generalize hK : wpCalm Try.prog _ _ _ _ = K
        unfold Oper.calm
        go_simp
        refine ⟨_, fun _ _ => rfl, ?_⟩
        subst hK
        unfold wpCalm
        generalize hK : wpCalm Try.prog _ _ _ _ = K
        unfold Oper.calm
        go_simp
        refine ⟨_, fun _ _ => rfl, ?_⟩
        subst hK
        unfold wpCalm
        generalize hK : wpCalm Try.prog _ _ _ _ = K
        rw [if_pos (by go_simp)]
        refine calm_ixP _ _ rfl rfl rfl hcl ?_
        go_simp
        subst hK
        unfold wpCalm
        generalize hK : wpCalm Try.prog _ _ _ _ = K
        rw [if_pos (by go_simp)]
        refine calm_loadLI _ _ _ rfl rfl HCW.out ?_
        go_simp
        subst hK
        unfold wpCalm
        generalize hK : wpCalm Try.prog _ _ _ _ = K
        unfold Oper.calm
        go_simp
        refine ⟨_, fun _ _ => rfl, ?_⟩
        subst hK
        unfold wpCalm
        generalize hK : wpCalm Try.prog _ _ _ _ = K
        rw [if_pos (by go_simp)]
        refine calm_cut _ _ rfl rfl rfl hku ?_
        go_simp
        subst hK
        unfold wpCalm
        generalize hK : wpCalm Try.prog _ _ _ _ = K
        unfold Oper.calm
        go_simp
        refine ⟨_, fun _ _ => rfl, ?_⟩
        subst hK
        unfold wpCalm
        generalize hK : wpCalm Try.prog _ _ _ _ = K
        unfold Oper.calm
        go_simp
        refine ⟨_, fun _ _ => rfl, ?_⟩
        subst hK
        unfold wpCalm
        generalize hK : wpCalm Try.prog _ _ _ _ = K
        unfold Oper.calm
        go_simp
        refine ⟨_, fun _ _ => rfl, ?_⟩
        subst hK
        unfold wpCalm
        generalize hK : wpCalm Try.prog _ _ _ _ = K
        rw [if_pos (by go_simp)]
        refine calm_ixP _ _ rfl rfl rfl hcl ?_
        go_simp
        subst hK
        unfold wpCalm
        generalize hK : wpCalm Try.prog _ _ _ _ = K
        rw [if_pos (by go_simp)]
        refine calm_loadLI _ _ _ rfl rfl HCW.out ?_
        go_simp
        subst hK
        unfold wpCalm
        generalize hK : wpCalm Try.prog _ _ _ _ = K
        unfold Oper.calm
        go_simp
        refine ⟨_, fun _ _ => rfl, ?_⟩
        subst hK
        unfold wpCalm
        generalize hK : wpCalm Try.prog _ _ _ _ = K
        rw [if_pos (by go_simp)]
        refine calm_rest _ _ rfl rfl rfl hkl ?_
        go_simp
        subst hK
        refine wpCalm_nil ⟨?_, ?_⟩
        · intro i o hi ho ρ w' hb h1 h2
          simp only [List.mem_cons, List.not_mem_nil, or_false] at hi
          rcases hi with rfl | rfl | rfl | rfl | rfl
          · cases ho
            refine RowDo.lit rfl 0 (.cells #[] 3) ?_ (OI.lit (B := W7.drew.heap.size) w' [] hb.size (Nat.zero_le _))
            simp only [rwv, pl, List.foldl, dstOf]
            go_simp
          · cases ho
            exact RowDo.appI rfl (.tmp 87) (.tmp 93) rfl _ (ρ 2) (.slice au k ku) [] (l.take k) _ (by rfl) (h1 2 (by simp) (by kernel_rfl)) (by rfl) ((HRU7.out.below' (HDR.out w' hb)).cut hkl) (by simp; omega) hb.size
          · cases ho
            refine RowDo.lit rfl 1 (.cells #[.int .i64 (s.ws.length : Int)] 3) ?_ (OI.lit (B := W7.drew.heap.size) w' [(s.ws.length : Int)] hb.size (by unfold maxLen; simp))
            simp only [rwv, pl, List.foldl, dstOf]
            go_simp
          · cases ho
            exact RowDo.appI rfl (.tmp 94) (.tmp 96) rfl _ (ρ 9) (ρ 11) (l.take k) [(s.ws.length : Int)] (fun _ => True) (by rfl) (h1 9 (by simp) (by kernel_rfl)) (by rfl) (OI.ri (h1 11 (by simp) (by kernel_rfl)) fun _ _ => trivial) (by simp; omega) hb.size
          · cases ho
            exact RowDo.appI rfl (.tmp 97) (.tmp 103) rfl _ (ρ 12) (.slice (restA au ku k) (l.length - k) (ku - k)) (l.take k ++ [(s.ws.length : Int)]) (l.drop k) _ (by rfl) (h1 12 (by simp) (by kernel_rfl)) (by rfl) ((HRU7.out.below' (HDR.out w' hb)).rest hkl) (by simp; omega) hb.size
        · intro ρ w' hb hlive
          have ho : OI w' W7.drew.heap.size (ρ 19) (l.take k ++ [(s.ws.length : Int)] ++ l.drop k) := hlive 19 (by simp) (by rfl)
          simp only [rwv, pl, List.foldl, dstOf]
          generalize ρ 2 = v2
          generalize ρ 9 = v9
          generalize ρ 11 = v11
          generalize ρ 12 = v12
          generalize ρ 19 = v19 at ho ⊢
          rw [show l.take k ++ [(s.ws.length : Int)] ++ l.drop k = l.take k ++ (s.ws.length : Int) :: l.drop k by simp] at ho
          obtain ⟨av, kv, rfl⟩ := ho.slice
          have hlen : (l.take k ++ (s.ws.length : Int) :: l.drop k).length = l.length + 1 := by simp; omega
          rw [hlen] at ho ⊢
          have hb8 := HDR.out w' hb
          have HOQ8 := Hid.intro' (HOQ.out.below' hb8)
          obtain ⟨u9, hu9⟩ : ∃ u, us[c]? = some u := ⟨_, List.getElem?_eq_getElem (by rw [HUS.out]; exact hcl)⟩
          have s8 : w'.cell? ⟨gq, c, none⟩ = some u9 := HOQ8.out.cell hu9
          have t8 := HOQ8.out.fr c
          have h7 : W7.drew.heap.size = W7.heap.size := rfl
          have HZ6 := Hid.intro' HB6.out.size
          have HRQ := Hid.intro' (HOQ8.out.other HUS.out HRS.out hcl (Nat.le_trans HGQ.out.size hb8.size) (fun q hq hlt => by
            have h3 := HZ6.out
            have h4 := HGB.out
            have h5 := HB7.out.size
            refine ⟨(hb8.block q (by omega)).trans (HGQ.out.block q hlt (fun e => ?_)), by omega⟩
            have := own_some e.symm; omega) (ho.ri (D := fun q => q ≠ gq) fun q hq => by
            have h3 := (ho.lt q hq).1
            have h4 := (HOQ.out.lt gq rfl).2
            omega))
          have HBX : Hid (Below X6.heap.size X6 (w'.setCell ⟨gq, c, none⟩ (.slice av (l.length + 1) kv))) := (below_class HB7.out hb8).setCell (p := ⟨gq, c, none⟩) HGB.out _
          obtain ⟨X8, hX⟩ : ∃ X, w'.setCell ⟨gq, c, none⟩ (.slice av (l.length + 1) kv) = X := ⟨_, rfl⟩
          rw [hX] at HRQ HBX
          have HN8 := Hid.intro' (HN6.out.below' HBX.out)
          have HC8 := Hid.intro' (HC6.out.below' HBX.out)
          have HW8 := Hid.intro' (HW6.out.below' HBX.out)
          have HP8 := Hid.intro' (HP6.out.below' HBX.out)
          have HT8 := Hid.intro' (HT6.out.below' HBX.out)
          have HO8 := Hid.intro' (HO6.out.below' HBX.out)
          have HB8 := Hid.intro' (below_class HB6.out HBX.out)
          have HF2 := Hid.intro' (insp_fsb (k := k) HF.out HL.out HFZ.out.1 HFZ.out.2.1 HFZ.out.2.2 bt_own)
          have HFS2 := Hid.intro' (fsb_fs HF2.out)
          have HQL : Hid ((insp p c k (s.ws.length : Int) l).length ≤ 1000) := by show _ ≤ 1000; unfold insp; rw [List.length_set]; omega
          have HQB : Hid (∀ m ∈ insp p c k (s.ws.length : Int) l, m.length ≤ 1000) := fun m hm => by
            unfold insp at hm
            rcases List.mem_or_eq_of_mem_set hm with h | h
            · exact HLL.out m h
            · rw [h, hlen]; omega
          clear ho hlen hb8 hb hlive hu9 h7 HOQ HOQ8 HB7 HUS HRS HGQ HGB HRU7 HDR HCW HBX HN6 HC6 HW6 HP6 HT6 HO6 HB6
          go_wp2_with (refine wpList_load27g rfl _ rfl w.heap.size s.st _ _ rfl HN8.out ?_)
          refine (waits_yes s _ _ _ _ p X8 HC8.out HW8.out HP8.out HF.out HPL.out HLL.out).mono ?_
          rintro e W9 ⟨va, rfl, hva, hb9⟩
          have HVA := Hid.intro' (hva.mono (D' := fun _ => True) fun _ _ _ _ => trivial)
          have HN9 := Hid.intro' (HN8.out.below' hb9)
          have HC9 := Hid.intro' (HC8.out.below' hb9)
          have HW9 := Hid.intro' (HW8.out.below' hb9)
          have HP9 := Hid.intro' (HP8.out.below' hb9)
          have HT9 := Hid.intro' (HT8.out.below' hb9)
          have HO9 := Hid.intro' (HO8.out.below' hb9)
          have HQ9 := Hid.intro' (HRQ.out.below' hb9)
          have HB9 := Hid.intro' (below_class HB8.out hb9)
          clear hva hb9 HN8 HC8 HW8 HP8 HT8 HO8 HRQ HB8 s8 t8 hX
          go_wp2_with (refine wpList_load27g rfl _ rfl bt s.st _ _ rfl HT9.out ?_)
          refine (waits_yes (morr s f c) (fun _ => True) _ _ _ (insp p c k (s.ws.length : Int) l) W9 (HC9.out.mono fun _ _ _ _ => trivial) (HO9.out.r2 fun _ _ => trivial) HQ9.out HF2.out HQL.out HQB.out).mono ?_
          rintro e W10 ⟨vb, rfl, hvb, hb10⟩
          have HVA10 := Hid.intro' (HVA.out.below' hb10)
          have HVB10 : Hid (RI (fun _ => True) W10 vb (RM.wts s.st (s.ws ++ [(f, ((2 ^ c : Nat) : Int))]) s.cs (insp p c k (s.ws.length : Int) l))) := hvb.mono fun _ _ _ _ => trivial
          have HN10 := Hid.intro' (HN9.out.below' hb10)
          have HC10 := Hid.intro' (HC9.out.below' hb10)
          have HW10 := Hid.intro' (HW9.out.below' hb10)
          have HP10 := Hid.intro' (HP9.out.below' hb10)
          have HT10 := Hid.intro' (HT9.out.below' hb10)
          have HO10 := Hid.intro' (HO9.out.below' hb10)
          have HQ10 := Hid.intro' (HQ9.out.below' hb10)
          have HB10 := Hid.intro' (below_class HB9.out hb10)
          clear hvb hb10 HN9 HC9 HW9 HP9 HT9 HO9 HQ9 HB9 HVA
          go_wp2_with (refine wpList_load27g rfl _ rfl w.heap.size s.st _ _ rfl HN10.out ?_)
          refine (cost_yes s _ _ _ _ p W10 HC10.out HW10.out HP10.out HF.out HPL.out HLL.out).mono ?_
          rintro e W11 ⟨rfl, hb11⟩
          have HVA11 := Hid.intro' (HVA10.out.below' hb11)
          have HVB11 := Hid.intro' (HVB10.out.below' hb11)
          have HC11 := Hid.intro' (HC10.out.below' hb11)
          have HP11 := Hid.intro' (HP10.out.below' hb11)
          have HT11 := Hid.intro' (HT10.out.below' hb11)
          have HO11 := Hid.intro' (HO10.out.below' hb11)
          have HQ11 := Hid.intro' (HQ10.out.below' hb11)
          have HB11 := Hid.intro' (below_class HB10.out hb11)
          clear hb11 HN10 HC10 HW10 HP10 HT10 HO10 HQ10 HB10 HVA10 HVB10
          go_wp2_with (refine wpList_load27g rfl _ rfl bt s.st _ _ rfl HT11.out ?_)
          refine (cost_yes (morr s f c) (fun _ => True) _ _ _ (insp p c k (s.ws.length : Int) l) W11 (HC11.out.mono fun _ _ _ _ => trivial) (HO11.out.r2 fun _ _ => trivial) HQ11.out HF2.out HQL.out HQB.out).mono ?_
          rintro e W12 ⟨rfl, hb12⟩
          have HVA := Hid.intro' (HVA11.out.below' hb12)
          have HVB := Hid.intro' (HVB11.out.below' hb12)
          have HP12 := Hid.intro' (HP11.out.below' hb12)
          have HB12 := Hid.intro' (below_class HB11.out hb12)
          clear hb12 HC11 HP11 HT11 HO11 HQ11 HB11 HVA11 HVB11
          have HLATE : Hid (∀ i : Nat, i < s.ws.length → ∃ t u, (RM.wts s.st s.ws s.cs p)[i]? = some t ∧ (RM.wts s.st (s.ws ++ [(f, ((2 ^ c : Nat) : Int))]) s.cs (insp p c k (s.ws.length : Int) l))[i]? = some u ∧ t ≤ u) := fun i hi => insp_late HF.out HF2.out HL.out HFZ.out.1 HFZ.out.2.1 hi
          obtain ⟨u, hu, hle, heq⟩ := insp_own HF.out HF2.out HL.out HFZ.out.1 HFZ.out.2.1
          have HUB := Hid.intro' (HFS2.out.bd HQB.out u (List.mem_of_getElem? hu))
          have HXB := Hid.intro' (HFS.out.cost HLL.out)
          have HU := Hid.intro' hu
          have HEQ := Hid.intro' heq
          have HLA : Hid ((RM.wts s.st s.ws s.cs p).length = s.ws.length) := RM.wts_length
          have HLB : Hid ((RM.wts s.st (s.ws ++ [(f, ((2 ^ c : Nat) : Int))]) s.cs (insp p c k (s.ws.length : Int) l)).length = s.ws.length + 1) := by show _ = _; rw [RM.wts_length]; simp
          clear hu heq
          have hmo : RM.cst (morr s f c).st (morr s f c).ws (morr s f c).cs (insp p c k (s.ws.length : Int) l) = RM.cst s.st (s.ws ++ [(f, ((2 ^ c : Nat) : Int))]) s.cs (insp p c k (s.ws.length : Int) l) := rfl
          rw [hmo]
          clear hmo
          generalize RM.cst s.st (s.ws ++ [(f, ((2 ^ c : Nat) : Int))]) s.cs (insp p c k (s.ws.length : Int) l) = y at hle HEQ ⊢
          generalize RM.cst s.st s.ws s.cs p = x at hle HEQ HXB ⊢
          generalize RM.wts s.st s.ws s.cs p = ta at HVA HLATE HLA
          generalize RM.wts s.st (s.ws ++ [(f, ((2 ^ c : Nat) : Int))]) s.cs (insp p c k (s.ws.length : Int) l) = tb at HVB HLATE HLB HU
          obtain ⟨aa, ka, rfl, _, _⟩ := HVA.out.form
          obtain ⟨ab, kb, rfl, _, _⟩ := HVB.out.form
          rw [HLA.out] at HVA ⊢
          rw [HLB.out] at HVB ⊢
          have hw6 : IntKind.i64.wrap (x + u) = x + u := IntWalk.i64_in _ (by have := HUB.out; have := HXB.out; omega)
          go_wp2_with fail
          go_loopw [146] (fun iv wr => ∃ i : Nat, i ≤ s.ws.length ∧ iv = .int .i64 (i : Int) ∧ Hid (Below W12.heap.size W12 wr)) (fun iv _ => s.ws.length - (intOf iv).toNat)
          case atStart => exact ⟨0, Nat.zero_le _, rfl, Below.refl _ _⟩
          case round =>
            obtain ⟨i, hi, rfl, HBI⟩ := hrel
            by_cases hil : i < s.ws.length
            · have hiz : (i : Int) < (s.ws.length : Int) := by omega
              have hiz2 : (i : Int) < (s.ws.length : Int) + 1 := by omega
              obtain ⟨t1, t2, g1, g2, g3⟩ := HLATE.out i hil
              obtain ⟨ga, oa, rfl, hca⟩ := (HVA.out.below' HBI.out).at g1
              obtain ⟨gb, ob, rfl, hcb⟩ := (HVB.out.below' HBI.out).at g2
              have g4 : ¬ t2 < t1 := by omega
              clear g1 g2 g3
              go_wp2_with fail
              go_region
              go_wp2
              go_roundw
              case rel => exact ⟨i + 1, by omega, by go_num, HBI.out.drew⟩
              case measure => simp [intOf]; omega
            · have hiz : ¬ (i : Int) < (s.ws.length : Int) := by omega
              obtain ⟨gb, ob, rfl, hcb⟩ := (HVB.out.below' HBI.out).at HU.out
              obtain ⟨g2, o2, e2, u2, hcu, hru⟩ := (HP12.out.below' HBI.out).at HL.out
              cases e2
              obtain ⟨au2, ku2, rfl, _, _⟩ := hru.form
              have HE := Hid.intro' (below_class HB12.out HBI.out)
              have hwz : (s.ws.length : Int) < (s.ws.length : Int) + 1 := by omega
              clear hru
              by_cases hkl2 : k < l.length
              · have hkz : (k : Int) < (l.length : Int) := by omega
                clear hkl2
                go_wp2
                go_ret
                exact ⟨rfl, HE.out⟩
              · have hkz : ¬ (k : Int) < (l.length : Int) := by omega
                have hyx : y = x + u := HEQ.out (by omega)
                subst hyx
                clear hkl2
                go_wp2
                go_ret
                exact ⟨rfl, HE.out⟩

end Go.Proofs.Ytkcppidmbojglaf
