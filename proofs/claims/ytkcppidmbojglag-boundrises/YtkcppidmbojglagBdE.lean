/- Whether a plan begins so, as the document tells it. -/
import Derived.Test.YtkcppidmbojglagBdC
namespace Go.Proofs.Ytkcppidmbojglag
open Go.RowKit

/-- does the list m of the car c begin with l (and is it l, ahead of the car k)? -/
def okc (k c : Nat) (l m : List Int) : Bool := (decide (k ≤ c) || decide (m.length = l.length)) && decide (l.length ≤ m.length) && decide (m.take l.length = l)
/-- does p begin so? -/
def bgs (p : List (List Int)) (car : Int) (b : List (List Int)) : Bool := decide (0 ≤ car) && decide (car < (p.length : Int)) && decide (car < (b.length : Int)) && (List.range (car.toNat + 1)).all fun c => okc car.toNat c (b[c]?.getD []) (p[c]?.getD [])
theorem bgs_no {p : List (List Int)} {k : Nat} {b : List (List Int)} {c : Nat} {l m : List Int} (hc : c ≤ k) (hb : b[c]? = some l) (hp : p[c]? = some m) (h : okc k c l m = false) : bgs p (k : Int) b = false := by
  unfold bgs
  rw [Int.toNat_natCast]
  have : ((List.range (k + 1)).all fun c => okc k c (b[c]?.getD []) (p[c]?.getD [])) = false := by
    rw [List.all_eq_false]
    exact ⟨c, List.mem_range.2 (by omega), by rw [hb, hp]; simp [h]⟩
  rw [this, Bool.and_false]

set_option maxRecDepth 100000 in
set_option maxHeartbeats 8000000 in
theorem rbegins_any (D : Nat → Prop) (vp vb : Value) (car : Int) (p b : List (List Int)) (w : World) (hp : RL D w vp p) (hb : RL D w vb b) (hpl : p.length ≤ 1000) (hll : ∀ l ∈ b, l.length ≤ 1000) :
    Calls Try.prog 9 #[vp, .int .i64 car, vb] w fun e w' => e = .returned (.bool (bgs p car b)) ∧ Below w.heap.size w w' := by
  have HP := Hid.intro' hp
  have HB := Hid.intro' hb
  have HLL := Hid.intro' hll
  obtain ⟨ap, kp, rfl, _, _⟩ := hp.form
  obtain ⟨ab, kb, rfl, _, _⟩ := hb.form
  clear hp hb hll
  by_cases h1 : car < 0
  · have HE : Hid (bgs p car b = false) := by show _ = _; unfold bgs; rw [decide_eq_false (show ¬ 0 ≤ car by omega)]; simp
    go_enter Try.func9, Try.ntmps9
    go_wp2
    go_ret
    exact ⟨ret_bool HE.out.symm, Below.refl _ _⟩
  obtain ⟨k, rfl⟩ : ∃ k : Nat, car = (k : Int) := ⟨car.toNat, by omega⟩
  have q1 : decide ((k : Int) < 0) = false := decide_eq_false h1
  by_cases h2 : p.length ≤ k
  · have HE : Hid (bgs p (k : Int) b = false) := by show _ = _; unfold bgs; rw [decide_eq_false (show ¬ (k : Int) < (p.length : Int) by omega)]; simp
    have h2z : (p.length : Int) ≤ (k : Int) := by omega
    clear h1
    go_enter Try.func9, Try.ntmps9
    go_wp2
    go_ret
    exact ⟨ret_bool HE.out.symm, Below.refl _ _⟩
  have q2 : decide (p.length ≤ k) = false := decide_eq_false h2
  have q2z : decide ((p.length : Int) ≤ (k : Int)) = false := decide_eq_false (by omega)
  by_cases h3 : b.length ≤ k
  · have HE : Hid (bgs p (k : Int) b = false) := by show _ = _; unfold bgs; rw [decide_eq_false (show ¬ (k : Int) < (b.length : Int) by omega)]; simp
    have h3z : (b.length : Int) ≤ (k : Int) := by omega
    clear h1 h2
    go_enter Try.func9, Try.ntmps9
    go_wp2
    go_ret
    exact ⟨ret_bool HE.out.symm, Below.refl _ _⟩
  have q3 : decide (b.length ≤ k) = false := decide_eq_false h3
  have q3z : decide ((b.length : Int) ≤ (k : Int)) = false := decide_eq_false (by omega)
  have HKP := Hid.intro' (show k < p.length by omega)
  have HKB := Hid.intro' (show k < b.length by omega)
  have hkm : k < 1000 := by omega
  clear h1 h2 h3
  go_enter Try.func9, Try.ntmps9
  go_wp2_with fail
  clear q1 q2 q2z q3 q3z
  go_loopw [7] (fun iv wr => ∃ c : Nat, c ≤ k + 1 ∧ iv = .int .i64 (c : Int) ∧ Hid (Below w.heap.size w wr) ∧ Hid (∀ d, d < c → okc k d (b[d]?.getD []) (p[d]?.getD []) = true)) (fun iv _ => k + 1 - (intOf iv).toNat)
  case atStart => exact ⟨0, Nat.zero_le _, rfl, Below.refl _ _, fun d h => by omega⟩
  case round =>
    obtain ⟨c, hck, rfl, HBC, HOK⟩ := hrel
    by_cases hlt : c ≤ k
    · have hcz : (c : Int) ≤ (k : Int) := by omega
      have hcp : c < p.length := by have := HKP.out; omega
      have hcb : c < b.length := by have := HKB.out; omega
      obtain ⟨m, hm⟩ : ∃ l, p[c]? = some l := ⟨_, List.getElem?_eq_getElem hcp⟩
      obtain ⟨l, hl⟩ : ∃ l, b[c]? = some l := ⟨_, List.getElem?_eq_getElem hcb⟩
      obtain ⟨gp, op, rfl, u, hcu, hru⟩ := (HP.out.below' HBC.out).at hm
      obtain ⟨gb, ob, rfl, v, hcv, hrv⟩ := (HB.out.below' HBC.out).at hl
      obtain ⟨au, ku, rfl, _, _⟩ := hru.form
      obtain ⟨av, kv, rfl, _, _⟩ := hrv.form
      have HRU := Hid.intro' hru
      have HRV := Hid.intro' hrv
      have HM := Hid.intro' hm
      have HL := Hid.intro' hl
      have hln : l.length ≤ 1000 := HLL.out l (List.mem_of_getElem? hl)
      have HCU : Hid (∀ w', Below wr.heap.size wr w' → w'.cell? ⟨gp, op + c, none⟩ = some (.slice au m.length ku)) := fun w' hw => (hw.cell (p := ⟨gp, op + c, none⟩) (cell_lt hcu)).trans hcu
      have HCV : Hid (∀ w', Below wr.heap.size wr w' → w'.cell? ⟨gb, ob + c, none⟩ = some (.slice av l.length kv)) := fun w' hw => (hw.cell (p := ⟨gb, ob + c, none⟩) (cell_lt hcv)).trans hcv
      clear hm hl hru hrv hcu hcv
      have hgo : (c = k ∨ m.length = l.length) ∧ l.length ≤ m.length ∨ okc k c l m = false := by
        by_cases g1 : (c = k ∨ m.length = l.length) ∧ l.length ≤ m.length
        · exact .inl g1
        · right
          unfold okc
          by_cases g2 : l.length ≤ m.length
          · have : ¬ (c = k ∨ m.length = l.length) := fun h => g1 ⟨h, g2⟩
            rw [decide_eq_false (show ¬ k ≤ c by omega), decide_eq_false (show ¬ m.length = l.length by omega)]; simp
          · rw [decide_eq_false g2]; simp
      go_wp2_with fail
      by_cases hck2 : c < k
      · have z1 : decide (c < k) = true := decide_eq_true hck2
        have z2 : decide ((c : Int) < (k : Int)) = true := decide_eq_true (by omega)
        by_cases hme : m.length = l.length
        · have z3 : ((m.length : Int) != (l.length : Int)) = false := by simp; omega
          have z4 : (m.length != l.length) = false := by simp [hme]
          have z5 : decide (m.length < l.length) = false := decide_eq_false (by omega)
          have z6 : decide ((m.length : Int) < (l.length : Int)) = false := decide_eq_false (by omega)
          have HLM := Hid.intro' (show l.length ≤ m.length by omega)
          have HWH := Hid.intro' (show c = k ∨ m.length = l.length from .inr hme)
          clear hck2 hme hgo
          refine wp_region_quiet (C := fun w' => Below wr.heap.size wr w') (by kernel_rfl) (by kernel_rfl) ((Below.refl _ _).drew) ?_
          simp only []
          unfold wpQuiet
          generalize hK : wpQuiet Try.prog _ _ _ _ = K
          go_simp
          refine ⟨_, fun _ _ => rfl, ?_⟩
          subst hK
          unfold wpQuiet
          generalize hK : wpQuiet Try.prog _ _ _ _ = K
          go_simp
          refine ⟨_, fun _ _ => rfl, ?_⟩
          subst hK
          unfold wpQuiet
          generalize hK : wpQuiet Try.prog _ _ _ _ = K
          go_simp
          refine ⟨_, fun _ _ => rfl, ?_⟩
          subst hK
          unfold wpQuiet
          generalize hK : wpQuiet Try.prog _ _ _ _ = K
          go_simp
          refine ⟨_, fun _ _ => rfl, ?_⟩
          subst hK
          unfold wpQuiet
          generalize hK : wpQuiet Try.prog _ _ _ _ = K
          go_simp
          refine ⟨_, fun _ _ => rfl, ?_⟩
          subst hK
          unfold wpQuiet
          generalize hK : wpQuiet Try.prog _ _ _ _ = K
          go_simp
          refine ⟨_, fun _ _ => rfl, ?_⟩
          subst hK
          unfold wpQuiet
          generalize hK : wpQuiet Try.prog _ _ _ _ = K
          rw [if_pos (by go_simp)]
          refine quiet_ixP _ _ rfl rfl rfl hcp ?_
          go_simp
          subst hK
          unfold wpQuiet
          generalize hK : wpQuiet Try.prog _ _ _ _ = K
          rw [if_pos (by go_simp)]
          refine quiet_loadLI _ _ _ rfl rfl HCU.out ?_
          go_simp
          subst hK
          unfold wpQuiet
          generalize hK : wpQuiet Try.prog _ _ _ _ = K
          go_simp
          refine ⟨_, fun _ _ => rfl, ?_⟩
          subst hK
          unfold wpQuiet
          generalize hK : wpQuiet Try.prog _ _ _ _ = K
          go_simp
          refine ⟨_, fun _ _ => rfl, ?_⟩
          subst hK
          unfold wpQuiet
          generalize hK : wpQuiet Try.prog _ _ _ _ = K
          go_simp
          refine ⟨_, fun _ _ => rfl, ?_⟩
          subst hK
          unfold wpQuiet
          generalize hK : wpQuiet Try.prog _ _ _ _ = K
          rw [if_pos (by go_simp)]
          refine quiet_ixP _ _ rfl rfl rfl hcb ?_
          go_simp
          subst hK
          unfold wpQuiet
          generalize hK : wpQuiet Try.prog _ _ _ _ = K
          rw [if_pos (by go_simp)]
          refine quiet_loadLI _ _ _ rfl rfl HCV.out ?_
          go_simp
          subst hK
          unfold wpQuiet
          generalize hK : wpQuiet Try.prog _ _ _ _ = K
          go_simp
          refine ⟨_, fun _ _ => rfl, ?_⟩
          subst hK
          unfold wpQuiet
          generalize hK : wpQuiet Try.prog _ _ _ _ = K
          go_simp
          refine ⟨_, fun _ _ => rfl, ?_⟩
          subst hK
          unfold wpQuiet
          generalize hK : wpQuiet Try.prog _ _ _ _ = K
          go_simp
          refine ⟨_, fun _ _ => rfl, ?_⟩
          subst hK
          unfold wpQuiet
          generalize hK : wpQuiet Try.prog _ _ _ _ = K
          go_simp
          refine ⟨_, fun _ _ => rfl, ?_⟩
          subst hK
          unfold wpQuiet
          generalize hK : wpQuiet Try.prog _ _ _ _ = K
          go_simp
          refine ⟨_, fun _ _ => rfl, ?_⟩
          subst hK
          unfold wpQuiet
          generalize hK : wpQuiet Try.prog _ _ _ _ = K
          go_simp
          refine ⟨_, fun _ _ => rfl, ?_⟩
          subst hK
          unfold wpQuiet
          generalize hK : wpQuiet Try.prog _ _ _ _ = K
          rw [if_pos (by go_simp)]
          refine quiet_ixP _ _ rfl rfl rfl hcp ?_
          go_simp
          subst hK
          unfold wpQuiet
          generalize hK : wpQuiet Try.prog _ _ _ _ = K
          rw [if_pos (by go_simp)]
          refine quiet_loadLI _ _ _ rfl rfl HCU.out ?_
          go_simp
          subst hK
          unfold wpQuiet
          generalize hK : wpQuiet Try.prog _ _ _ _ = K
          go_simp
          refine ⟨_, fun _ _ => rfl, ?_⟩
          subst hK
          unfold wpQuiet
          generalize hK : wpQuiet Try.prog _ _ _ _ = K
          go_simp
          refine ⟨_, fun _ _ => rfl, ?_⟩
          subst hK
          unfold wpQuiet
          generalize hK : wpQuiet Try.prog _ _ _ _ = K
          go_simp
          refine ⟨_, fun _ _ => rfl, ?_⟩
          subst hK
          unfold wpQuiet
          generalize hK : wpQuiet Try.prog _ _ _ _ = K
          rw [if_pos (by go_simp)]
          refine quiet_ixP _ _ rfl rfl rfl hcb ?_
          go_simp
          subst hK
          unfold wpQuiet
          generalize hK : wpQuiet Try.prog _ _ _ _ = K
          rw [if_pos (by go_simp)]
          refine quiet_loadLI _ _ _ rfl rfl HCV.out ?_
          go_simp
          subst hK
          unfold wpQuiet
          generalize hK : wpQuiet Try.prog _ _ _ _ = K
          go_simp
          refine ⟨_, fun _ _ => rfl, ?_⟩
          subst hK
          unfold wpQuiet
          generalize hK : wpQuiet Try.prog _ _ _ _ = K
          go_simp
          refine ⟨_, fun _ _ => rfl, ?_⟩
          subst hK
          unfold wpQuiet
          generalize hK : wpQuiet Try.prog _ _ _ _ = K
          go_simp
          refine ⟨_, fun _ _ => rfl, ?_⟩
          subst hK
          refine wpQuiet_nil ?_
          intro W5 hb5
          have HB5 := Hid.intro' (below_class HBC.out hb5)
          have HRU5 := Hid.intro' (HRU.out.below' hb5)
          have HRV5 := Hid.intro' (HRV.out.below' hb5)
          have HCU5 : Hid (∀ w', Below W5.heap.size W5 w' → w'.cell? ⟨gp, op + c, none⟩ = some (.slice au m.length ku)) := fun w' hw => HCU.out w' (below_class hb5 hw)
          have HCV5 : Hid (∀ w', Below W5.heap.size W5 w' → w'.cell? ⟨gb, ob + c, none⟩ = some (.slice av l.length kv)) := fun w' hw => HCV.out w' (below_class hb5 hw)
          have hcbz : (c : Int) < (b.length : Int) := by omega
          clear hb5 HRU HRV HCU HCV
          go_wp2_with fail
          go_loopw [8] (fun iv wr => ∃ j : Nat, j ≤ l.length ∧ iv = .int .i64 (j : Int) ∧ Hid (Below W5.heap.size W5 wr) ∧ Hid (m.take j = l.take j)) (fun iv _ => l.length - (intOf iv).toNat)
          case atStart => exact ⟨0, Nat.zero_le _, rfl, Below.refl _ _, rfl⟩
          case round =>
            obtain ⟨j, hj, rfl, HBJ, HEQ⟩ := hrel
            have hcv := HCV5.out _ HBJ.out
            by_cases hjl : j < l.length
            · have hjz : (j : Int) < (l.length : Int) := by omega
              have hjm : j < m.length := by have := HLM.out; omega
              obtain ⟨x, hx⟩ : ∃ x, m[j]? = some x := ⟨_, List.getElem?_eq_getElem hjm⟩
              obtain ⟨y, hy⟩ : ∃ y, l[j]? = some y := ⟨_, List.getElem?_eq_getElem hjl⟩
              obtain ⟨gu, ou, rfl, hcx⟩ := (HRU5.out.below' HBJ.out).at hx
              obtain ⟨gv, ov, rfl, hcy⟩ := (HRV5.out.below' HBJ.out).at hy
              have HX := Hid.intro' hx
              have HY := Hid.intro' hy
              have HCU6 : Hid (∀ w', Below wr.heap.size wr w' → w'.cell? ⟨gp, op + c, none⟩ = some (.slice (some ⟨gu, ou, none⟩) m.length ku)) := fun w' hw => HCU5.out w' (below_class HBJ.out hw)
              have HCV6 : Hid (∀ w', Below wr.heap.size wr w' → w'.cell? ⟨gb, ob + c, none⟩ = some (.slice (some ⟨gv, ov, none⟩) l.length kv)) := fun w' hw => HCV5.out w' (below_class HBJ.out hw)
              have HCX : Hid (∀ w', Below wr.heap.size wr w' → w'.cell? ⟨gu, ou + j, none⟩ = some (.int .i64 x)) := fun w' hw => (hw.cell (p := ⟨gu, ou + j, none⟩) (cell_lt hcx)).trans hcx
              have HCY : Hid (∀ w', Below wr.heap.size wr w' → w'.cell? ⟨gv, ov + j, none⟩ = some (.int .i64 y)) := fun w' hw => (hw.cell (p := ⟨gv, ov + j, none⟩) (cell_lt hcy)).trans hcy
              clear hx hy hcx hcy
              go_wp2_with fail
              clear hcv
              by_cases hxy : x = y
              · have q1 : (x != y) = false := by simp [hxy]
                have HEQ2 : Hid (m.take (j + 1) = l.take (j + 1)) := by
                  show _ = _
                  rw [take_snoc HX.out, take_snoc HY.out, HEQ.out, hxy]
                clear hxy
                refine wp_region_quiet (C := fun w' => Below wr.heap.size wr w') (by kernel_rfl) (by kernel_rfl) ((Below.refl _ _).drew) ?_
                simp only []
                unfold wpQuiet
                generalize hK : wpQuiet Try.prog _ _ _ _ = K
                go_simp
                refine ⟨_, fun _ _ => rfl, ?_⟩
                subst hK
                unfold wpQuiet
                generalize hK : wpQuiet Try.prog _ _ _ _ = K
                go_simp
                refine ⟨_, fun _ _ => rfl, ?_⟩
                subst hK
                unfold wpQuiet
                generalize hK : wpQuiet Try.prog _ _ _ _ = K
                rw [if_pos (by go_simp)]
                refine quiet_ixP _ _ rfl rfl rfl hcp ?_
                go_simp
                subst hK
                unfold wpQuiet
                generalize hK : wpQuiet Try.prog _ _ _ _ = K
                rw [if_pos (by go_simp)]
                refine quiet_loadLI _ _ _ rfl rfl HCU6.out ?_
                go_simp
                subst hK
                unfold wpQuiet
                generalize hK : wpQuiet Try.prog _ _ _ _ = K
                go_simp
                refine ⟨_, fun _ _ => rfl, ?_⟩
                subst hK
                unfold wpQuiet
                generalize hK : wpQuiet Try.prog _ _ _ _ = K
                rw [if_pos (by go_simp)]
                refine quiet_ixI _ _ rfl rfl rfl hjm ?_
                go_simp
                subst hK
                unfold wpQuiet
                generalize hK : wpQuiet Try.prog _ _ _ _ = K
                rw [if_pos (by go_simp)]
                refine quiet_load3 _ _ _ rfl rfl HCX.out ?_
                go_simp
                subst hK
                unfold wpQuiet
                generalize hK : wpQuiet Try.prog _ _ _ _ = K
                go_simp
                refine ⟨_, fun _ _ => rfl, ?_⟩
                subst hK
                unfold wpQuiet
                generalize hK : wpQuiet Try.prog _ _ _ _ = K
                go_simp
                refine ⟨_, fun _ _ => rfl, ?_⟩
                subst hK
                unfold wpQuiet
                generalize hK : wpQuiet Try.prog _ _ _ _ = K
                rw [if_pos (by go_simp)]
                refine quiet_ixP _ _ rfl rfl rfl hcb ?_
                go_simp
                subst hK
                unfold wpQuiet
                generalize hK : wpQuiet Try.prog _ _ _ _ = K
                rw [if_pos (by go_simp)]
                refine quiet_loadLI _ _ _ rfl rfl HCV6.out ?_
                go_simp
                subst hK
                unfold wpQuiet
                generalize hK : wpQuiet Try.prog _ _ _ _ = K
                go_simp
                refine ⟨_, fun _ _ => rfl, ?_⟩
                subst hK
                unfold wpQuiet
                generalize hK : wpQuiet Try.prog _ _ _ _ = K
                rw [if_pos (by go_simp)]
                refine quiet_ixI _ _ rfl rfl rfl hjl ?_
                go_simp
                subst hK
                unfold wpQuiet
                generalize hK : wpQuiet Try.prog _ _ _ _ = K
                rw [if_pos (by go_simp)]
                refine quiet_load3 _ _ _ rfl rfl HCY.out ?_
                go_simp
                subst hK
                unfold wpQuiet
                generalize hK : wpQuiet Try.prog _ _ _ _ = K
                go_simp
                refine ⟨_, fun _ _ => rfl, ?_⟩
                subst hK
                refine wpQuiet_nil ?_
                intro W6 hb6
                have HB6 := Hid.intro' (below_class HBJ.out hb6)
                clear hb6 HCU6 HCV6 HCX HCY
                go_wp2
                go_roundw
                case rel => exact ⟨j + 1, by omega, by go_num, HB6, HEQ2⟩
                case measure => simp [intOf]; omega
              · have q1 : (x != y) = true := by simp [hxy]
                have HKO : Hid (okc k c l m = false) := by
                  show _ = _
                  unfold okc
                  rw [decide_eq_false (show ¬ m.take l.length = l from fun e => ?_)]
                  · simp
                  · have h1 := HY.out
                    rw [← e, List.getElem?_take, if_pos hjl, HX.out] at h1
                    cases h1
                    exact hxy rfl
                have HNO := Hid.intro' (bgs_no hlt HL.out HM.out HKO.out)
                clear hxy
                refine wp_region_quiet (C := fun w' => Below wr.heap.size wr w') (by kernel_rfl) (by kernel_rfl) ((Below.refl _ _).drew) ?_
                simp only []
                unfold wpQuiet
                generalize hK : wpQuiet Try.prog _ _ _ _ = K
                go_simp
                refine ⟨_, fun _ _ => rfl, ?_⟩
                subst hK
                unfold wpQuiet
                generalize hK : wpQuiet Try.prog _ _ _ _ = K
                go_simp
                refine ⟨_, fun _ _ => rfl, ?_⟩
                subst hK
                unfold wpQuiet
                generalize hK : wpQuiet Try.prog _ _ _ _ = K
                rw [if_pos (by go_simp)]
                refine quiet_ixP _ _ rfl rfl rfl hcp ?_
                go_simp
                subst hK
                unfold wpQuiet
                generalize hK : wpQuiet Try.prog _ _ _ _ = K
                rw [if_pos (by go_simp)]
                refine quiet_loadLI _ _ _ rfl rfl HCU6.out ?_
                go_simp
                subst hK
                unfold wpQuiet
                generalize hK : wpQuiet Try.prog _ _ _ _ = K
                go_simp
                refine ⟨_, fun _ _ => rfl, ?_⟩
                subst hK
                unfold wpQuiet
                generalize hK : wpQuiet Try.prog _ _ _ _ = K
                rw [if_pos (by go_simp)]
                refine quiet_ixI _ _ rfl rfl rfl hjm ?_
                go_simp
                subst hK
                unfold wpQuiet
                generalize hK : wpQuiet Try.prog _ _ _ _ = K
                rw [if_pos (by go_simp)]
                refine quiet_load3 _ _ _ rfl rfl HCX.out ?_
                go_simp
                subst hK
                unfold wpQuiet
                generalize hK : wpQuiet Try.prog _ _ _ _ = K
                go_simp
                refine ⟨_, fun _ _ => rfl, ?_⟩
                subst hK
                unfold wpQuiet
                generalize hK : wpQuiet Try.prog _ _ _ _ = K
                go_simp
                refine ⟨_, fun _ _ => rfl, ?_⟩
                subst hK
                unfold wpQuiet
                generalize hK : wpQuiet Try.prog _ _ _ _ = K
                rw [if_pos (by go_simp)]
                refine quiet_ixP _ _ rfl rfl rfl hcb ?_
                go_simp
                subst hK
                unfold wpQuiet
                generalize hK : wpQuiet Try.prog _ _ _ _ = K
                rw [if_pos (by go_simp)]
                refine quiet_loadLI _ _ _ rfl rfl HCV6.out ?_
                go_simp
                subst hK
                unfold wpQuiet
                generalize hK : wpQuiet Try.prog _ _ _ _ = K
                go_simp
                refine ⟨_, fun _ _ => rfl, ?_⟩
                subst hK
                unfold wpQuiet
                generalize hK : wpQuiet Try.prog _ _ _ _ = K
                rw [if_pos (by go_simp)]
                refine quiet_ixI _ _ rfl rfl rfl hjl ?_
                go_simp
                subst hK
                unfold wpQuiet
                generalize hK : wpQuiet Try.prog _ _ _ _ = K
                rw [if_pos (by go_simp)]
                refine quiet_load3 _ _ _ rfl rfl HCY.out ?_
                go_simp
                subst hK
                unfold wpQuiet
                generalize hK : wpQuiet Try.prog _ _ _ _ = K
                go_simp
                refine ⟨_, fun _ _ => rfl, ?_⟩
                subst hK
                refine wpQuiet_nil ?_
                intro W6 hb6
                have HB6 := Hid.intro' (below_class HB5.out (below_class HBJ.out hb6))
                clear hb6 HCU6 HCV6 HCX HCY
                go_wp2
                go_ret
                exact ⟨ret_bool HNO.out.symm, HB6.out⟩
            · have hjz : ¬ (j : Int) < (l.length : Int) := by omega
              have HOK2 : Hid (∀ d, d < c + 1 → okc k d (b[d]?.getD []) (p[d]?.getD []) = true) := fun d hd => by
                by_cases e : d = c
                · subst e
                  rw [HL.out, HM.out]
                  show okc k d l m = true
                  unfold okc
                  have h1 := HEQ.out
                  rw [show j = l.length by omega, List.take_of_length_le (l := l) (Nat.le_refl _)] at h1
                  have h2 := HLM.out
                  have h3 := HWH.out
                  rw [decide_eq_true h1, decide_eq_true h2, Bool.and_true, Bool.and_true, Bool.or_eq_true, decide_eq_true_eq, decide_eq_true_eq]
                  rcases h3 with h3 | h3
                  · exact .inl (by omega)
                  · exact .inr h3
                · exact HOK.out d (by omega)
              have HB6 := Hid.intro' (below_class HB5.out HBJ.out)
              go_wp2
              go_roundw
              case rel => exact ⟨c + 1, by omega, by go_num, HB6, HOK2⟩
              case measure => simp [intOf]; omega
        · have z3 : ((m.length : Int) != (l.length : Int)) = true := by simp; omega
          have z4 : (m.length != l.length) = true := by simp [hme]
          have HKO : Hid (okc k c l m = false) := hgo.resolve_left (fun h => by omega)
          clear hck2 hme hgo
          refine wp_region_quiet (C := fun w' => Below wr.heap.size wr w') (by kernel_rfl) (by kernel_rfl) ((Below.refl _ _).drew) ?_
          simp only []
          unfold wpQuiet
          generalize hK : wpQuiet Try.prog _ _ _ _ = K
          go_simp
          refine ⟨_, fun _ _ => rfl, ?_⟩
          subst hK
          unfold wpQuiet
          generalize hK : wpQuiet Try.prog _ _ _ _ = K
          go_simp
          refine ⟨_, fun _ _ => rfl, ?_⟩
          subst hK
          unfold wpQuiet
          generalize hK : wpQuiet Try.prog _ _ _ _ = K
          go_simp
          refine ⟨_, fun _ _ => rfl, ?_⟩
          subst hK
          unfold wpQuiet
          generalize hK : wpQuiet Try.prog _ _ _ _ = K
          go_simp
          refine ⟨_, fun _ _ => rfl, ?_⟩
          subst hK
          unfold wpQuiet
          generalize hK : wpQuiet Try.prog _ _ _ _ = K
          go_simp
          refine ⟨_, fun _ _ => rfl, ?_⟩
          subst hK
          unfold wpQuiet
          generalize hK : wpQuiet Try.prog _ _ _ _ = K
          go_simp
          refine ⟨_, fun _ _ => rfl, ?_⟩
          subst hK
          unfold wpQuiet
          generalize hK : wpQuiet Try.prog _ _ _ _ = K
          rw [if_pos (by go_simp)]
          refine quiet_ixP _ _ rfl rfl rfl hcp ?_
          go_simp
          subst hK
          unfold wpQuiet
          generalize hK : wpQuiet Try.prog _ _ _ _ = K
          rw [if_pos (by go_simp)]
          refine quiet_loadLI _ _ _ rfl rfl HCU.out ?_
          go_simp
          subst hK
          unfold wpQuiet
          generalize hK : wpQuiet Try.prog _ _ _ _ = K
          go_simp
          refine ⟨_, fun _ _ => rfl, ?_⟩
          subst hK
          unfold wpQuiet
          generalize hK : wpQuiet Try.prog _ _ _ _ = K
          go_simp
          refine ⟨_, fun _ _ => rfl, ?_⟩
          subst hK
          unfold wpQuiet
          generalize hK : wpQuiet Try.prog _ _ _ _ = K
          go_simp
          refine ⟨_, fun _ _ => rfl, ?_⟩
          subst hK
          unfold wpQuiet
          generalize hK : wpQuiet Try.prog _ _ _ _ = K
          rw [if_pos (by go_simp)]
          refine quiet_ixP _ _ rfl rfl rfl hcb ?_
          go_simp
          subst hK
          unfold wpQuiet
          generalize hK : wpQuiet Try.prog _ _ _ _ = K
          rw [if_pos (by go_simp)]
          refine quiet_loadLI _ _ _ rfl rfl HCV.out ?_
          go_simp
          subst hK
          unfold wpQuiet
          generalize hK : wpQuiet Try.prog _ _ _ _ = K
          go_simp
          refine ⟨_, fun _ _ => rfl, ?_⟩
          subst hK
          unfold wpQuiet
          generalize hK : wpQuiet Try.prog _ _ _ _ = K
          go_simp
          refine ⟨_, fun _ _ => rfl, ?_⟩
          subst hK
          unfold wpQuiet
          generalize hK : wpQuiet Try.prog _ _ _ _ = K
          go_simp
          refine ⟨_, fun _ _ => rfl, ?_⟩
          subst hK
          unfold wpQuiet
          generalize hK : wpQuiet Try.prog _ _ _ _ = K
          go_simp
          refine ⟨_, fun _ _ => rfl, ?_⟩
          subst hK
          unfold wpQuiet
          generalize hK : wpQuiet Try.prog _ _ _ _ = K
          go_simp
          subst hK
          unfold wpQuiet
          generalize hK : wpQuiet Try.prog _ _ _ _ = K
          go_simp
          subst hK
          unfold wpQuiet
          generalize hK : wpQuiet Try.prog _ _ _ _ = K
          go_simp
          subst hK
          unfold wpQuiet
          generalize hK : wpQuiet Try.prog _ _ _ _ = K
          go_simp
          subst hK
          unfold wpQuiet
          generalize hK : wpQuiet Try.prog _ _ _ _ = K
          go_simp
          subst hK
          unfold wpQuiet
          generalize hK : wpQuiet Try.prog _ _ _ _ = K
          go_simp
          subst hK
          unfold wpQuiet
          generalize hK : wpQuiet Try.prog _ _ _ _ = K
          go_simp
          subst hK
          unfold wpQuiet
          generalize hK : wpQuiet Try.prog _ _ _ _ = K
          go_simp
          subst hK
          unfold wpQuiet
          generalize hK : wpQuiet Try.prog _ _ _ _ = K
          go_simp
          subst hK
          unfold wpQuiet
          generalize hK : wpQuiet Try.prog _ _ _ _ = K
          go_simp
          subst hK
          unfold wpQuiet
          generalize hK : wpQuiet Try.prog _ _ _ _ = K
          go_simp
          subst hK
          unfold wpQuiet
          generalize hK : wpQuiet Try.prog _ _ _ _ = K
          go_simp
          refine ⟨_, fun _ _ => rfl, ?_⟩
          subst hK
          refine wpQuiet_nil ?_
          intro W5 hb5
          have HNO := Hid.intro' (bgs_no hlt HL.out HM.out HKO.out)
          have HB5 := Hid.intro' (below_class HBC.out hb5)
          clear hb5
          go_wp2
          go_ret
          exact ⟨ret_bool HNO.out.symm, HB5.out⟩
      · have z1 : decide (c < k) = false := decide_eq_false hck2
        have z2 : decide ((c : Int) < (k : Int)) = false := decide_eq_false (by omega)
        by_cases hle : l.length ≤ m.length
        · have z5 : decide (m.length < l.length) = false := decide_eq_false (by omega)
          have z6 : decide ((m.length : Int) < (l.length : Int)) = false := decide_eq_false (by omega)
          have HLM := Hid.intro' hle
          have HWH := Hid.intro' (show c = k ∨ m.length = l.length from .inl (by omega))
          clear hck2 hle hgo
          refine wp_region_quiet (C := fun w' => Below wr.heap.size wr w') (by kernel_rfl) (by kernel_rfl) ((Below.refl _ _).drew) ?_
          simp only []
          unfold wpQuiet
          generalize hK : wpQuiet Try.prog _ _ _ _ = K
          go_simp
          refine ⟨_, fun _ _ => rfl, ?_⟩
          subst hK
          unfold wpQuiet
          generalize hK : wpQuiet Try.prog _ _ _ _ = K
          go_simp
          refine ⟨_, fun _ _ => rfl, ?_⟩
          subst hK
          unfold wpQuiet
          generalize hK : wpQuiet Try.prog _ _ _ _ = K
          go_simp
          refine ⟨_, fun _ _ => rfl, ?_⟩
          subst hK
          unfold wpQuiet
          generalize hK : wpQuiet Try.prog _ _ _ _ = K
          go_simp
          refine ⟨_, fun _ _ => rfl, ?_⟩
          subst hK
          unfold wpQuiet
          generalize hK : wpQuiet Try.prog _ _ _ _ = K
          go_simp
          subst hK
          unfold wpQuiet
          generalize hK : wpQuiet Try.prog _ _ _ _ = K
          go_simp
          subst hK
          unfold wpQuiet
          generalize hK : wpQuiet Try.prog _ _ _ _ = K
          go_simp
          subst hK
          unfold wpQuiet
          generalize hK : wpQuiet Try.prog _ _ _ _ = K
          go_simp
          subst hK
          unfold wpQuiet
          generalize hK : wpQuiet Try.prog _ _ _ _ = K
          go_simp
          subst hK
          unfold wpQuiet
          generalize hK : wpQuiet Try.prog _ _ _ _ = K
          go_simp
          subst hK
          unfold wpQuiet
          generalize hK : wpQuiet Try.prog _ _ _ _ = K
          go_simp
          subst hK
          unfold wpQuiet
          generalize hK : wpQuiet Try.prog _ _ _ _ = K
          go_simp
          subst hK
          unfold wpQuiet
          generalize hK : wpQuiet Try.prog _ _ _ _ = K
          go_simp
          subst hK
          unfold wpQuiet
          generalize hK : wpQuiet Try.prog _ _ _ _ = K
          go_simp
          subst hK
          unfold wpQuiet
          generalize hK : wpQuiet Try.prog _ _ _ _ = K
          go_simp
          subst hK
          unfold wpQuiet
          generalize hK : wpQuiet Try.prog _ _ _ _ = K
          go_simp
          refine ⟨_, fun _ _ => rfl, ?_⟩
          subst hK
          unfold wpQuiet
          generalize hK : wpQuiet Try.prog _ _ _ _ = K
          go_simp
          refine ⟨_, fun _ _ => rfl, ?_⟩
          subst hK
          unfold wpQuiet
          generalize hK : wpQuiet Try.prog _ _ _ _ = K
          go_simp
          refine ⟨_, fun _ _ => rfl, ?_⟩
          subst hK
          unfold wpQuiet
          generalize hK : wpQuiet Try.prog _ _ _ _ = K
          go_simp
          refine ⟨_, fun _ _ => rfl, ?_⟩
          subst hK
          unfold wpQuiet
          generalize hK : wpQuiet Try.prog _ _ _ _ = K
          rw [if_pos (by go_simp)]
          refine quiet_ixP _ _ rfl rfl rfl hcp ?_
          go_simp
          subst hK
          unfold wpQuiet
          generalize hK : wpQuiet Try.prog _ _ _ _ = K
          rw [if_pos (by go_simp)]
          refine quiet_loadLI _ _ _ rfl rfl HCU.out ?_
          go_simp
          subst hK
          unfold wpQuiet
          generalize hK : wpQuiet Try.prog _ _ _ _ = K
          go_simp
          refine ⟨_, fun _ _ => rfl, ?_⟩
          subst hK
          unfold wpQuiet
          generalize hK : wpQuiet Try.prog _ _ _ _ = K
          go_simp
          refine ⟨_, fun _ _ => rfl, ?_⟩
          subst hK
          unfold wpQuiet
          generalize hK : wpQuiet Try.prog _ _ _ _ = K
          go_simp
          refine ⟨_, fun _ _ => rfl, ?_⟩
          subst hK
          unfold wpQuiet
          generalize hK : wpQuiet Try.prog _ _ _ _ = K
          rw [if_pos (by go_simp)]
          refine quiet_ixP _ _ rfl rfl rfl hcb ?_
          go_simp
          subst hK
          unfold wpQuiet
          generalize hK : wpQuiet Try.prog _ _ _ _ = K
          rw [if_pos (by go_simp)]
          refine quiet_loadLI _ _ _ rfl rfl HCV.out ?_
          go_simp
          subst hK
          unfold wpQuiet
          generalize hK : wpQuiet Try.prog _ _ _ _ = K
          go_simp
          refine ⟨_, fun _ _ => rfl, ?_⟩
          subst hK
          unfold wpQuiet
          generalize hK : wpQuiet Try.prog _ _ _ _ = K
          go_simp
          refine ⟨_, fun _ _ => rfl, ?_⟩
          subst hK
          unfold wpQuiet
          generalize hK : wpQuiet Try.prog _ _ _ _ = K
          go_simp
          refine ⟨_, fun _ _ => rfl, ?_⟩
          subst hK
          refine wpQuiet_nil ?_
          intro W5 hb5
          have HB5 := Hid.intro' (below_class HBC.out hb5)
          have HRU5 := Hid.intro' (HRU.out.below' hb5)
          have HRV5 := Hid.intro' (HRV.out.below' hb5)
          have HCU5 : Hid (∀ w', Below W5.heap.size W5 w' → w'.cell? ⟨gp, op + c, none⟩ = some (.slice au m.length ku)) := fun w' hw => HCU.out w' (below_class hb5 hw)
          have HCV5 : Hid (∀ w', Below W5.heap.size W5 w' → w'.cell? ⟨gb, ob + c, none⟩ = some (.slice av l.length kv)) := fun w' hw => HCV.out w' (below_class hb5 hw)
          have hcbz : (c : Int) < (b.length : Int) := by omega
          clear hb5 HRU HRV HCU HCV
          go_wp2_with fail
          go_loopw [8] (fun iv wr => ∃ j : Nat, j ≤ l.length ∧ iv = .int .i64 (j : Int) ∧ Hid (Below W5.heap.size W5 wr) ∧ Hid (m.take j = l.take j)) (fun iv _ => l.length - (intOf iv).toNat)
          case atStart => exact ⟨0, Nat.zero_le _, rfl, Below.refl _ _, rfl⟩
          case round =>
            obtain ⟨j, hj, rfl, HBJ, HEQ⟩ := hrel
            have hcv := HCV5.out _ HBJ.out
            by_cases hjl : j < l.length
            · have hjz : (j : Int) < (l.length : Int) := by omega
              have hjm : j < m.length := by have := HLM.out; omega
              obtain ⟨x, hx⟩ : ∃ x, m[j]? = some x := ⟨_, List.getElem?_eq_getElem hjm⟩
              obtain ⟨y, hy⟩ : ∃ y, l[j]? = some y := ⟨_, List.getElem?_eq_getElem hjl⟩
              obtain ⟨gu, ou, rfl, hcx⟩ := (HRU5.out.below' HBJ.out).at hx
              obtain ⟨gv, ov, rfl, hcy⟩ := (HRV5.out.below' HBJ.out).at hy
              have HX := Hid.intro' hx
              have HY := Hid.intro' hy
              have HCU6 : Hid (∀ w', Below wr.heap.size wr w' → w'.cell? ⟨gp, op + c, none⟩ = some (.slice (some ⟨gu, ou, none⟩) m.length ku)) := fun w' hw => HCU5.out w' (below_class HBJ.out hw)
              have HCV6 : Hid (∀ w', Below wr.heap.size wr w' → w'.cell? ⟨gb, ob + c, none⟩ = some (.slice (some ⟨gv, ov, none⟩) l.length kv)) := fun w' hw => HCV5.out w' (below_class HBJ.out hw)
              have HCX : Hid (∀ w', Below wr.heap.size wr w' → w'.cell? ⟨gu, ou + j, none⟩ = some (.int .i64 x)) := fun w' hw => (hw.cell (p := ⟨gu, ou + j, none⟩) (cell_lt hcx)).trans hcx
              have HCY : Hid (∀ w', Below wr.heap.size wr w' → w'.cell? ⟨gv, ov + j, none⟩ = some (.int .i64 y)) := fun w' hw => (hw.cell (p := ⟨gv, ov + j, none⟩) (cell_lt hcy)).trans hcy
              clear hx hy hcx hcy
              go_wp2_with fail
              clear hcv
              by_cases hxy : x = y
              · have q1 : (x != y) = false := by simp [hxy]
                have HEQ2 : Hid (m.take (j + 1) = l.take (j + 1)) := by
                  show _ = _
                  rw [take_snoc HX.out, take_snoc HY.out, HEQ.out, hxy]
                clear hxy
                refine wp_region_quiet (C := fun w' => Below wr.heap.size wr w') (by kernel_rfl) (by kernel_rfl) ((Below.refl _ _).drew) ?_
                simp only []
                unfold wpQuiet
                generalize hK : wpQuiet Try.prog _ _ _ _ = K
                go_simp
                refine ⟨_, fun _ _ => rfl, ?_⟩
                subst hK
                unfold wpQuiet
                generalize hK : wpQuiet Try.prog _ _ _ _ = K
                go_simp
                refine ⟨_, fun _ _ => rfl, ?_⟩
                subst hK
                unfold wpQuiet
                generalize hK : wpQuiet Try.prog _ _ _ _ = K
                rw [if_pos (by go_simp)]
                refine quiet_ixP _ _ rfl rfl rfl hcp ?_
                go_simp
                subst hK
                unfold wpQuiet
                generalize hK : wpQuiet Try.prog _ _ _ _ = K
                rw [if_pos (by go_simp)]
                refine quiet_loadLI _ _ _ rfl rfl HCU6.out ?_
                go_simp
                subst hK
                unfold wpQuiet
                generalize hK : wpQuiet Try.prog _ _ _ _ = K
                go_simp
                refine ⟨_, fun _ _ => rfl, ?_⟩
                subst hK
                unfold wpQuiet
                generalize hK : wpQuiet Try.prog _ _ _ _ = K
                rw [if_pos (by go_simp)]
                refine quiet_ixI _ _ rfl rfl rfl hjm ?_
                go_simp
                subst hK
                unfold wpQuiet
                generalize hK : wpQuiet Try.prog _ _ _ _ = K
                rw [if_pos (by go_simp)]
                refine quiet_load3 _ _ _ rfl rfl HCX.out ?_
                go_simp
                subst hK
                unfold wpQuiet
                generalize hK : wpQuiet Try.prog _ _ _ _ = K
                go_simp
                refine ⟨_, fun _ _ => rfl, ?_⟩
                subst hK
                unfold wpQuiet
                generalize hK : wpQuiet Try.prog _ _ _ _ = K
                go_simp
                refine ⟨_, fun _ _ => rfl, ?_⟩
                subst hK
                unfold wpQuiet
                generalize hK : wpQuiet Try.prog _ _ _ _ = K
                rw [if_pos (by go_simp)]
                refine quiet_ixP _ _ rfl rfl rfl hcb ?_
                go_simp
                subst hK
                unfold wpQuiet
                generalize hK : wpQuiet Try.prog _ _ _ _ = K
                rw [if_pos (by go_simp)]
                refine quiet_loadLI _ _ _ rfl rfl HCV6.out ?_
                go_simp
                subst hK
                unfold wpQuiet
                generalize hK : wpQuiet Try.prog _ _ _ _ = K
                go_simp
                refine ⟨_, fun _ _ => rfl, ?_⟩
                subst hK
                unfold wpQuiet
                generalize hK : wpQuiet Try.prog _ _ _ _ = K
                rw [if_pos (by go_simp)]
                refine quiet_ixI _ _ rfl rfl rfl hjl ?_
                go_simp
                subst hK
                unfold wpQuiet
                generalize hK : wpQuiet Try.prog _ _ _ _ = K
                rw [if_pos (by go_simp)]
                refine quiet_load3 _ _ _ rfl rfl HCY.out ?_
                go_simp
                subst hK
                unfold wpQuiet
                generalize hK : wpQuiet Try.prog _ _ _ _ = K
                go_simp
                refine ⟨_, fun _ _ => rfl, ?_⟩
                subst hK
                refine wpQuiet_nil ?_
                intro W6 hb6
                have HB6 := Hid.intro' (below_class HBJ.out hb6)
                clear hb6 HCU6 HCV6 HCX HCY
                go_wp2
                go_roundw
                case rel => exact ⟨j + 1, by omega, by go_num, HB6, HEQ2⟩
                case measure => simp [intOf]; omega
              · have q1 : (x != y) = true := by simp [hxy]
                have HKO : Hid (okc k c l m = false) := by
                  show _ = _
                  unfold okc
                  rw [decide_eq_false (show ¬ m.take l.length = l from fun e => ?_)]
                  · simp
                  · have h1 := HY.out
                    rw [← e, List.getElem?_take, if_pos hjl, HX.out] at h1
                    cases h1
                    exact hxy rfl
                have HNO := Hid.intro' (bgs_no hlt HL.out HM.out HKO.out)
                clear hxy
                refine wp_region_quiet (C := fun w' => Below wr.heap.size wr w') (by kernel_rfl) (by kernel_rfl) ((Below.refl _ _).drew) ?_
                simp only []
                unfold wpQuiet
                generalize hK : wpQuiet Try.prog _ _ _ _ = K
                go_simp
                refine ⟨_, fun _ _ => rfl, ?_⟩
                subst hK
                unfold wpQuiet
                generalize hK : wpQuiet Try.prog _ _ _ _ = K
                go_simp
                refine ⟨_, fun _ _ => rfl, ?_⟩
                subst hK
                unfold wpQuiet
                generalize hK : wpQuiet Try.prog _ _ _ _ = K
                rw [if_pos (by go_simp)]
                refine quiet_ixP _ _ rfl rfl rfl hcp ?_
                go_simp
                subst hK
                unfold wpQuiet
                generalize hK : wpQuiet Try.prog _ _ _ _ = K
                rw [if_pos (by go_simp)]
                refine quiet_loadLI _ _ _ rfl rfl HCU6.out ?_
                go_simp
                subst hK
                unfold wpQuiet
                generalize hK : wpQuiet Try.prog _ _ _ _ = K
                go_simp
                refine ⟨_, fun _ _ => rfl, ?_⟩
                subst hK
                unfold wpQuiet
                generalize hK : wpQuiet Try.prog _ _ _ _ = K
                rw [if_pos (by go_simp)]
                refine quiet_ixI _ _ rfl rfl rfl hjm ?_
                go_simp
                subst hK
                unfold wpQuiet
                generalize hK : wpQuiet Try.prog _ _ _ _ = K
                rw [if_pos (by go_simp)]
                refine quiet_load3 _ _ _ rfl rfl HCX.out ?_
                go_simp
                subst hK
                unfold wpQuiet
                generalize hK : wpQuiet Try.prog _ _ _ _ = K
                go_simp
                refine ⟨_, fun _ _ => rfl, ?_⟩
                subst hK
                unfold wpQuiet
                generalize hK : wpQuiet Try.prog _ _ _ _ = K
                go_simp
                refine ⟨_, fun _ _ => rfl, ?_⟩
                subst hK
                unfold wpQuiet
                generalize hK : wpQuiet Try.prog _ _ _ _ = K
                rw [if_pos (by go_simp)]
                refine quiet_ixP _ _ rfl rfl rfl hcb ?_
                go_simp
                subst hK
                unfold wpQuiet
                generalize hK : wpQuiet Try.prog _ _ _ _ = K
                rw [if_pos (by go_simp)]
                refine quiet_loadLI _ _ _ rfl rfl HCV6.out ?_
                go_simp
                subst hK
                unfold wpQuiet
                generalize hK : wpQuiet Try.prog _ _ _ _ = K
                go_simp
                refine ⟨_, fun _ _ => rfl, ?_⟩
                subst hK
                unfold wpQuiet
                generalize hK : wpQuiet Try.prog _ _ _ _ = K
                rw [if_pos (by go_simp)]
                refine quiet_ixI _ _ rfl rfl rfl hjl ?_
                go_simp
                subst hK
                unfold wpQuiet
                generalize hK : wpQuiet Try.prog _ _ _ _ = K
                rw [if_pos (by go_simp)]
                refine quiet_load3 _ _ _ rfl rfl HCY.out ?_
                go_simp
                subst hK
                unfold wpQuiet
                generalize hK : wpQuiet Try.prog _ _ _ _ = K
                go_simp
                refine ⟨_, fun _ _ => rfl, ?_⟩
                subst hK
                refine wpQuiet_nil ?_
                intro W6 hb6
                have HB6 := Hid.intro' (below_class HB5.out (below_class HBJ.out hb6))
                clear hb6 HCU6 HCV6 HCX HCY
                go_wp2
                go_ret
                exact ⟨ret_bool HNO.out.symm, HB6.out⟩
            · have hjz : ¬ (j : Int) < (l.length : Int) := by omega
              have HOK2 : Hid (∀ d, d < c + 1 → okc k d (b[d]?.getD []) (p[d]?.getD []) = true) := fun d hd => by
                by_cases e : d = c
                · subst e
                  rw [HL.out, HM.out]
                  show okc k d l m = true
                  unfold okc
                  have h1 := HEQ.out
                  rw [show j = l.length by omega, List.take_of_length_le (l := l) (Nat.le_refl _)] at h1
                  have h2 := HLM.out
                  have h3 := HWH.out
                  rw [decide_eq_true h1, decide_eq_true h2, Bool.and_true, Bool.and_true, Bool.or_eq_true, decide_eq_true_eq, decide_eq_true_eq]
                  rcases h3 with h3 | h3
                  · exact .inl (by omega)
                  · exact .inr h3
                · exact HOK.out d (by omega)
              have HB6 := Hid.intro' (below_class HB5.out HBJ.out)
              go_wp2
              go_roundw
              case rel => exact ⟨c + 1, by omega, by go_num, HB6, HOK2⟩
              case measure => simp [intOf]; omega
        · have z5 : decide (m.length < l.length) = true := decide_eq_true (by omega)
          have z6 : decide ((m.length : Int) < (l.length : Int)) = true := decide_eq_true (by omega)
          have HKO : Hid (okc k c l m = false) := hgo.resolve_left (fun h => hle h.2)
          clear hck2 hle hgo
          refine wp_region_quiet (C := fun w' => Below wr.heap.size wr w') (by kernel_rfl) (by kernel_rfl) ((Below.refl _ _).drew) ?_
          simp only []
          unfold wpQuiet
          generalize hK : wpQuiet Try.prog _ _ _ _ = K
          go_simp
          refine ⟨_, fun _ _ => rfl, ?_⟩
          subst hK
          unfold wpQuiet
          generalize hK : wpQuiet Try.prog _ _ _ _ = K
          go_simp
          refine ⟨_, fun _ _ => rfl, ?_⟩
          subst hK
          unfold wpQuiet
          generalize hK : wpQuiet Try.prog _ _ _ _ = K
          go_simp
          refine ⟨_, fun _ _ => rfl, ?_⟩
          subst hK
          unfold wpQuiet
          generalize hK : wpQuiet Try.prog _ _ _ _ = K
          go_simp
          refine ⟨_, fun _ _ => rfl, ?_⟩
          subst hK
          unfold wpQuiet
          generalize hK : wpQuiet Try.prog _ _ _ _ = K
          go_simp
          subst hK
          unfold wpQuiet
          generalize hK : wpQuiet Try.prog _ _ _ _ = K
          go_simp
          subst hK
          unfold wpQuiet
          generalize hK : wpQuiet Try.prog _ _ _ _ = K
          go_simp
          subst hK
          unfold wpQuiet
          generalize hK : wpQuiet Try.prog _ _ _ _ = K
          go_simp
          subst hK
          unfold wpQuiet
          generalize hK : wpQuiet Try.prog _ _ _ _ = K
          go_simp
          subst hK
          unfold wpQuiet
          generalize hK : wpQuiet Try.prog _ _ _ _ = K
          go_simp
          subst hK
          unfold wpQuiet
          generalize hK : wpQuiet Try.prog _ _ _ _ = K
          go_simp
          subst hK
          unfold wpQuiet
          generalize hK : wpQuiet Try.prog _ _ _ _ = K
          go_simp
          subst hK
          unfold wpQuiet
          generalize hK : wpQuiet Try.prog _ _ _ _ = K
          go_simp
          subst hK
          unfold wpQuiet
          generalize hK : wpQuiet Try.prog _ _ _ _ = K
          go_simp
          subst hK
          unfold wpQuiet
          generalize hK : wpQuiet Try.prog _ _ _ _ = K
          go_simp
          subst hK
          unfold wpQuiet
          generalize hK : wpQuiet Try.prog _ _ _ _ = K
          go_simp
          refine ⟨_, fun _ _ => rfl, ?_⟩
          subst hK
          unfold wpQuiet
          generalize hK : wpQuiet Try.prog _ _ _ _ = K
          go_simp
          refine ⟨_, fun _ _ => rfl, ?_⟩
          subst hK
          unfold wpQuiet
          generalize hK : wpQuiet Try.prog _ _ _ _ = K
          go_simp
          refine ⟨_, fun _ _ => rfl, ?_⟩
          subst hK
          unfold wpQuiet
          generalize hK : wpQuiet Try.prog _ _ _ _ = K
          go_simp
          refine ⟨_, fun _ _ => rfl, ?_⟩
          subst hK
          unfold wpQuiet
          generalize hK : wpQuiet Try.prog _ _ _ _ = K
          rw [if_pos (by go_simp)]
          refine quiet_ixP _ _ rfl rfl rfl hcp ?_
          go_simp
          subst hK
          unfold wpQuiet
          generalize hK : wpQuiet Try.prog _ _ _ _ = K
          rw [if_pos (by go_simp)]
          refine quiet_loadLI _ _ _ rfl rfl HCU.out ?_
          go_simp
          subst hK
          unfold wpQuiet
          generalize hK : wpQuiet Try.prog _ _ _ _ = K
          go_simp
          refine ⟨_, fun _ _ => rfl, ?_⟩
          subst hK
          unfold wpQuiet
          generalize hK : wpQuiet Try.prog _ _ _ _ = K
          go_simp
          refine ⟨_, fun _ _ => rfl, ?_⟩
          subst hK
          unfold wpQuiet
          generalize hK : wpQuiet Try.prog _ _ _ _ = K
          go_simp
          refine ⟨_, fun _ _ => rfl, ?_⟩
          subst hK
          unfold wpQuiet
          generalize hK : wpQuiet Try.prog _ _ _ _ = K
          rw [if_pos (by go_simp)]
          refine quiet_ixP _ _ rfl rfl rfl hcb ?_
          go_simp
          subst hK
          unfold wpQuiet
          generalize hK : wpQuiet Try.prog _ _ _ _ = K
          rw [if_pos (by go_simp)]
          refine quiet_loadLI _ _ _ rfl rfl HCV.out ?_
          go_simp
          subst hK
          unfold wpQuiet
          generalize hK : wpQuiet Try.prog _ _ _ _ = K
          go_simp
          refine ⟨_, fun _ _ => rfl, ?_⟩
          subst hK
          unfold wpQuiet
          generalize hK : wpQuiet Try.prog _ _ _ _ = K
          go_simp
          refine ⟨_, fun _ _ => rfl, ?_⟩
          subst hK
          unfold wpQuiet
          generalize hK : wpQuiet Try.prog _ _ _ _ = K
          go_simp
          refine ⟨_, fun _ _ => rfl, ?_⟩
          subst hK
          refine wpQuiet_nil ?_
          intro W5 hb5
          have HNO := Hid.intro' (bgs_no hlt HL.out HM.out HKO.out)
          have HB5 := Hid.intro' (below_class HBC.out hb5)
          clear hb5
          go_wp2
          go_ret
          exact ⟨ret_bool HNO.out.symm, HB5.out⟩
    · have hcz : ¬ (c : Int) ≤ (k : Int) := by omega
      have HE : Hid (bgs p (k : Int) b = true) := by
        show _ = _
        unfold bgs
        rw [Int.toNat_natCast]
        simp only [Bool.and_eq_true, decide_eq_true_eq, List.all_eq_true, List.mem_range]
        have h1 := HKP.out; have h2 := HKB.out
        exact ⟨⟨⟨by omega, by omega⟩, by omega⟩, fun d hd => HOK.out d (by omega)⟩
      go_wp2
      go_ret
      exact ⟨ret_bool HE.out.symm, HBC.out⟩

end Go.Proofs.Ytkcppidmbojglag
