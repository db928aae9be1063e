/- Whether a plan begins so, as the program tells it. -/
import Derived.Test.YtkcppidmbojglagBdI
namespace Go.Proofs.Ytkcppidmbojglag
open Go.RowKit

theorem bgs_eq {p b : List (List Int)} {k : Nat} {l m : List Int} (hp : p[k]? = some m) (hb : b[k]? = some l) : bgs p (k : Int) b = (decide (p.take k = b.take k) && decide (l.length ≤ m.length) && decide (m.take l.length = l)) := by
  have hpk := (List.getElem?_eq_some_iff.1 hp).1
  have hbk := (List.getElem?_eq_some_iff.1 hb).1
  unfold bgs
  rw [Bool.eq_iff_iff]
  simp only [Bool.and_eq_true, decide_eq_true_eq, List.all_eq_true, List.mem_range, Int.toNat_natCast, okc, Bool.or_eq_true]
  constructor
  · rintro ⟨_, h⟩
    have h0 := h k (by omega)
    rw [hp, hb, Option.getD_some, Option.getD_some] at h0
    refine ⟨⟨?_, h0.1.2⟩, h0.2⟩
    apply List.ext_getElem?
    intro i
    by_cases hi : i < k
    · rw [List.getElem?_take_of_lt hi, List.getElem?_take_of_lt hi]
      have h1 := h i (by omega)
      obtain ⟨x, hx⟩ : ∃ x, p[i]? = some x := ⟨_, List.getElem?_eq_getElem (by omega)⟩
      obtain ⟨y, hy⟩ : ∃ y, b[i]? = some y := ⟨_, List.getElem?_eq_getElem (by omega)⟩
      rw [hx, hy, Option.getD_some, Option.getD_some] at h1
      have h2 : x.length = y.length := by rcases h1.1.1 with e | e <;> omega
      rw [hx, hy]
      have h3 := h1.2
      rw [← h2, List.take_length] at h3
      rw [h3]
    · rw [List.getElem?_eq_none (by rw [List.length_take]; omega), List.getElem?_eq_none (by rw [List.length_take]; omega)]
  · rintro ⟨⟨h1, h2⟩, h3⟩
    refine ⟨⟨⟨by omega, by omega⟩, by omega⟩, fun c hc => ?_⟩
    by_cases e : c = k
    · subst e
      rw [hp, hb, Option.getD_some, Option.getD_some]
      exact ⟨⟨.inl (Nat.le_refl _), h2⟩, h3⟩
    · have hck : c < k := by omega
      have h4 : p[c]? = b[c]? := by
        have := congrArg (fun l => l[c]?) h1
        simpa [List.getElem?_take_of_lt hck] using this
      rw [h4]
      refine ⟨⟨.inr rfl, Nat.le_refl _⟩, List.take_length⟩
theorem quiet_cutP {C : World → Prop} {K : Act → Prop} {o : Oper} {a : Act} (x y : Operand) {aa : Option Addr} {n cap j : Nat} (ho : o.op = .slice 29 x none (some y) none) (hx : a.eval x = .slice aa n cap) (hy : a.eval y = .int .i64 (j : Int)) (hj : j ≤ cap)
    (h : K (a.put o.dst (.slice aa j cap))) : o.quiet Try.prog a C K :=
  quiet_val _ (fun w hw => by unfold execOp; simp only [ho, hx, hy, Option.map_none, Option.map_some, Sem.run_bind, Sem.run_pure, Result.andThen_ok, slice_cutP aa n cap j w hj]) h
theorem quiet_cut {C : World → Prop} {K : Act → Prop} {o : Oper} {a : Act} (x y : Operand) {aa : Option Addr} {n cap j : Nat} (ho : o.op = .slice 36 x none (some y) none) (hx : a.eval x = .slice aa n cap) (hy : a.eval y = .int .i64 (j : Int)) (hj : j ≤ cap)
    (h : K (a.put o.dst (.slice aa j cap))) : o.quiet Try.prog a C K :=
  quiet_val _ (fun w hw => by unfold execOp; simp only [ho, hx, hy, Option.map_none, Option.map_some, Sem.run_bind, Sem.run_pure, Result.andThen_ok, slice_cut aa n cap j w hj]) h
set_option maxHeartbeats 4000000 in
theorem begins_any (D : Nat → Prop) (vp vb : Value) (car : Int) (p b : List (List Int)) (w : World) (hp : RL D w vp p) (hb : RL D w vb b) (hpl : p.length ≤ 1000) (hll : ∀ l ∈ p, l.length ≤ 1000) (hbl : b.length ≤ 1000) (hlb : ∀ l ∈ b, l.length ≤ 1000) :
    Calls Try.prog 8 #[vp, .int .i64 car, vb] w fun e w' => e = .returned (.bool (bgs p car b)) ∧ Below w.heap.size w w' := by
  have HP := Hid.intro' hp
  have HB := Hid.intro' hb
  have HLL := Hid.intro' (And.intro hll hlb)
  have HPL := Hid.intro' (And.intro hpl hbl)
  obtain ⟨ap, kp, rfl, hkp, _⟩ := hp.form
  obtain ⟨ab, kb, rfl, hkb, _⟩ := hb.form
  have h1 := hasList_any ap p.length kp car
  have h2 := hasList_any ab b.length kb car
  clear hp hb hll hlb hpl hbl
  by_cases hn : 0 ≤ car ∧ car < (p.length : Int) ∧ car < (b.length : Int)
  · obtain ⟨k, rfl⟩ : ∃ k : Nat, car = (k : Int) := ⟨car.toNat, by omega⟩
    have hkl : k < p.length := by omega
    have hkm : k < b.length := by omega
    obtain ⟨m, hm⟩ : ∃ m, p[k]? = some m := ⟨_, List.getElem?_eq_getElem hkl⟩
    obtain ⟨l, hl⟩ : ∃ l, b[k]? = some l := ⟨_, List.getElem?_eq_getElem hkm⟩
    have HEQ := Hid.intro' (bgs_eq hm hl)
    obtain ⟨gp, op, rfl, u, hcu, hru⟩ := HP.out.at hm
    obtain ⟨gb, ob, rfl, v, hcv, hrv⟩ := HB.out.at hl
    obtain ⟨au, ku, rfl, hku, _⟩ := hru.form
    obtain ⟨av, kv, rfl, _, _⟩ := hrv.form
    have HRU := Hid.intro' hru
    have HRV := Hid.intro' hrv
    have HM := Hid.intro' (And.intro (HLL.out.1 m (List.mem_of_getElem? hm)) (HLL.out.2 l (List.mem_of_getElem? hl)))
    have HCU : Hid (∀ w', Below w.heap.size w w' → w'.cell? ⟨gp, op + k, none⟩ = some (.slice au m.length ku)) := fun w' hw => (hw.cell (p := ⟨gp, op + k, none⟩) (cell_lt hcu)).trans hcu
    have HCV : Hid (∀ w', Below w.heap.size w w' → w'.cell? ⟨gb, ob + k, none⟩ = some (.slice av l.length kv)) := fun w' hw => (hw.cell (p := ⟨gb, ob + k, none⟩) (cell_lt hcv)).trans hcv
    rw [show (decide (0 ≤ (k : Int)) && decide ((k : Int) < (p.length : Int))) = true by simp; omega] at h1
    rw [show (decide (0 ≤ (k : Int)) && decide ((k : Int) < (b.length : Int))) = true by simp; omega] at h2
    have H1 := Hid.intro' h1
    have H2 := Hid.intro' h2
    have HEF : Hid (∀ w', Below w.heap.size w w' → Calls Try.prog 16 #[.slice (some ⟨gp, op, none⟩) k kp, .slice (some ⟨gb, ob, none⟩) k kb, .func (.func 17) #[] #[]] w' fun e w'' => e = .returned (.bool (decide (p.take k = b.take k))) ∧ Below w'.heap.size w' w'') := fun w' hw =>
      equalFunc_any D _ _ _ _ w' ((HP.out.below' hw).cut (by omega)) ((HB.out.below' hw).cut (by omega)) (by rw [List.length_take]; have := HPL.out; omega) (fun x hx => by have := HLL.out.1 x (List.mem_of_mem_take hx); omega)
    have HEI : Hid (l.length ≤ m.length → ∀ w', Below w.heap.size w w' → Calls Try.prog 17 #[.slice au l.length ku, .slice av l.length kv] w' fun e w'' => e = .returned (.bool (decide (m.take l.length = l))) ∧ Below w'.heap.size w' w'') := fun h w' hw =>
      equalI_any D D _ _ _ _ w' ((HRU.out.below' hw).cut h) (HRV.out.below' hw) (by rw [List.length_take]; have := HM.out; omega)
    obtain ⟨R0, HR0⟩ : ∃ R0, Hid ((decide (p.take k = b.take k) && decide (l.length ≤ m.length) && decide (m.take l.length = l)) = R0) := ⟨_, Hid.intro' rfl⟩
    rw [HEQ.out, HR0.out]
    clear hn hm hl hru hrv hcu hcv h1 h2 HEQ
    have hkp2 : k ≤ kp := by omega
    have hkb2 : k ≤ kb := by omega
    go_enter Try.func8, Try.ntmps8
    go_wp2_with fail
    refine (H1.out w).mono ?_
    rintro e w' ⟨rfl, hw'⟩
    rw [hw']
    clear hw'
    go_wp2_with fail
    refine (H2.out w).mono ?_
    rintro e w' ⟨rfl, hw'⟩
    rw [hw']
    clear hw' H1 H2
    go_wp2_with fail
    refine wp_region_quiet (C := fun w' => Below w.heap.size w w') (by kernel_rfl) (by kernel_rfl) ((Below.refl _ _).drew) ?_
    simp only []
    unfold wpQuiet
    generalize hK : wpQuiet Try.prog _ _ _ _ = K
    go_simp
    refine ⟨_, fun _ _ => rfl, ?_⟩
    subst hK
    unfold wpQuiet
    generalize hK : wpQuiet Try.prog _ _ _ _ = K
    go_simp
    refine ⟨_, fun _ _ => rfl, ?_⟩
    subst hK
    unfold wpQuiet
    generalize hK : wpQuiet Try.prog _ _ _ _ = K
    rw [if_pos (by go_simp)]
    refine quiet_ixP _ _ rfl rfl rfl hkl ?_
    go_simp
    subst hK
    unfold wpQuiet
    generalize hK : wpQuiet Try.prog _ _ _ _ = K
    rw [if_pos (by go_simp)]
    refine quiet_loadLI _ _ _ rfl rfl HCU.out ?_
    go_simp
    subst hK
    unfold wpQuiet
    generalize hK : wpQuiet Try.prog _ _ _ _ = K
    go_simp
    refine ⟨_, fun _ _ => rfl, ?_⟩
    subst hK
    unfold wpQuiet
    generalize hK : wpQuiet Try.prog _ _ _ _ = K
    go_simp
    refine ⟨_, fun _ _ => rfl, ?_⟩
    subst hK
    unfold wpQuiet
    generalize hK : wpQuiet Try.prog _ _ _ _ = K
    rw [if_pos (by go_simp)]
    refine quiet_ixP _ _ rfl rfl rfl hkm ?_
    go_simp
    subst hK
    unfold wpQuiet
    generalize hK : wpQuiet Try.prog _ _ _ _ = K
    rw [if_pos (by go_simp)]
    refine quiet_loadLI _ _ _ rfl rfl HCV.out ?_
    go_simp
    subst hK
    unfold wpQuiet
    generalize hK : wpQuiet Try.prog _ _ _ _ = K
    go_simp
    refine ⟨_, fun _ _ => rfl, ?_⟩
    subst hK
    unfold wpQuiet
    generalize hK : wpQuiet Try.prog _ _ _ _ = K
    go_simp
    refine ⟨_, fun _ _ => rfl, ?_⟩
    subst hK
    refine wpQuiet_nil ?_
    intro W2 hb2
    have HB2 := Hid.intro' hb2
    have HF2 : Hid (∀ w', Below W2.heap.size W2 w' → Below w.heap.size w w') := fun w' hw => below_class HB2.out hw
    clear hb2 HCU HCV
    go_wp2_with fail
    cases hE : decide (p.take k = b.take k) with
    | false =>
      have HE2 : Hid (∀ w', Below W2.heap.size W2 w' → Calls Try.prog 16 #[.slice (some ⟨gp, op, none⟩) k kp, .slice (some ⟨gb, ob, none⟩) k kb, .func (.func 17) #[] #[]] w' fun e w'' => e = .returned (.bool false) ∧ Below w'.heap.size w' w'') := fun w' hw => by have := HEF.out w' (HF2.out w' hw); rwa [hE] at this
      have HX : Hid (false = R0) := by show _ = _; rw [← HR0.out, hE]; rfl
      clear hE HR0
      refine wp_region_quiet (C := fun w' => Below W2.heap.size W2 w') (by kernel_rfl) (by kernel_rfl) ((Below.refl _ _).drew) ?_
      simp only []
      unfold wpQuiet
      generalize hK : wpQuiet Try.prog _ _ _ _ = K
      go_simp
      refine ⟨_, fun _ _ => rfl, ?_⟩
      subst hK
      unfold wpQuiet
      generalize hK : wpQuiet Try.prog _ _ _ _ = K
      go_simp
      refine ⟨_, fun _ _ => rfl, ?_⟩
      subst hK
      unfold wpQuiet
      generalize hK : wpQuiet Try.prog _ _ _ _ = K
      rw [if_pos (by go_simp)]
      refine quiet_cutP _ _ rfl rfl rfl hkp2 ?_
      go_simp
      subst hK
      unfold wpQuiet
      generalize hK : wpQuiet Try.prog _ _ _ _ = K
      go_simp
      refine ⟨_, fun _ _ => rfl, ?_⟩
      subst hK
      unfold wpQuiet
      generalize hK : wpQuiet Try.prog _ _ _ _ = K
      go_simp
      refine ⟨_, fun _ _ => rfl, ?_⟩
      subst hK
      unfold wpQuiet
      generalize hK : wpQuiet Try.prog _ _ _ _ = K
      rw [if_pos (by go_simp)]
      refine quiet_cutP _ _ rfl rfl rfl hkb2 ?_
      go_simp
      subst hK
      unfold wpQuiet
      generalize hK : wpQuiet Try.prog _ _ _ _ = K
      go_simp
      refine ⟨_, fun w' hw => (HE2.out w' hw).mono fun e w'' hh => ⟨hh.1, below_class hw hh.2⟩, ?_⟩
      subst hK
      unfold wpQuiet
      generalize hK : wpQuiet Try.prog _ _ _ _ = K
      go_simp
      refine ⟨_, fun _ _ => rfl, ?_⟩
      subst hK
      unfold wpQuiet
      generalize hK : wpQuiet Try.prog _ _ _ _ = K
      go_simp
      subst hK
      unfold wpQuiet
      generalize hK : wpQuiet Try.prog _ _ _ _ = K
      go_simp
      subst hK
      unfold wpQuiet
      generalize hK : wpQuiet Try.prog _ _ _ _ = K
      go_simp
      subst hK
      unfold wpQuiet
      generalize hK : wpQuiet Try.prog _ _ _ _ = K
      go_simp
      subst hK
      unfold wpQuiet
      generalize hK : wpQuiet Try.prog _ _ _ _ = K
      go_simp
      subst hK
      unfold wpQuiet
      generalize hK : wpQuiet Try.prog _ _ _ _ = K
      go_simp
      refine ⟨_, fun _ _ => rfl, ?_⟩
      subst hK
      unfold wpQuiet
      generalize hK : wpQuiet Try.prog _ _ _ _ = K
      go_simp
      refine ⟨_, fun _ _ => rfl, ?_⟩
      subst hK
      unfold wpQuiet
      generalize hK : wpQuiet Try.prog _ _ _ _ = K
      go_simp
      subst hK
      unfold wpQuiet
      generalize hK : wpQuiet Try.prog _ _ _ _ = K
      go_simp
      subst hK
      unfold wpQuiet
      generalize hK : wpQuiet Try.prog _ _ _ _ = K
      go_simp
      subst hK
      unfold wpQuiet
      generalize hK : wpQuiet Try.prog _ _ _ _ = K
      go_simp
      subst hK
      unfold wpQuiet
      generalize hK : wpQuiet Try.prog _ _ _ _ = K
      go_simp
      subst hK
      unfold wpQuiet
      generalize hK : wpQuiet Try.prog _ _ _ _ = K
      go_simp
      subst hK
      unfold wpQuiet
      generalize hK : wpQuiet Try.prog _ _ _ _ = K
      go_simp
      refine ⟨_, fun _ _ => rfl, ?_⟩
      subst hK
      unfold wpQuiet
      generalize hK : wpQuiet Try.prog _ _ _ _ = K
      go_simp
      refine ⟨_, fun _ _ => rfl, ?_⟩
      subst hK
      refine wpQuiet_nil ?_
      intro W3 hb3
      have HB3 := Hid.intro' (below_class HB2.out hb3)
      clear hb3
      go_wp2
      go_ret
      exact ⟨ret_bool HX.out, HB3.out⟩
    | true =>
      have HE2 : Hid (∀ w', Below W2.heap.size W2 w' → Calls Try.prog 16 #[.slice (some ⟨gp, op, none⟩) k kp, .slice (some ⟨gb, ob, none⟩) k kb, .func (.func 17) #[] #[]] w' fun e w'' => e = .returned (.bool true) ∧ Below w'.heap.size w' w'') := fun w' hw => by have := HEF.out w' (HF2.out w' hw); rwa [hE] at this
      have HR3 : Hid ((true && decide (l.length ≤ m.length) && decide (m.take l.length = l)) = R0) := by show _ = _; rw [← HR0.out, hE]
      clear hE HR0
      by_cases hlm : l.length ≤ m.length
      · have g1 : decide ((l.length : Int) ≤ (m.length : Int)) = true := decide_eq_true (by omega)
        have HI2 : Hid (∀ w', Below W2.heap.size W2 w' → Calls Try.prog 17 #[.slice au l.length ku, .slice av l.length kv] w' fun e w'' => e = .returned (.bool (decide (m.take l.length = l))) ∧ Below w'.heap.size w' w'') := fun w' hw => HEI.out hlm w' (HF2.out w' hw)
        have hlk : l.length ≤ ku := by omega
        have HX : Hid (decide (m.take l.length = l) = R0) := by show _ = _; rw [← HR3.out]; simp [hlm]
        clear HR3
        generalize decide (m.take l.length = l) = r at HI2 HX
        refine wp_region_quiet (C := fun w' => Below W2.heap.size W2 w') (by kernel_rfl) (by kernel_rfl) ((Below.refl _ _).drew) ?_
        simp only []
        unfold wpQuiet
        generalize hK : wpQuiet Try.prog _ _ _ _ = K
        go_simp
        refine ⟨_, fun _ _ => rfl, ?_⟩
        subst hK
        unfold wpQuiet
        generalize hK : wpQuiet Try.prog _ _ _ _ = K
        go_simp
        refine ⟨_, fun _ _ => rfl, ?_⟩
        subst hK
        unfold wpQuiet
        generalize hK : wpQuiet Try.prog _ _ _ _ = K
        rw [if_pos (by go_simp)]
        refine quiet_cutP _ _ rfl rfl rfl hkp2 ?_
        go_simp
        subst hK
        unfold wpQuiet
        generalize hK : wpQuiet Try.prog _ _ _ _ = K
        go_simp
        refine ⟨_, fun _ _ => rfl, ?_⟩
        subst hK
        unfold wpQuiet
        generalize hK : wpQuiet Try.prog _ _ _ _ = K
        go_simp
        refine ⟨_, fun _ _ => rfl, ?_⟩
        subst hK
        unfold wpQuiet
        generalize hK : wpQuiet Try.prog _ _ _ _ = K
        rw [if_pos (by go_simp)]
        refine quiet_cutP _ _ rfl rfl rfl hkb2 ?_
        go_simp
        subst hK
        unfold wpQuiet
        generalize hK : wpQuiet Try.prog _ _ _ _ = K
        go_simp
        refine ⟨_, fun w' hw => (HE2.out w' hw).mono fun e w'' hh => ⟨hh.1, below_class hw hh.2⟩, ?_⟩
        subst hK
        unfold wpQuiet
        generalize hK : wpQuiet Try.prog _ _ _ _ = K
        go_simp
        refine ⟨_, fun _ _ => rfl, ?_⟩
        subst hK
        unfold wpQuiet
        generalize hK : wpQuiet Try.prog _ _ _ _ = K
        go_simp
        refine ⟨_, fun _ _ => rfl, ?_⟩
        subst hK
        unfold wpQuiet
        generalize hK : wpQuiet Try.prog _ _ _ _ = K
        go_simp
        refine ⟨_, fun _ _ => rfl, ?_⟩
        subst hK
        unfold wpQuiet
        generalize hK : wpQuiet Try.prog _ _ _ _ = K
        go_simp
        refine ⟨_, fun _ _ => rfl, ?_⟩
        subst hK
        unfold wpQuiet
        generalize hK : wpQuiet Try.prog _ _ _ _ = K
        go_simp
        refine ⟨_, fun _ _ => rfl, ?_⟩
        subst hK
        unfold wpQuiet
        generalize hK : wpQuiet Try.prog _ _ _ _ = K
        go_simp
        refine ⟨_, fun _ _ => rfl, ?_⟩
        subst hK
        unfold wpQuiet
        generalize hK : wpQuiet Try.prog _ _ _ _ = K
        go_simp
        refine ⟨_, fun _ _ => rfl, ?_⟩
        subst hK
        unfold wpQuiet
        generalize hK : wpQuiet Try.prog _ _ _ _ = K
        go_simp
        refine ⟨_, fun _ _ => rfl, ?_⟩
        subst hK
        unfold wpQuiet
        generalize hK : wpQuiet Try.prog _ _ _ _ = K
        go_simp
        refine ⟨_, fun _ _ => rfl, ?_⟩
        subst hK
        unfold wpQuiet
        generalize hK : wpQuiet Try.prog _ _ _ _ = K
        go_simp
        refine ⟨_, fun _ _ => rfl, ?_⟩
        subst hK
        unfold wpQuiet
        generalize hK : wpQuiet Try.prog _ _ _ _ = K
        go_simp
        refine ⟨_, fun _ _ => rfl, ?_⟩
        subst hK
        unfold wpQuiet
        generalize hK : wpQuiet Try.prog _ _ _ _ = K
        rw [if_pos (by go_simp)]
        refine quiet_cut _ _ rfl rfl rfl hlk ?_
        go_simp
        subst hK
        unfold wpQuiet
        generalize hK : wpQuiet Try.prog _ _ _ _ = K
        go_simp
        refine ⟨_, fun _ _ => rfl, ?_⟩
        subst hK
        unfold wpQuiet
        generalize hK : wpQuiet Try.prog _ _ _ _ = K
        go_simp
        refine ⟨_, fun w' hw => (HI2.out w' hw).mono fun e w'' hh => ⟨hh.1, below_class hw hh.2⟩, ?_⟩
        subst hK
        unfold wpQuiet
        generalize hK : wpQuiet Try.prog _ _ _ _ = K
        go_simp
        refine ⟨_, fun _ _ => rfl, ?_⟩
        subst hK
        unfold wpQuiet
        generalize hK : wpQuiet Try.prog _ _ _ _ = K
        go_simp
        refine ⟨_, fun _ _ => rfl, ?_⟩
        subst hK
        refine wpQuiet_nil ?_
        intro W3 hb3
        have HB3 := Hid.intro' (below_class HB2.out hb3)
        clear hb3
        go_wp2
        go_ret
        exact ⟨ret_bool HX.out, HB3.out⟩
      · have g1 : decide ((l.length : Int) ≤ (m.length : Int)) = false := decide_eq_false (by omega)
        have HX : Hid (false = R0) := by show _ = _; rw [← HR3.out]; simp [hlm]
        clear HR3
        refine wp_region_quiet (C := fun w' => Below W2.heap.size W2 w') (by kernel_rfl) (by kernel_rfl) ((Below.refl _ _).drew) ?_
        simp only []
        unfold wpQuiet
        generalize hK : wpQuiet Try.prog _ _ _ _ = K
        go_simp
        refine ⟨_, fun _ _ => rfl, ?_⟩
        subst hK
        unfold wpQuiet
        generalize hK : wpQuiet Try.prog _ _ _ _ = K
        go_simp
        refine ⟨_, fun _ _ => rfl, ?_⟩
        subst hK
        unfold wpQuiet
        generalize hK : wpQuiet Try.prog _ _ _ _ = K
        rw [if_pos (by go_simp)]
        refine quiet_cutP _ _ rfl rfl rfl hkp2 ?_
        go_simp
        subst hK
        unfold wpQuiet
        generalize hK : wpQuiet Try.prog _ _ _ _ = K
        go_simp
        refine ⟨_, fun _ _ => rfl, ?_⟩
        subst hK
        unfold wpQuiet
        generalize hK : wpQuiet Try.prog _ _ _ _ = K
        go_simp
        refine ⟨_, fun _ _ => rfl, ?_⟩
        subst hK
        unfold wpQuiet
        generalize hK : wpQuiet Try.prog _ _ _ _ = K
        rw [if_pos (by go_simp)]
        refine quiet_cutP _ _ rfl rfl rfl hkb2 ?_
        go_simp
        subst hK
        unfold wpQuiet
        generalize hK : wpQuiet Try.prog _ _ _ _ = K
        go_simp
        refine ⟨_, fun w' hw => (HE2.out w' hw).mono fun e w'' hh => ⟨hh.1, below_class hw hh.2⟩, ?_⟩
        subst hK
        unfold wpQuiet
        generalize hK : wpQuiet Try.prog _ _ _ _ = K
        go_simp
        refine ⟨_, fun _ _ => rfl, ?_⟩
        subst hK
        unfold wpQuiet
        generalize hK : wpQuiet Try.prog _ _ _ _ = K
        go_simp
        refine ⟨_, fun _ _ => rfl, ?_⟩
        subst hK
        unfold wpQuiet
        generalize hK : wpQuiet Try.prog _ _ _ _ = K
        go_simp
        refine ⟨_, fun _ _ => rfl, ?_⟩
        subst hK
        unfold wpQuiet
        generalize hK : wpQuiet Try.prog _ _ _ _ = K
        go_simp
        refine ⟨_, fun _ _ => rfl, ?_⟩
        subst hK
        unfold wpQuiet
        generalize hK : wpQuiet Try.prog _ _ _ _ = K
        go_simp
        refine ⟨_, fun _ _ => rfl, ?_⟩
        subst hK
        unfold wpQuiet
        generalize hK : wpQuiet Try.prog _ _ _ _ = K
        go_simp
        refine ⟨_, fun _ _ => rfl, ?_⟩
        subst hK
        unfold wpQuiet
        generalize hK : wpQuiet Try.prog _ _ _ _ = K
        go_simp
        refine ⟨_, fun _ _ => rfl, ?_⟩
        subst hK
        unfold wpQuiet
        generalize hK : wpQuiet Try.prog _ _ _ _ = K
        go_simp
        refine ⟨_, fun _ _ => rfl, ?_⟩
        subst hK
        unfold wpQuiet
        generalize hK : wpQuiet Try.prog _ _ _ _ = K
        go_simp
        subst hK
        unfold wpQuiet
        generalize hK : wpQuiet Try.prog _ _ _ _ = K
        go_simp
        subst hK
        unfold wpQuiet
        generalize hK : wpQuiet Try.prog _ _ _ _ = K
        go_simp
        subst hK
        unfold wpQuiet
        generalize hK : wpQuiet Try.prog _ _ _ _ = K
        go_simp
        subst hK
        unfold wpQuiet
        generalize hK : wpQuiet Try.prog _ _ _ _ = K
        go_simp
        subst hK
        unfold wpQuiet
        generalize hK : wpQuiet Try.prog _ _ _ _ = K
        go_simp
        subst hK
        unfold wpQuiet
        generalize hK : wpQuiet Try.prog _ _ _ _ = K
        go_simp
        refine ⟨_, fun _ _ => rfl, ?_⟩
        subst hK
        unfold wpQuiet
        generalize hK : wpQuiet Try.prog _ _ _ _ = K
        go_simp
        refine ⟨_, fun _ _ => rfl, ?_⟩
        subst hK
        refine wpQuiet_nil ?_
        intro W3 hb3
        have HB3 := Hid.intro' (below_class HB2.out hb3)
        clear hb3
        go_wp2
        go_ret
        exact ⟨ret_bool HX.out, HB3.out⟩
  · have hbg : bgs p car b = false := by
      unfold bgs
      rw [Bool.and_eq_false_iff]
      left
      rw [Bool.and_eq_false_iff, Bool.and_eq_false_iff]
      by_cases g1 : 0 ≤ car
      · by_cases g2 : car < (p.length : Int)
        · right; exact decide_eq_false fun g3 => hn ⟨g1, g2, g3⟩
        · left; right; exact decide_eq_false g2
      · left; left; exact decide_eq_false g1
    rw [hbg]
    by_cases g : 0 ≤ car ∧ car < (p.length : Int)
    · rw [show (decide (0 ≤ car) && decide (car < (p.length : Int))) = true by simp [g]] at h1
      rw [show (decide (0 ≤ car) && decide (car < (b.length : Int))) = false by rw [Bool.and_eq_false_iff]; right; exact decide_eq_false fun g3 => hn ⟨g.1, g.2, g3⟩] at h2
      have H1 := Hid.intro' h1
      have H2 := Hid.intro' h2
      clear hn hbg g h1 h2
      go_enter Try.func8, Try.ntmps8
      go_wp2_with fail
      refine (H1.out w).mono ?_
      rintro e w' ⟨rfl, hw'⟩
      rw [hw']
      clear hw'
      go_wp2_with fail
      refine (H2.out w).mono ?_
      rintro e w' ⟨rfl, hw'⟩
      rw [hw']
      clear hw' H1 H2
      go_wp2
      go_ret
      exact ⟨rfl, Below.refl _ _⟩
    · rw [show (decide (0 ≤ car) && decide (car < (p.length : Int))) = false by
        rw [Bool.and_eq_false_iff]
        by_cases g1 : 0 ≤ car
        · right; exact decide_eq_false fun g2 => g ⟨g1, g2⟩
        · left; exact decide_eq_false g1] at h1
      have H1 := Hid.intro' h1
      clear hn hbg g h1 h2
      go_enter Try.func8, Try.ntmps8
      go_wp2_with fail
      refine (H1.out w).mono ?_
      rintro e w' ⟨rfl, hw'⟩
      rw [hw']
      clear hw' H1
      go_wp2
      go_ret
      exact ⟨rfl, Below.refl _ _⟩

end Go.Proofs.Ytkcppidmbojglag
