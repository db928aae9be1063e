/- Two events have one line, if all that their lines tell is one. -/
import Derived.Test.YthhmaaeijbofbaaDoorTlB
import Derived.Deep.DeepCutAuto
namespace Go.Proofs.YthhmaaeijbofbaaDoor
open Go.RowKit

/-- two events in memory -/
structure Tw (w W : World) (a b : TM.Ev) : Prop where
  ab : EB W w.heap.size a
  bb : EB W (w.heap.size + 1) b
  be : Below w.heap.size w W
theorem Tw.next {w W W' : World} {a b : TM.Ev} (h : Tw w W a b) (hb : Below W.heap.size W W') : Tw w W' a b := ⟨h.ab.below' hb, h.bb.below' hb, below_cl h.be h.be.size hb⟩
theorem quiet_loadE {C : World → Prop} {K : Act → Prop} {o : Oper} {a : Act} (x : Operand) (b : Nat) {c : TM.Ev} (ho : o.op = .load 25 x) (hx : a.eval x = .pointer (some ⟨b, 0, none⟩)) (hr : ∀ w, C w → EB w b c)
    (hn : K (a.put o.dst (.agg #[.int .i64 c.ki, .int .i64 c.a, .int .i64 c.b, .bool c.on, .int .i64 c.fl, .int .i64 c.ca, .int .i64 c.ag, .bool c.up]))) : o.quiet Tryd.prog a C K :=
  quiet_val _ (fun w hw => by
    unfold execOp
    simp only [ho, hx, Instr.loadAt, Instr.sureAddr, Sem.run_bind, Sem.run_pure, Result.andThen_ok, run_loadVar_row (P := Tryd.prog) w b 25 25 _ _ _ (hr w hw) Tryd.underlying25 rfl infoE]) hn
theorem sb_get {l : List UInt8} {i : Nat} {x : UInt8} (hx : l[i]? = some x) (h : i < (sb l).size) : (sb l)[i]'h = x := by
  have h2 : i < l.length := by rw [← sb_size]; exact h
  have e : (sb l)[i]'h = l[i]'h2 := by simp [sb, ByteArray.getElem_eq_getElem_data]
  rw [e]
  exact (List.getElem?_eq_some_iff.1 hx).2
theorem count_next {l : List UInt8} {i : Nat} {x : UInt8} (hx : l[i]? = some x) : (l.take (i + 1)).count 32 = (l.take i).count 32 + if x = 32 then 1 else 0 := by
  rw [List.take_add_one, hx, List.count_append]
  by_cases e : x = 32
  · rw [if_pos e, e]; rfl
  · rw [if_neg e]; simp [e]
theorem tr_len (x : Bool) : (TM.tr x).length = 1 := by cases x <;> rfl
theorem line_len (e : TM.Ev) : (TM.line e).length ≤ 100 := by
  have h1 := num_len e.a
  have h2 := num_len e.b
  have h3 := num_len e.fl
  have h4 := num_len e.ca
  have h5 := tr_len e.on
  have h6 := tr_len e.up
  unfold TM.line
  split
  · unfold TM.word TM.args
    repeat' split
    all_goals
      simp only [TM.glue, TM.wPress, TM.wSwitch, TM.wLose, TM.wAgain, TM.wBlock, TM.wFault, TM.wOver, TM.wTick, List.length_append, List.length_cons, List.length_nil]
      omega
  · simp
/-- is an event another one? -/
def eeq (x y : TM.Ev) : Bool := (x.ki == y.ki) && ((x.a == y.a) && ((x.b == y.b) && ((x.on == y.on) && ((x.fl == y.fl) && ((x.ca == y.ca) && ((x.ag == y.ag) && ((x.up == y.up))))))))
theorem eeq_iff {x y : TM.Ev} : eeq x y = true ↔ x = y := by
  obtain ⟨a, b, c, d, e, f, g, h⟩ := x
  obtain ⟨a', b', c', d', e', f', g', h'⟩ := y
  simp [eeq]
set_option maxHeartbeats 4000000 in
theorem run_eqE {o : Oper} {a : Act} (p r : Operand) (x y : TM.Ev) (ho : o.op = .binOp .eql 25 p r 25) (hx : a.eval p = .agg (ev x)) (hy : a.eval r = .agg (ev y)) (w : World) : (execOp a.eval o).run Tryd.prog w = .ok (.value (.bool (eeq x y))) w := by
  have u3 := Tryd.underlying3
  have u4 := Tryd.underlying4
  have uC := Tryd.underlying23
  have uE := Tryd.underlying25
  unfold execOp
  simp only [ho, hx, hy]
  clear hx hy ho
  unfold eeq ev
  cases q0 : (x.ki == y.ki)
  · go_simp
  · have z0 : True := trivial
    cases q1 : (x.a == y.a)
    · go_simp
    · have z1 : True := trivial
      cases q2 : (x.b == y.b)
      · go_simp
      · have z2 : True := trivial
        cases q3 : (x.on == y.on)
        · go_simp
        · have z3 : True := trivial
          cases q4 : (x.fl == y.fl)
          · go_simp
          · have z4 : True := trivial
            cases q5 : (x.ca == y.ca)
            · go_simp
            · have z5 : True := trivial
              cases q6 : (x.ag == y.ag)
              · go_simp
              · have z6 : True := trivial
                cases q7 : (x.up == y.up)
                · go_simp
                · go_simp
theorem quiet_eqE {C : World → Prop} {K : Act → Prop} {o : Oper} {a : Act} (p r : Operand) {x y : TM.Ev} {q : Bool} (ho : o.op = .binOp .eql 25 p r 25) (hx : a.eval p = .agg (ev x)) (hy : a.eval r = .agg (ev y)) (hq : eeq x y = q) (h : K (a.put o.dst (.bool q))) : o.quiet Tryd.prog a C K :=
  quiet_val _ (fun w _ => by rw [← hq]; exact run_eqE p r x y ho hx hy w) h
set_option maxRecDepth 100000 in
set_option maxHeartbeats 8000000 in
theorem TaleOne_any (a b : TM.Ev) (oa : TM.Ok a) (ob : TM.Ok b) (w : World) (hp : Pt w) : Calls Tryd.prog 5 #[.agg #[.int .i64 a.ki, .int .i64 a.a, .int .i64 a.b, .bool a.on, .int .i64 a.fl, .int .i64 a.ca, .int .i64 a.ag, .bool a.up], .agg #[.int .i64 b.ki, .int .i64 b.a, .int .i64 b.b, .bool b.on, .int .i64 b.fl, .int .i64 b.ca, .int .i64 b.ag, .bool b.up]] w fun r w' => r = .returned (.bool true) ∧ Below w.heap.size w w' := by
  have HT0 : Hid (Tw w ((w.alloc (.cells #[.int .i64 a.ki, .int .i64 a.a, .int .i64 a.b, .bool a.on, .int .i64 a.fl, .int .i64 a.ca, .int .i64 a.ag, .bool a.up] 25)).alloc (.cells #[.int .i64 b.ki, .int .i64 b.a, .int .i64 b.b, .bool b.on, .int .i64 b.fl, .int .i64 b.ca, .int .i64 b.ag, .bool b.up] 25)) a b) := by
    have a1 := (Below.refl _ (w.alloc (.cells #[.int .i64 a.ki, .int .i64 a.a, .int .i64 a.b, .bool a.on, .int .i64 a.fl, .int .i64 a.ca, .int .i64 a.ag, .bool a.up] 25))).alloc (Nat.le_refl _) (.cells #[.int .i64 b.ki, .int .i64 b.a, .int .i64 b.b, .bool b.on, .int .i64 b.fl, .int .i64 b.ca, .int .i64 b.ag, .bool b.up] 25)
    have e1 : EB ((w.alloc (.cells #[.int .i64 a.ki, .int .i64 a.a, .int .i64 a.b, .bool a.on, .int .i64 a.fl, .int .i64 a.ca, .int .i64 a.ag, .bool a.up] 25)).alloc (.cells #[.int .i64 b.ki, .int .i64 b.a, .int .i64 b.b, .bool b.on, .int .i64 b.fl, .int .i64 b.ca, .int .i64 b.ag, .bool b.up] 25)) (w.heap.size + 1) b := by have := EB.new (w.alloc (.cells #[.int .i64 a.ki, .int .i64 a.a, .int .i64 a.b, .bool a.on, .int .i64 a.fl, .int .i64 a.ca, .int .i64 a.ag, .bool a.up] 25)) b; rwa [show (w.alloc (.cells #[.int .i64 a.ki, .int .i64 a.a, .int .i64 a.b, .bool a.on, .int .i64 a.fl, .int .i64 a.ca, .int .i64 a.ag, .bool a.up] 25)).heap.size = w.heap.size + 1 by simp] at this
    exact ⟨(EB.new w a).below' a1, e1, ((Below.refl w.heap.size w).alloc (Nat.le_refl _) _).alloc (by first | (simp; done) | (simp; omega)) _⟩
  have HSP := Hid.intro'' (speaks18_any ((w.alloc (.cells #[.int .i64 a.ki, .int .i64 a.a, .int .i64 a.b, .bool a.on, .int .i64 a.fl, .int .i64 a.ca, .int .i64 a.ag, .bool a.up] 25)).alloc (.cells #[.int .i64 b.ki, .int .i64 b.a, .int .i64 b.b, .bool b.on, .int .i64 b.fl, .int .i64 b.ca, .int .i64 b.ag, .bool b.up] 25)) (hp.below HT0.out.be))
  have HPT := Hid.intro'' hp
  have HOA := Hid.intro'' oa
  have HOB := Hid.intro'' ob
  clear oa ob hp
  go_enter Tryd.func5, Tryd.ntmps5
  go_wp2_with fail
  generalize (w.alloc (.cells #[.int .i64 a.ki, .int .i64 a.a, .int .i64 a.b, .bool a.on, .int .i64 a.fl, .int .i64 a.ca, .int .i64 a.ag, .bool a.up] 25)).alloc (.cells #[.int .i64 b.ki, .int .i64 b.a, .int .i64 b.b, .bool b.on, .int .i64 b.fl, .int .i64 b.ca, .int .i64 b.ag, .bool b.up] 25) = V at HT0 HSP ⊢
  refine HSP.out.mono ?_
  rintro r W1 ⟨rfl, hb1⟩
  have HT1 := Hid.intro'' (HT0.out.next hb1)
  have HP1 := Hid.intro'' (HPT.out.below HT1.out.be)
  clear hb1 HSP HT0
  obtain ⟨la, HLA⟩ : ∃ x, Hid (TM.line a = x) := ⟨_, Hid.intro'' rfl⟩
  obtain ⟨lb, HLB⟩ : ∃ x, Hid (TM.line b = x) := ⟨_, Hid.intro'' rfl⟩
  have HC1 : Hid (∀ w', Below W1.heap.size W1 w' → Calls Tryd.prog 7 #[.agg #[.int .i64 a.ki, .int .i64 a.a, .int .i64 a.b, .bool a.on, .int .i64 a.fl, .int .i64 a.ca, .int .i64 a.ag, .bool a.up]] w' fun r w'' => r = .returned (.string (sb la)) ∧ Below w'.heap.size w' w'') := fun w' hw => by rw [← HLA.out]; exact tline_any a HOA.out w' (HP1.out.below hw)
  have HC2 : Hid (∀ w', Below W1.heap.size W1 w' → Calls Tryd.prog 7 #[.agg #[.int .i64 b.ki, .int .i64 b.a, .int .i64 b.b, .bool b.on, .int .i64 b.fl, .int .i64 b.ca, .int .i64 b.ag, .bool b.up]] w' fun r w'' => r = .returned (.string (sb lb)) ∧ Below w'.heap.size w' w'') := fun w' hw => by rw [← HLB.out]; exact tline_any b HOB.out w' (HP1.out.below hw)
  have H1 : Hid (∀ w', Below W1.heap.size W1 w' → EB w' w.heap.size a) := fun w' hw => HT1.out.ab.below' hw
  have H2 : Hid (∀ w', Below W1.heap.size W1 w' → EB w' (w.heap.size + 1) b) := fun w' hw => HT1.out.bb.below' hw
  go_upto_region 3 with fail
  refine wp_region_quiet (C := fun w' => Below W1.heap.size W1 w') (by kernel_rfl) (by kernel_rfl) ((Below.refl _ _).drew) ?_
  simp only []
  unfold wpQuiet
  generalize hK : wpQuiet Tryd.prog _ _ _ _ = K
  rw [if_pos (by go_simp)]
  refine quiet_loadE _ _ rfl rfl H1.out ?_
  go_simp
  subst hK
  unfold wpQuiet
  generalize hK : wpQuiet Tryd.prog _ _ _ _ = K
  go_simp
  refine ⟨_, fun w' hw => (HC1.out w' hw).mono fun e w'' hh => ⟨hh.1, below_class hw hh.2⟩, ?_⟩
  subst hK
  unfold wpQuiet
  generalize hK : wpQuiet Tryd.prog _ _ _ _ = K
  rw [if_pos (by go_simp)]
  refine quiet_loadE _ _ rfl rfl H2.out ?_
  go_simp
  subst hK
  unfold wpQuiet
  generalize hK : wpQuiet Tryd.prog _ _ _ _ = K
  go_simp
  refine ⟨_, fun w' hw => (HC2.out w' hw).mono fun e w'' hh => ⟨hh.1, below_class hw hh.2⟩, ?_⟩
  subst hK
  unfold wpQuiet
  generalize hK : wpQuiet Tryd.prog _ _ _ _ = K
  go_simp
  refine ⟨_, fun _ _ => rfl, ?_⟩
  subst hK
  unfold wpQuiet
  generalize hK : wpQuiet Tryd.prog _ _ _ _ = K
  go_simp
  refine ⟨_, fun _ _ => rfl, ?_⟩
  subst hK
  refine wpQuiet_nil ?_
  intro W2 hb2
  have HT2 := Hid.intro'' (HT1.out.next hb2)
  clear hb2 HC1 HC2 H1 H2 HT1
  have htl : ∀ l, (sb l).toList = l := sb_toList
  have m0 : W2.cell? ⟨w.heap.size, 0, none⟩ = some (.int .i64 a.ki) := HT2.out.ab.cell 0
  have n0 : W2.cell? ⟨w.heap.size + 1, 0, none⟩ = some (.int .i64 b.ki) := HT2.out.bb.cell 0
  by_cases ka : TM.known a
  · have da : (la == [63]) = false := by rw [← HLA.out]; simpa using TM.line_yes ka
    by_cases kb : TM.known b
    · have db : (lb == [63]) = false := by rw [← HLB.out]; simpa using TM.line_yes kb
      have hss : ∀ l, (sb l).size = l.length := sb_size
      have hll : la.length ≤ 100 := by rw [← HLA.out]; exact line_len a
      have HCN : Hid (la.count 32 = (TM.args a).length) := by rw [← HLA.out]; exact TM.line_blanks ka
      have HLT : Hid (la = lb ↔ TM.told a = TM.told b) := by rw [← HLA.out, ← HLB.out]; exact TM.line_told ka kb HOA.out HOB.out
      have HKA := Hid.intro'' ka
      go_upto_region 6 with fail
      clear ka kb m0 n0 da db
      go_wp2_with fail
      go_loopw [7, 8] (fun bv iv wr => wr = W2 ∧ ∃ (i c : Nat), i ≤ la.length ∧ bv = .int .i64 (c : Int) ∧ iv = .int .i64 (i : Int) ∧ Hid (c = (la.take i).count 32) ∧ c ≤ i) (fun _ iv _ => la.length - (intOf iv).toNat)
      case atStart => exact ⟨rfl, 0, 0, Nat.zero_le _, rfl, rfl, rfl, Nat.le_refl _⟩
      case round =>
        obtain ⟨rfl, i, c, hi, rfl, rfl, HC, hci⟩ := hrel
        by_cases hlt : i < la.length
        · have hiz : (i : Int) < (la.length : Int) := by omega
          obtain ⟨x, hx⟩ : ∃ x, la[i]? = some x := ⟨_, List.getElem?_eq_getElem hlt⟩
          have HX := Hid.intro'' hx
          clear hx
          go_wp2_with fail
          · rename_i hq
            have HQ : Hid (c + 1 = (la.take (i + 1)).count 32) := by
              rw [sb_get HX.out] at hq
              show _ = _
              rw [count_next HX.out, if_pos (by
                have h32 : x.toNat = 32 := by have := of_decide_eq_true (by simpa using hq); omega
                exact UInt8.toNat_inj.1 h32), ← HC.out]
            clear hq
            go_roundw
            case rel => exact ⟨trivial, i + 1, c + 1, by omega, by go_num, by go_num, HQ, by omega⟩
            case measure => simp [intOf]; omega
          · rename_i hq
            have HQ : Hid (c = (la.take (i + 1)).count 32) := by
              rw [sb_get HX.out] at hq
              show _ = _
              rw [count_next HX.out, if_neg (fun e => by rw [e] at hq; exact absurd hq (by decide)), ← HC.out, Nat.add_zero]
            clear hq
            go_roundw
            case rel => exact ⟨trivial, i + 1, c, by omega, rfl, by go_num, HQ, by omega⟩
            case measure => simp [intOf]; omega
        · have hiz : ¬ ((i : Int) < (la.length : Int)) := by omega
          obtain rfl : i = la.length := by omega
          have HCC : Hid (c = (TM.args a).length) := by show _ = _; rw [HC.out, List.take_length]; exact HCN.out
          clear HC HCN hlt hi
          go_upto_region 12 with fail
          go_cut [9] (fun s9 W' => s9 = .int .i64 (c : Int) ∧ Hid (Tw w W' a b))
          case first =>
            have m0 : (wr.alloc (.cells #[.int .i64 3, .int .i64 3, .int .i64 1, .int .i64 1, .int .i64 1, .int .i64 2, .int .i64 2, .int .i64 0] 3)).cell? ⟨w.heap.size, 0, none⟩ = some (.int .i64 a.ki) := (HT2.out.ab.below' ((Below.refl _ _).alloc (Nat.le_refl _) _)).cell 0
            have HT3 := Hid.intro'' (HT2.out.next ((Below.refl wr.heap.size wr).alloc (Nat.le_refl _) (.cells #[.int .i64 3, .int .i64 3, .int .i64 1, .int .i64 1, .int .i64 1, .int .i64 2, .int .i64 2, .int .i64 0] 3)))
            have hk := TM.kinds HKA.out
            rcases hk with hk | hk | hk | hk | hk | hk | hk | hk
            · have HCK : Hid (c = 3) := by show _ = _; rw [HCC.out]; unfold TM.args; simp [hk]
              rw [hk] at m0
              clear hk
              go_wp2
              go_meet
              case rel => exact ⟨by rw [HCK.out]; rfl, HT3⟩
            · have HCK : Hid (c = 3) := by show _ = _; rw [HCC.out]; unfold TM.args; simp [hk]
              rw [hk] at m0
              clear hk
              go_wp2
              go_meet
              case rel => exact ⟨by rw [HCK.out]; rfl, HT3⟩
            · have HCK : Hid (c = 1) := by show _ = _; rw [HCC.out]; unfold TM.args; simp [hk]
              rw [hk] at m0
              clear hk
              go_wp2
              go_meet
              case rel => exact ⟨by rw [HCK.out]; rfl, HT3⟩
            · have HCK : Hid (c = 1) := by show _ = _; rw [HCC.out]; unfold TM.args; simp [hk]
              rw [hk] at m0
              clear hk
              go_wp2
              go_meet
              case rel => exact ⟨by rw [HCK.out]; rfl, HT3⟩
            · have HCK : Hid (c = 1) := by show _ = _; rw [HCC.out]; unfold TM.args; simp [hk]
              rw [hk] at m0
              clear hk
              go_wp2
              go_meet
              case rel => exact ⟨by rw [HCK.out]; rfl, HT3⟩
            · have HCK : Hid (c = 2) := by show _ = _; rw [HCC.out]; unfold TM.args; simp [hk]
              rw [hk] at m0
              clear hk
              go_wp2
              go_meet
              case rel => exact ⟨by rw [HCK.out]; rfl, HT3⟩
            · have HCK : Hid (c = 2) := by show _ = _; rw [HCC.out]; unfold TM.args; simp [hk]
              rw [hk] at m0
              clear hk
              go_wp2
              go_meet
              case rel => exact ⟨by rw [HCK.out]; rfl, HT3⟩
            · have HCK : Hid (c = 0) := by show _ = _; rw [HCC.out]; unfold TM.args; simp [hk]
              rw [hk] at m0
              clear hk
              go_wp2
              go_meet
              case rel => exact ⟨by rw [HCK.out]; rfl, HT3⟩
          case rest =>
            obtain ⟨rfl, HT3⟩ := hcut
            clear HT2 HCC HKA
            obtain ⟨x, HX⟩ : ∃ x, Hid (TM.told a = x) := ⟨_, Hid.intro'' rfl⟩
            obtain ⟨y, HY⟩ : ∃ x, Hid (TM.told b = x) := ⟨_, Hid.intro'' rfl⟩
            obtain ⟨q, hq⟩ : ∃ q, eeq x y = q := ⟨_, rfl⟩
            have hlq : (la == lb) = q := by
              rw [← hq, Bool.eq_iff_iff, eeq_iff, ← HX.out, ← HY.out, ← HLT.out]
              simp
            have HEQ := Hid.intro'' hq
            have HC1 : Hid (∀ w', Calls Tryd.prog 10 #[.agg #[.int .i64 a.ki, .int .i64 a.a, .int .i64 a.b, .bool a.on, .int .i64 a.fl, .int .i64 a.ca, .int .i64 a.ag, .bool a.up]] w' fun r w'' => r = .returned (.agg (ev x)) ∧ Below w'.heap.size w' w'') := fun w' => by rw [← HX.out]; exact rtold_any a w'
            have HC2 : Hid (∀ w', Calls Tryd.prog 10 #[.agg #[.int .i64 b.ki, .int .i64 b.a, .int .i64 b.b, .bool b.on, .int .i64 b.fl, .int .i64 b.ca, .int .i64 b.ag, .bool b.up]] w' fun r w'' => r = .returned (.agg (ev y)) ∧ Below w'.heap.size w' w'') := fun w' => by rw [← HY.out]; exact rtold_any b w'
            have H1 : Hid (∀ w', Below wc.heap.size wc w' → EB w' w.heap.size a) := fun w' hw => HT3.out.ab.below' hw
            have H2 : Hid (∀ w', Below wc.heap.size wc w' → EB w' (w.heap.size + 1) b) := fun w' hw => HT3.out.bb.below' hw
            clear hq HX HY HLT
            go_upto_region 13 with fail
            refine wp_region_quiet (C := fun w' => Below wc.heap.size wc w') (by kernel_rfl) (by kernel_rfl) ((Below.refl _ _).drew) ?_
            simp only []
            unfold wpQuiet
            generalize hK : wpQuiet Tryd.prog _ _ _ _ = K
            go_simp
            refine ⟨_, fun _ _ => rfl, ?_⟩
            subst hK
            unfold wpQuiet
            generalize hK : wpQuiet Tryd.prog _ _ _ _ = K
            go_simp
            refine ⟨_, fun _ _ => rfl, ?_⟩
            subst hK
            unfold wpQuiet
            generalize hK : wpQuiet Tryd.prog _ _ _ _ = K
            go_simp
            refine ⟨_, fun _ _ => rfl, ?_⟩
            subst hK
            unfold wpQuiet
            generalize hK : wpQuiet Tryd.prog _ _ _ _ = K
            rw [if_pos (by go_simp)]
            refine quiet_loadE _ _ rfl rfl H1.out ?_
            go_simp
            subst hK
            unfold wpQuiet
            generalize hK : wpQuiet Tryd.prog _ _ _ _ = K
            go_simp
            refine ⟨_, fun w' hw => (HC1.out w').mono fun e w'' hh => ⟨hh.1, below_class hw hh.2⟩, ?_⟩
            subst hK
            unfold wpQuiet
            generalize hK : wpQuiet Tryd.prog _ _ _ _ = K
            rw [if_pos (by go_simp)]
            refine quiet_loadE _ _ rfl rfl H2.out ?_
            go_simp
            subst hK
            unfold wpQuiet
            generalize hK : wpQuiet Tryd.prog _ _ _ _ = K
            go_simp
            refine ⟨_, fun w' hw => (HC2.out w').mono fun e w'' hh => ⟨hh.1, below_class hw hh.2⟩, ?_⟩
            subst hK
            unfold wpQuiet
            generalize hK : wpQuiet Tryd.prog _ _ _ _ = K
            rw [if_pos (by go_simp)]
            refine quiet_eqE _ _ rfl rfl rfl HEQ.out ?_
            go_simp
            subst hK
            unfold wpQuiet
            generalize hK : wpQuiet Tryd.prog _ _ _ _ = K
            go_simp
            refine ⟨_, fun _ _ => rfl, ?_⟩
            subst hK
            unfold wpQuiet
            generalize hK : wpQuiet Tryd.prog _ _ _ _ = K
            go_simp
            refine ⟨_, fun _ _ => rfl, ?_⟩
            subst hK
            unfold wpQuiet
            generalize hK : wpQuiet Tryd.prog _ _ _ _ = K
            go_simp
            refine ⟨_, fun _ _ => rfl, ?_⟩
            subst hK
            unfold wpQuiet
            generalize hK : wpQuiet Tryd.prog _ _ _ _ = K
            go_simp
            refine ⟨_, fun _ _ => rfl, ?_⟩
            subst hK
            unfold wpQuiet
            generalize hK : wpQuiet Tryd.prog _ _ _ _ = K
            go_simp
            refine ⟨_, fun _ _ => rfl, ?_⟩
            subst hK
            unfold wpQuiet
            generalize hK : wpQuiet Tryd.prog _ _ _ _ = K
            go_simp
            refine ⟨_, fun _ _ => rfl, ?_⟩
            subst hK
            unfold wpQuiet
            generalize hK : wpQuiet Tryd.prog _ _ _ _ = K
            go_simp
            refine ⟨_, fun _ _ => rfl, ?_⟩
            subst hK
            refine wpQuiet_nil ?_
            intro W7 hb7
            have HT7 := Hid.intro'' (HT3.out.next hb7)
            clear hb7 HC1 HC2 H1 H2 HT3
            go_wp2
            go_ret
            exact ⟨rfl, HT7.out.be⟩
    · have db : (lb == [63]) = true := by rw [← HLB.out, TM.line_no kb]; rfl
      have e1 : ¬ a.ki < 1 := by have := ka.1; omega
      have e2 : ¬ 8 < a.ki := by have := ka.2; omega
      have HK := Hid.intro'' kb
      clear ka kb
      by_cases f1 : b.ki < 1
      · go_wp2
        go_ret
        exact ⟨rfl, HT2.out.be⟩
      · have f2 : 8 < b.ki := by
          apply Classical.byContradiction
          intro h
          exact HK.out ⟨by omega, by omega⟩
        go_wp2
        go_ret
        exact ⟨rfl, HT2.out.be⟩
  · have da : (la == [63]) = true := by rw [← HLA.out, TM.line_no ka]; rfl
    have HA := Hid.intro'' ka
    clear ka
    by_cases kb : TM.known b
    · have db : (lb == [63]) = false := by rw [← HLB.out]; simpa using TM.line_yes kb
      have g1 : ¬ b.ki < 1 := by have := kb.1; omega
      have g2 : ¬ 8 < b.ki := by have := kb.2; omega
      clear kb
      by_cases f1 : a.ki < 1
      · go_wp2
        go_ret
        exact ⟨rfl, HT2.out.be⟩
      · have f2 : 8 < a.ki := by
          apply Classical.byContradiction
          intro h
          exact HA.out ⟨by omega, by omega⟩
        go_wp2
        go_ret
        exact ⟨rfl, HT2.out.be⟩
    · have db : (lb == [63]) = true := by rw [← HLB.out, TM.line_no kb]; rfl
      have HB := Hid.intro'' kb
      clear kb
      by_cases f1 : a.ki < 1
      · by_cases g1 : b.ki < 1
        · go_wp2
          go_ret
          exact ⟨rfl, HT2.out.be⟩
        · have g2 : 8 < b.ki := by
            apply Classical.byContradiction
            intro h
            exact HB.out ⟨by omega, by omega⟩
          go_wp2
          go_ret
          exact ⟨rfl, HT2.out.be⟩
      · have f2 : 8 < a.ki := by
          apply Classical.byContradiction
          intro h
          exact HA.out ⟨by omega, by omega⟩
        by_cases g1 : b.ki < 1
        · go_wp2
          go_ret
          exact ⟨rfl, HT2.out.be⟩
        · have g2 : 8 < b.ki := by
            apply Classical.byContradiction
            intro h
            exact HB.out ⟨by omega, by omega⟩
          go_wp2
          go_ret
          exact ⟨rfl, HT2.out.be⟩

end Go.Proofs.YthhmaaeijbofbaaDoor
