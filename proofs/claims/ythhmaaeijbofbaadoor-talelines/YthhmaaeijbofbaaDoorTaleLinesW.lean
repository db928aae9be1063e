/- Any event as a line is told exactly, and read as that. -/
import Derived.Test.YthhmaaeijbofbaaDoorTaleReadsW
namespace Go.Proofs.YthhmaaeijbofbaaDoor
open Go.RowKit

theorem wpList_loadEg {ops : Array Oper} {rest : List Oper} {op : Oper} {a : Act} {w : World} {Q : Exit → Act → World → Prop} (hgd : Region.wanted op (yielded ops a.tmps) = true) (x : Operand) (ho : op.op = .load 25 x)
    (b : Nat) {c : TM.Ev} (hx : a.eval x = .pointer (some ⟨b, 0, none⟩)) (hC : EB w b c)
    (h : wpList Tryd.prog ops Q rest (a.put op.dst (.agg #[.int .i64 c.ki, .int .i64 c.a, .int .i64 c.b, .bool c.on, .int .i64 c.fl, .int .i64 c.ca, .int .i64 c.ag, .bool c.up])) w) : wpList Tryd.prog ops Q (op :: rest) a w :=
  wpList_step fun _ hK => by
    rw [if_pos hgd]
    unfold Oper.wp execOp
    have hl : (Instr.loadAt 25 (.pointer (some ⟨b, 0, none⟩))).run Tryd.prog w = .ok (.agg (ev c)) w := by
      simp only [Instr.loadAt, Instr.sureAddr, Sem.run_bind, Sem.run_pure, Result.andThen_ok, run_loadVar_row w b 25 25 (ev c) (0, 0) _ hC Tryd.underlying25 rfl infoE]
    simp only [ho, Sem.run_bind, Sem.run_pure, Result.andThen_ok, hx, hl]
    exact hK _ _ h
set_option maxRecDepth 100000 in
set_option maxHeartbeats 4000000 in
theorem TaleLines_any (e : TM.Ev) (ok : TM.Ok e) (w : World) (hp : Pw w) : Calls Tryd.prog 3 #[.agg #[.int .i64 e.ki, .int .i64 e.a, .int .i64 e.b, .bool e.on, .int .i64 e.fl, .int .i64 e.ca, .int .i64 e.ag, .bool e.up]] w fun r w' => r = .returned (.bool true) ∧ Below w.heap.size w w' := by
  have HB0 := Hid.mk' ((Below.refl w.heap.size w).alloc (Nat.le_refl _) (.cells #[.int .i64 e.ki, .int .i64 e.a, .int .i64 e.b, .bool e.on, .int .i64 e.fl, .int .i64 e.ca, .int .i64 e.ag, .bool e.up] 25))
  have HE0 := Hid.mk' (EB.new w e)
  have HP0 := Hid.mk' (hp.below HB0.out)
  have HOK := Hid.mk' ok
  have hlen := line_len e
  clear hp ok
  have htl : ∀ l, (sb l).toList = l := sb_toList
  go_enter Tryd.func3, Tryd.ntmps3
  go_wp2_with fail
  generalize w.alloc (.cells #[.int .i64 e.ki, .int .i64 e.a, .int .i64 e.b, .bool e.on, .int .i64 e.fl, .int .i64 e.ca, .int .i64 e.ag, .bool e.up] 25) = V at HB0 HE0 HP0 ⊢
  refine (speaks18_any V HP0.out.pt).mono ?_
  rintro r W1 ⟨rfl, hb1⟩
  have HB1 := Hid.mk' (below_cl HB0.out HB0.out.size hb1)
  have HP1 := Hid.mk' (HP0.out.below hb1)
  have HE1 := Hid.mk' (HE0.out.below' hb1)
  clear hb1 HB0 HP0 HE0
  go_wp2_with (refine wpList_loadE rfl _ rfl _ rfl HE1.out ?_)
  refine (tline_any e HOK.out W1 HP1.out.pt).mono ?_
  rintro r W2 ⟨rfl, hb2⟩
  have HB2 := Hid.mk' (below_cl HB1.out HB1.out.size hb2)
  have HP2 := Hid.mk' (HP1.out.below hb2)
  have HE2 := Hid.mk' (HE1.out.below' hb2)
  clear hb2 HB1 HP1 HE1
  obtain ⟨s, HS⟩ : ∃ s, Hid (TM.line e = s) := ⟨_, Hid.mk' rfl⟩
  rw [HS.out] at hlen ⊢
  go_wp2_with fail
  refine (read_any s (by omega) W2 HP2.out).mono ?_
  rintro r W3 ⟨x, c, rfl, hRP, hb3⟩
  have HB3 := Hid.mk' (below_cl HB2.out HB2.out.size hb3)
  have HE3 := Hid.mk' (HE2.out.below' hb3)
  clear hb3 HB2 HP2 HE2
  have HLN : Hid (∀ w', Calls Tryd.prog 9 #[.agg #[.int .i64 e.ki, .int .i64 e.a, .int .i64 e.b, .bool e.on, .int .i64 e.fl, .int .i64 e.ca, .int .i64 e.ag, .bool e.up]] w' fun r w'' => r = .returned (.string (sb s)) ∧ Below w'.heap.size w' w'') := fun w' => by rw [← HS.out]; exact rline_any e HOK.out w'
  have hW : (W3.alloc (.cells #[.int .i64 x.ki, .int .i64 x.a, .int .i64 x.b, .bool x.on, .int .i64 x.fl, .int .i64 x.ca, .int .i64 x.ag, .bool x.up] 25)).heap.size = W3.heap.size + 1 := by simp
  have HX4 := Hid.mk' (EB.new W3 x)
  have HB4 := Hid.mk' (HB3.out.alloc HB3.out.size (.cells #[.int .i64 x.ki, .int .i64 x.a, .int .i64 x.b, .bool x.on, .int .i64 x.fl, .int .i64 x.ca, .int .i64 x.ag, .bool x.up] 25))
  have HE4 := Hid.mk' (HE3.out.below' ((Below.refl _ W3).alloc (Nat.le_refl _) (.cells #[.int .i64 x.ki, .int .i64 x.a, .int .i64 x.b, .bool x.on, .int .i64 x.fl, .int .i64 x.ca, .int .i64 x.ag, .bool x.up] 25)))
  simp only [ev]
  clear HB3 HE3 hW
  go_wp2_with (refine wpList_loadE rfl _ rfl _ rfl HE4.out ?_)
  generalize W3.alloc (.cells #[.int .i64 x.ki, .int .i64 x.a, .int .i64 x.b, .bool x.on, .int .i64 x.fl, .int .i64 x.ca, .int .i64 x.ag, .bool x.up] 25) = V4 at HX4 HB4 HE4 ⊢
  generalize W3.heap.size = b3 at HX4 ⊢
  refine (HLN.out V4).mono ?_
  rintro r W5 ⟨rfl, hb5⟩
  have HB5 := Hid.mk' (below_cl HB4.out HB4.out.size hb5)
  have HE5 := Hid.mk' (HE4.out.below' hb5)
  have HX5 := Hid.mk' (HX4.out.below' hb5)
  clear hb5 HB4 HE4 HX4 HLN
  by_cases hk : TM.known e
  · have hsq : (s == [63]) = false := by rw [← HS.out]; simpa using TM.line_yes hk
    rcases hRP with ⟨rfl, hk2, ok2, hl, ht⟩ | ⟨_, _, hno⟩
    · have hxe : TM.told e = x := by
        rw [← ht]
        exact ((TM.line_told hk2 hk ok2 HOK.out).1 (by rw [hl, HS.out])).symm
      have HTD : Hid (∀ w', Calls Tryd.prog 10 #[.agg #[.int .i64 e.ki, .int .i64 e.a, .int .i64 e.b, .bool e.on, .int .i64 e.fl, .int .i64 e.ca, .int .i64 e.ag, .bool e.up]] w' fun r w'' => r = .returned (.agg (ev x)) ∧ Below w'.heap.size w' w'') := fun w' => by have := rtold_any e w'; rwa [hxe] at this
      have heq : eeq x x = true := eeq_iff.2 rfl
      clear hk hk2 ok2 hl ht hxe
      go_upto_region 9 with fail
      have H1 : Hid (∀ w', Below W5.heap.size W5 w' → EB w' b3 x) := fun w' hw => HX5.out.below' hw
      have H2 : Hid (∀ w', Below W5.heap.size W5 w' → EB w' w.heap.size e) := fun w' hw => HE5.out.below' hw
      refine wp_region_quiet (C := fun w' => Below W5.heap.size W5 w') (by kernel_rfl) (by kernel_rfl) ((Below.refl _ _).drew) ?_
      simp only []
      unfold wpQuiet
      generalize hK : wpQuiet Tryd.prog _ _ _ _ = K
      go_simp
      refine ⟨_, fun _ _ => rfl, ?_⟩
      subst hK
      unfold wpQuiet
      generalize hK : wpQuiet Tryd.prog _ _ _ _ = K
      go_simp
      refine ⟨_, fun _ _ => rfl, ?_⟩
      subst hK
      unfold wpQuiet
      generalize hK : wpQuiet Tryd.prog _ _ _ _ = K
      go_simp
      refine ⟨_, fun _ _ => rfl, ?_⟩
      subst hK
      unfold wpQuiet
      generalize hK : wpQuiet Tryd.prog _ _ _ _ = K
      rw [if_pos (by go_simp)]
      refine quiet_loadE _ _ rfl rfl H1.out ?_
      go_simp
      subst hK
      unfold wpQuiet
      generalize hK : wpQuiet Tryd.prog _ _ _ _ = K
      rw [if_pos (by go_simp)]
      refine quiet_loadE _ _ rfl rfl H2.out ?_
      go_simp
      subst hK
      unfold wpQuiet
      generalize hK : wpQuiet Tryd.prog _ _ _ _ = K
      go_simp
      refine ⟨_, fun w' hw => (HTD.out w').mono fun e w'' hh => ⟨hh.1, below_class hw hh.2⟩, ?_⟩
      subst hK
      unfold wpQuiet
      generalize hK : wpQuiet Tryd.prog _ _ _ _ = K
      rw [if_pos (by go_simp)]
      refine quiet_eqE _ _ rfl rfl rfl heq ?_
      go_simp
      subst hK
      unfold wpQuiet
      generalize hK : wpQuiet Tryd.prog _ _ _ _ = K
      go_simp
      refine ⟨_, fun _ _ => rfl, ?_⟩
      subst hK
      unfold wpQuiet
      generalize hK : wpQuiet Tryd.prog _ _ _ _ = K
      go_simp
      refine ⟨_, fun _ _ => rfl, ?_⟩
      subst hK
      refine wpQuiet_nil ?_
      intro W7 hb7
      have HB7 := Hid.mk' (below_cl HB5.out HB5.out.size hb7)
      clear hb7 H1 H2 HTD HB5 HE5 HX5
      go_wp2
      go_ret
      exact ⟨rfl, HB7.out⟩
    · exact absurd HS.out (hno e hk HOK.out)
  · have hsq : (s == [63]) = true := by rw [← HS.out, TM.line_no hk]; rfl
    rcases hRP with ⟨_, hk2, _, hl, _⟩ | ⟨rfl, rfl, _⟩
    · exact absurd (by rw [hl, ← HS.out, TM.line_no hk]) (TM.line_yes hk2)
    · clear hk
      go_wp2_with (refine wpList_loadEg (by go_simp) _ rfl _ rfl HX5.out ?_)
      go_ret
      exact ⟨rfl, HB5.out⟩

end Go.Proofs.YthhmaaeijbofbaaDoor
