/- The frame of bytes: Decode, the program's and the document's. -/
import Derived.Test.YtkbfljacjfaamaeFrS
import Derived.Deep.Quiet
import Derived.Deep.QuietTactic
import Derived.BigQuiet
import Derived.Laws.Tables
import Derived.Laws.CopyOwn
namespace Go.Proofs.Ytkbfljacjfaamae
open Go.RowKit

theorem infoF : (Try.prog.info? 26).map (·.size) = some 6 := by kernel_rfl
theorem setRow_kp (w : World) (b : Nat) (cs : Array Value) : Kp (fun k => k = b) w (w.setRow b cs) := ⟨rfl, rfl, rfl, by simp [World.setRow], fun k _ hk => setRow_other w b k cs hk⟩
theorem wpList_storeF {ops : Array Oper} {rest : List Oper} {op : Oper} {a : Act} {w : World} {Q : Exit → Act → World → Prop} (hgd : op.guard = none) (x y : Operand) (ho : op.op = .store 26 x y)
    (b : Nat) {f f' : Fr} (hx : a.eval x = .pointer (some ⟨b, 0, none⟩)) (hy : a.eval y = .agg #[.int .i64 f'.ki, .int .i64 f'.ca, .int .i64 f'.sq, .int .i64 f'.a, .int .i64 f'.b, .int .i64 f'.c]) (H : FB w b f)
    (hn : ∀ W', FB W' b f' → Kp (fun k => k = b) w W' → wpList Try.prog ops Q rest (a.put op.dst undef) W') : wpList Try.prog ops Q (op :: rest) a w :=
  wpList_store_row hgd 26 x y ho b _ hx hy _ _ H infoF rfl (by simp [Value.oneCell']) (hn _ (setRow_heap w b _ _ _ _ H) (setRow_kp w b _))
theorem wpList_loadF {ops : Array Oper} {rest : List Oper} {op : Oper} {a : Act} {w : World} {Q : Exit → Act → World → Prop} (hgd : op.guard = none) (x : Operand) (ho : op.op = .load 26 x)
    (b : Nat) {f : Fr} (hx : a.eval x = .pointer (some ⟨b, 0, none⟩)) (H : FB w b f)
    (hn : wpList Try.prog ops Q rest (a.put op.dst (.agg #[.int .i64 f.ki, .int .i64 f.ca, .int .i64 f.sq, .int .i64 f.a, .int .i64 f.b, .int .i64 f.c])) w) : wpList Try.prog ops Q (op :: rest) a w :=
  wpList_load_row hgd 26 x ho b hx _ _ _ _ H Try.underlying26 rfl infoF hn
theorem retF2 {fn : Func} {p t : Tmp} (hf : fn.results = #[.cell p 26, .tmp t]) {tmps : Array Value} {w : World} {b : Nat} {f : Fr} {u : Value} (hp : tmps.getD p undef = .pointer (some ⟨b, 0, none⟩)) (ht : tmps.getD t undef = u) (H : FB w b f) :
    (results fn tmps).run Try.prog w = .ok (.tuple #[.agg #[.int .i64 f.ki, .int .i64 f.ca, .int .i64 f.sq, .int .i64 f.a, .int .i64 f.b, .int .i64 f.c], u]) w := by
  have hp' : tmps[p]?.getD undef = .pointer (some ⟨b, 0, none⟩) := by simpa using hp
  have ht' : tmps[t]?.getD undef = u := by simpa using ht
  simp [results, hf, hp', ht', asAddr, run_loadVar_row w b 26 26 _ _ _ H Try.underlying26 rfl infoF]
theorem i64_byte {x : Nat} (h : x < 256) : IntKind.i64.wrap (x : Int) = (x : Int) := by rw [IntKind.wrap_i64]; omega
/-- no frame -/
def noF : Fr := ⟨0, 0, 0, 0, 0, 0⟩
section
variable {x0 x1 x2 x3 x4 x5 x6 x7 x8 x9 : Nat}
theorem de_ten : FC.de [x0, x1, x2, x3, x4, x5, x6, x7, x8, x9] = if x0 = 165 then (if FC.crc [x0, x1, x2, x3, x4, x5, x6, x7] = x8 * 256 + x9 then (if 1 ≤ x1 ∧ x1 ≤ 3 then 0 else 3) else 6) else 3 := by
  have e0 : FC.g [x0, x1, x2, x3, x4, x5, x6, x7, x8, x9] 0 = x0 := rfl
  have e1 : FC.g [x0, x1, x2, x3, x4, x5, x6, x7, x8, x9] 1 = x1 := rfl
  have e8 : FC.g [x0, x1, x2, x3, x4, x5, x6, x7, x8, x9] 8 = x8 := rfl
  have e9 : FC.g [x0, x1, x2, x3, x4, x5, x6, x7, x8, x9] 9 = x9 := rfl
  have et : [x0, x1, x2, x3, x4, x5, x6, x7, x8, x9].take 8 = [x0, x1, x2, x3, x4, x5, x6, x7] := rfl
  unfold FC.de
  rw [e0, e1, e8, e9, et]
  simp only [show ([x0, x1, x2, x3, x4, x5, x6, x7, x8, x9].length = 10 ∧ x0 = 165) ↔ x0 = 165 from ⟨fun h => h.2, fun h => ⟨rfl, h⟩⟩]
theorem df_no (h : FC.de [x0, x1, x2, x3, x4, x5, x6, x7, x8, x9] ≠ 0) : FC.df [x0, x1, x2, x3, x4, x5, x6, x7, x8, x9] = noF := by unfold FC.df; rw [if_neg h]; rfl
theorem df_yes (h : FC.de [x0, x1, x2, x3, x4, x5, x6, x7, x8, x9] = 0) : FC.df [x0, x1, x2, x3, x4, x5, x6, x7, x8, x9] = ⟨x1, x2, (x3 * 256 + x4 : Nat), x5, x6, x7⟩ := by
  unfold FC.df; rw [if_pos h]; unfold FC.dr FC.g
  simp only [List.getElem?_cons_zero, List.getElem?_cons_succ, Option.getD_some]
end

set_option maxHeartbeats 1000000 in
theorem decode_few (v : Value) (l : List Nat) (w : World) (h : RD w v l) (hl : l.length ≠ 10) :
    Calls Try.prog 16 #[v] w fun e w' => e = .returned (.tuple #[.agg #[.int .i64 noF.ki, .int .i64 noF.ca, .int .i64 noF.sq, .int .i64 noF.a, .int .i64 noF.b, .int .i64 noF.c], .int .i64 3]) ∧ Below w.heap.size w w' := by
  obtain ⟨a, cap, rfl, hc, hm, _⟩ := h.form
  clear h
  unfold maxLen at hm
  have hz : ((l.length : Int) != 10) = true := by simp; omega
  go_enter Try.func16, Try.ntmps16
  go_wp2
  exact bodyPost_ret (v := .tuple #[.agg #[.int .i64 noF.ki, .int .i64 noF.ca, .int .i64 noF.sq, .int .i64 noF.a, .int .i64 noF.b, .int .i64 noF.c], .int .i64 3]) (by simp [results, Try.results16, go_sem, noF]) rfl ⟨rfl, (Below.refl _ _).alloc (Nat.le_refl _) _⟩

set_option maxHeartbeats 4000000 in
theorem decode_ten (g o cap x0 x1 x2 x3 x4 x5 x6 x7 x8 x9 : Nat) (w : World) (h : RD w (.slice (some ⟨g, o, none⟩) 10 cap) [x0, x1, x2, x3, x4, x5, x6, x7, x8, x9]) :
    Calls Try.prog 16 #[.slice (some ⟨g, o, none⟩) 10 cap] w fun e w' => e = .returned (.tuple #[.agg #[.int .i64 (FC.df [x0, x1, x2, x3, x4, x5, x6, x7, x8, x9]).ki, .int .i64 (FC.df [x0, x1, x2, x3, x4, x5, x6, x7, x8, x9]).ca, .int .i64 (FC.df [x0, x1, x2, x3, x4, x5, x6, x7, x8, x9]).sq, .int .i64 (FC.df [x0, x1, x2, x3, x4, x5, x6, x7, x8, x9]).a, .int .i64 (FC.df [x0, x1, x2, x3, x4, x5, x6, x7, x8, x9]).b, .int .i64 (FC.df [x0, x1, x2, x3, x4, x5, x6, x7, x8, x9]).c], .int .i64 (FC.de [x0, x1, x2, x3, x4, x5, x6, x7, x8, x9] : Nat)]) ∧ Below w.heap.size w w' := by
  have hcap := h.len.2.1
  have c0 := h.cell (i := 0) rfl
  have c1 := h.cell (i := 1) rfl
  have c2 := h.cell (i := 2) rfl
  have c3 := h.cell (i := 3) rfl
  have c4 := h.cell (i := 4) rfl
  have c5 := h.cell (i := 5) rfl
  have c6 := h.cell (i := 6) rfl
  have c7 := h.cell (i := 7) rfl
  have c8 := h.cell (i := 8) rfl
  have c9 := h.cell (i := 9) rfl
  rw [Nat.add_zero] at c0
  have HR := Hid.intro' (h.alloc (.cells #[.int .i64 0, .int .i64 0, .int .i64 0, .int .i64 0, .int .i64 0, .int .i64 0] 26))
  have hg : g < w.heap.size := h.lt (by simp)
  have HB := Hid.intro' h.bs
  clear h
  by_cases h0 : x0 = 165
  · subst h0
    go_enter Try.func16, Try.ntmps16
    go_wp2_with fail
    have HN1 : Hid (FB (w.alloc (.cells #[.int .i64 0, .int .i64 0, .int .i64 0, .int .i64 0, .int .i64 0, .int .i64 0] 26)) w.heap.size noF) := FB.new w noF
    have HB1 := Hid.intro' ((Below.refl w.heap.size w).alloc (Nat.le_refl _) (.cells #[.int .i64 0, .int .i64 0, .int .i64 0, .int .i64 0, .int .i64 0, .int .i64 0] 26))
    have hgb : g ≠ w.heap.size := by omega
    generalize w.alloc (.cells #[.int .i64 0, .int .i64 0, .int .i64 0, .int .i64 0, .int .i64 0, .int .i64 0] 26) = W1 at HR HN1 HB1 ⊢
    clear c0 c1 c2 c3 c4 c5 c6 c7 c8 c9
    have hc8 : (8 : Int) ≤ (cap : Int) := by omega
    have c8 := HR.out.cell (i := 8) rfl
    have c9 := HR.out.cell (i := 9) rfl
    have b1 : x1 < 256 := HB.out x1 (by simp)
    have b2 : x2 < 256 := HB.out x2 (by simp)
    have b3 : x3 < 256 := HB.out x3 (by simp)
    have b4 : x4 < 256 := HB.out x4 (by simp)
    have b5 : x5 < 256 := HB.out x5 (by simp)
    have b6 : x6 < 256 := HB.out x6 (by simp)
    have b7 : x7 < 256 := HB.out x7 (by simp)
    have b8 : x8 < 256 := HB.out x8 (by simp)
    have b9 : x9 < 256 := HB.out x9 (by simp)
    have HR8 := Hid.intro' (HR.out.take 8 (by simp))
    refine wp_region_still_tail 11 (by kernel_rfl) (by kernel_rfl) ?_
    simp only [List.take_succ_cons, List.take_zero, List.drop_succ_cons, List.drop_zero]
    unfold wpStill
    generalize hK : wpStill Try.prog _ _ _ _ = K
    go_simp
    subst hK
    unfold wpStill
    generalize hK : wpStill Try.prog _ _ _ _ = K
    go_simp
    subst hK
    unfold wpStill
    generalize hK : wpStill Try.prog _ _ _ _ = K
    go_simp
    subst hK
    unfold wpStill
    generalize hK : wpStill Try.prog _ _ _ _ = K
    go_simp
    subst hK
    unfold wpStill
    generalize hK : wpStill Try.prog _ _ _ _ = K
    go_simp
    subst hK
    unfold wpStill
    generalize hK : wpStill Try.prog _ _ _ _ = K
    go_simp
    subst hK
    unfold wpStill
    generalize hK : wpStill Try.prog _ _ _ _ = K
    go_simp
    refine ⟨_, joined_any x8 x9 b8 b9 _, ?_⟩
    subst hK
    unfold wpStill
    generalize hK : wpStill Try.prog _ _ _ _ = K
    go_simp
    subst hK
    unfold wpStill
    generalize hK : wpStill Try.prog _ _ _ _ = K
    go_simp
    subst hK
    unfold wpStill
    generalize hK : wpStill Try.prog _ _ _ _ = K
    go_simp
    refine ⟨_, sum_any _ _ _ HR8.out.drew, ?_⟩
    subst hK
    unfold wpStill
    generalize hK : wpStill Try.prog _ _ _ _ = K
    go_simp
    subst hK
    refine wpStill_nil ?_
    change wpList Try.prog _ _ _ _ W1.drew
    have HN2 := Hid.intro' HN1.out.drew
    have HR2 := Hid.intro' HR.out.drew
    have HB2 := Hid.intro' HB1.out.drew
    clear HR HN1 HB1 c8 c9 HR8
    generalize W1.drew = W2 at HR2 HN2 HB2 ⊢
    generalize hcr : FC.crc [165, x1, x2, x3, x4, x5, x6, x7] = n
    have HC := Hid.intro' hcr
    clear hcr
    by_cases hs : n = x8 * 256 + x9
    · have hs1 : ((x8 : Int) * 256 + (x9 : Int) != (n : Int)) = false := by simp; omega
      have HS := Hid.intro' hs
      clear hs
      have c1 := HR2.out.cell (i := 1) rfl
      go_wp2_with fail
      refine (isKind_any _ _).mono ?_
      rintro e W3 ⟨rfl, hb3⟩
      have HN3 := Hid.intro' (HN2.out.below' hb3)
      have HR3 := Hid.intro' (HR2.out.below' hb3)
      have HB3 := Hid.intro' (below_class HB2.out hb3)
      clear hb3 HN2 HR2 HB2 c1
      cases hk : inB 1 3 [(x1 : Int)] with
      | false =>
        go_wp2_with (refine wpList_storeF rfl _ _ rfl w.heap.size rfl rfl (f' := noF) HN3.out ?_)
        intro W4 hF4 hk4
        have HN4 := Hid.intro' hF4
        have HB4 := Hid.intro' (hk4.below HB3.out HB3.out.size (fun i hi e => by omega))
        clear hF4 hk4 HN3 HB3
        go_wp2
        have e1 : FC.de [165, x1, x2, x3, x4, x5, x6, x7, x8, x9] = 3 := by
          rw [de_ten, if_pos rfl, if_pos (HC.out.trans HS.out), if_neg]
          intro h
          rw [Bool.eq_false_iff] at hk
          exact hk (inB_iff.2 (by simp; omega))
        refine bodyPost_ret (retF2 Try.results16 rfl rfl HN4.out) rfl ⟨?_, HB4.out⟩
        rw [df_no (by omega), e1]; rfl
      | true =>
        have v1 := i64_byte b1
        have v2 := i64_byte b2
        have v5 := i64_byte b5
        have v6 := i64_byte b6
        have v7 := i64_byte b7
        have c1 := HR3.out.cell (i := 1) rfl
        have c2 := HR3.out.cell (i := 2) rfl
        have c3 := HR3.out.cell (i := 3) rfl
        have c4 := HR3.out.cell (i := 4) rfl
        have c5 := HR3.out.cell (i := 5) rfl
        have c6 := HR3.out.cell (i := 6) rfl
        have c7 := HR3.out.cell (i := 7) rfl
        go_wp2_with fail
        refine wp_region_still_tail 28 (by kernel_rfl) (by kernel_rfl) ?_
        simp only [List.take_succ_cons, List.take_zero, List.drop_succ_cons, List.drop_zero]
        unfold wpStill
        generalize hK : wpStill Try.prog _ _ _ _ = K
        go_simp
        subst hK
        unfold wpStill
        generalize hK : wpStill Try.prog _ _ _ _ = K
        go_simp
        subst hK
        unfold wpStill
        generalize hK : wpStill Try.prog _ _ _ _ = K
        go_simp
        subst hK
        unfold wpStill
        generalize hK : wpStill Try.prog _ _ _ _ = K
        go_simp
        subst hK
        unfold wpStill
        generalize hK : wpStill Try.prog _ _ _ _ = K
        go_simp
        subst hK
        unfold wpStill
        generalize hK : wpStill Try.prog _ _ _ _ = K
        go_simp
        subst hK
        unfold wpStill
        generalize hK : wpStill Try.prog _ _ _ _ = K
        go_simp
        subst hK
        unfold wpStill
        generalize hK : wpStill Try.prog _ _ _ _ = K
        go_simp
        subst hK
        unfold wpStill
        generalize hK : wpStill Try.prog _ _ _ _ = K
        go_simp
        subst hK
        unfold wpStill
        generalize hK : wpStill Try.prog _ _ _ _ = K
        go_simp
        subst hK
        unfold wpStill
        generalize hK : wpStill Try.prog _ _ _ _ = K
        go_simp
        subst hK
        unfold wpStill
        generalize hK : wpStill Try.prog _ _ _ _ = K
        go_simp
        subst hK
        unfold wpStill
        generalize hK : wpStill Try.prog _ _ _ _ = K
        go_simp
        subst hK
        unfold wpStill
        generalize hK : wpStill Try.prog _ _ _ _ = K
        go_simp
        subst hK
        unfold wpStill
        generalize hK : wpStill Try.prog _ _ _ _ = K
        go_simp
        refine ⟨_, joined_any x3 x4 b3 b4 _, ?_⟩
        subst hK
        unfold wpStill
        generalize hK : wpStill Try.prog _ _ _ _ = K
        go_simp
        subst hK
        unfold wpStill
        generalize hK : wpStill Try.prog _ _ _ _ = K
        go_simp
        subst hK
        unfold wpStill
        generalize hK : wpStill Try.prog _ _ _ _ = K
        go_simp
        subst hK
        unfold wpStill
        generalize hK : wpStill Try.prog _ _ _ _ = K
        go_simp
        subst hK
        unfold wpStill
        generalize hK : wpStill Try.prog _ _ _ _ = K
        go_simp
        subst hK
        unfold wpStill
        generalize hK : wpStill Try.prog _ _ _ _ = K
        go_simp
        subst hK
        unfold wpStill
        generalize hK : wpStill Try.prog _ _ _ _ = K
        go_simp
        subst hK
        unfold wpStill
        generalize hK : wpStill Try.prog _ _ _ _ = K
        go_simp
        subst hK
        unfold wpStill
        generalize hK : wpStill Try.prog _ _ _ _ = K
        go_simp
        subst hK
        unfold wpStill
        generalize hK : wpStill Try.prog _ _ _ _ = K
        go_simp
        subst hK
        unfold wpStill
        generalize hK : wpStill Try.prog _ _ _ _ = K
        go_simp
        subst hK
        unfold wpStill
        generalize hK : wpStill Try.prog _ _ _ _ = K
        go_simp
        subst hK
        unfold wpStill
        generalize hK : wpStill Try.prog _ _ _ _ = K
        go_simp
        subst hK
        refine wpStill_nil ?_
        change wpList Try.prog _ _ _ _ W3.drew
        have HN4 := Hid.intro' HN3.out.drew
        have HB4 := Hid.intro' HB3.out.drew
        clear HR3 HN3 HB3
        generalize W3.drew = W4 at HN4 HB4 ⊢
        refine wpList_storeF rfl _ _ rfl w.heap.size rfl rfl (f' := ⟨x1, x2, x3 * 256 + x4, x5, x6, x7⟩) HN4.out ?_
        intro W5 hF5 hk5
        have HN5 := Hid.intro' hF5
        have HB5 := Hid.intro' (hk5.below HB4.out HB4.out.size (fun i hi e => by omega))
        clear hF5 hk5 HN4 HB4
        go_wp2
        have e1 : FC.de [165, x1, x2, x3, x4, x5, x6, x7, x8, x9] = 0 := by
          rw [de_ten, if_pos rfl, if_pos (HC.out.trans HS.out), if_pos]
          have := inB_iff.1 hk
          simp at this
          omega
        refine bodyPost_ret (retF2 Try.results16 rfl rfl HN5.out) rfl ⟨?_, HB5.out⟩
        rw [df_yes e1, e1]; rfl
    · have hs1 : ((x8 : Int) * 256 + (x9 : Int) != (n : Int)) = true := by simp; omega
      have HS := Hid.intro' hs
      clear hs
      go_wp2_with (refine wpList_storeF rfl _ _ rfl w.heap.size rfl rfl (f' := noF) HN2.out ?_)
      intro W3 hF3 hk3
      have HN3 := Hid.intro' hF3
      have HB3 := Hid.intro' (hk3.below HB2.out HB2.out.size (fun i hi e => by omega))
      clear hF3 hk3 HN2 HB2
      go_wp2
      have e1 : FC.de [165, x1, x2, x3, x4, x5, x6, x7, x8, x9] = 6 := by
        rw [de_ten, if_pos rfl, if_neg (fun e => HS.out (HC.out.symm.trans e))]
      refine bodyPost_ret (retF2 Try.results16 rfl rfl HN3.out) rfl ⟨?_, HB3.out⟩
      rw [df_no (by omega), e1]; rfl
  · have hz : ((x0 : Int) != 165) = true := by simp; omega
    go_enter Try.func16, Try.ntmps16
    go_wp2
    have e1 : FC.de [x0, x1, x2, x3, x4, x5, x6, x7, x8, x9] = 3 := by unfold FC.de; rw [if_neg (fun e => h0 e.2)]
    have e2 : FC.df [x0, x1, x2, x3, x4, x5, x6, x7, x8, x9] = noF := by unfold FC.df; rw [e1]; rfl
    rw [e1, e2]
    exact bodyPost_ret (v := .tuple #[.agg #[.int .i64 noF.ki, .int .i64 noF.ca, .int .i64 noF.sq, .int .i64 noF.a, .int .i64 noF.b, .int .i64 noF.c], .int .i64 3]) (by simp [results, Try.results16, go_sem, noF]) rfl ⟨rfl, (Below.refl _ _).alloc (Nat.le_refl _) _⟩

end Go.Proofs.Ytkbfljacjfaamae
