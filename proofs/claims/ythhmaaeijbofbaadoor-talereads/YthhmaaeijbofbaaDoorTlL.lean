/- An event as a line, as the document has it. -/
import Derived.Test.YthhmaaeijbofbaaDoorTlI
import Derived.Test.YthhmaaeijbofbaaDoorQuL
namespace Go.Proofs.YthhmaaeijbofbaaDoor
open Go.RowKit

theorem dg_len : ∀ (k m : Nat), (TM.dg k m).length ≤ k
  | 0, _ => Nat.le_refl _
  | k + 1, m => by
    have := dg_len k (m / 10)
    unfold TM.dg
    split
    · simp
    · rw [List.length_append]; simp; omega
theorem num_len (n : Int) : (TM.num n).length ≤ 21 := by
  have h : (TM.dec n.natAbs).length ≤ 20 := by
    unfold TM.dec
    split
    · simp
    · exact dg_len 20 _
  unfold TM.num
  split
  · rw [List.length_cons]; omega
  · omega
def ecs (e : TM.Ev) : Array Value := #[.int .i64 e.ki, .int .i64 e.a, .int .i64 e.b, .bool e.on, .int .i64 e.fl, .int .i64 e.ca, .int .i64 e.ag, .bool e.up]
/-- a block that holds an event -/
def EB (W : World) (b : Nat) (e : TM.Ev) : Prop := W.heap[b]? = some (.cells #[.int .i64 e.ki, .int .i64 e.a, .int .i64 e.b, .bool e.on, .int .i64 e.fl, .int .i64 e.ca, .int .i64 e.ag, .bool e.up] 25 (0, 0))
section
variable {W W' : World} {b : Nat} {e : TM.Ev}
theorem EB.lt (H : EB W b e) : b < W.heap.size := (Array.getElem?_eq_some_iff.1 H).1
theorem EB.below' (H : EB W b e) (hb : Below W.heap.size W W') : EB W' b e := (hb.block b H.lt).trans H
theorem EB.cell (H : EB W b e) (i : Nat) : W.cell? ⟨b, i, none⟩ = (#[Value.int .i64 e.ki, .int .i64 e.a, .int .i64 e.b, .bool e.on, .int .i64 e.fl, .int .i64 e.ca, .int .i64 e.ag, .bool e.up] : Array Value)[i]? := by simp [World.cell?, show W.heap[b]? = _ from H]
theorem EB.new (W : World) (e : TM.Ev) : EB (W.alloc (.cells #[.int .i64 e.ki, .int .i64 e.a, .int .i64 e.b, .bool e.on, .int .i64 e.fl, .int .i64 e.ca, .int .i64 e.ag, .bool e.up] 25)) W.heap.size e := World.alloc_heap_new W _
end
theorem quiet_cat {C : World → Prop} {K : Act → Prop} {o : Oper} {a : Act} (x y : Operand) (u v : List UInt8) (ho : o.op = .binOp .add 9 x y 9) (hx : a.eval x = .string (sb u)) (hy : a.eval y = .string (sb v)) (hl : u.length + v.length ≤ 1000) (h : K (a.put o.dst (.string (sb (u ++ v))))) : o.quiet Tryd.prog a C K :=
  quiet_val _ (fun w _ => by
    unfold execOp
    have hn : ¬ 9223372036854775807 < u.length + v.length := by omega
    simp only [ho, hx, hy]
    simp [go_sem, sb_size, sb_append, hn]) h

theorem rint_b (n : Int) (h : TM.In64 n) (w : World) : Calls Tryd.prog 17 #[.int .i64 n] w fun e w' => e = .returned (.string (sb (TM.num n))) ∧ Below w.heap.size w w' := (rint_any n h w).mono fun _ _ hh => ⟨hh.1, hh.2 ▸ Below.refl _ _⟩
theorem rtruth_b (x : Bool) (w : World) : Calls Tryd.prog 18 #[.bool x] w fun e w' => e = .returned (.string (sb (32 :: TM.tr x))) ∧ Below w.heap.size w w' := (rtruth_any x w).mono fun _ _ hh => ⟨hh.1, hh.2 ▸ Below.refl _ _⟩
theorem ret_str {a b : List UInt8} (h : a = b) : Ending.returned (.string (sb a)) = .returned (.string (sb b)) := by rw [h]
theorem quiet_load4S {C : World → Prop} {K : Act → Prop} {o : Oper} {a : Act} (x : Operand) (b k : Nat) {v : Bool} (ho : o.op = .load 4 x) (hx : a.eval x = .pointer (some ⟨b, k, none⟩)) (hr : ∀ w, C w → w.cell? ⟨b, k, none⟩ = some (.bool v)) (h : K (a.put o.dst (.bool v))) : o.quiet Tryd.prog a C K :=
  quiet_val _ (fun w hw => by
    have hc := hr w hw
    unfold execOp
    simp only [ho, hx]
    simp [go_sem, hc]) h
set_option maxRecDepth 100000 in
set_option maxHeartbeats 4000000 in
theorem rline_any (e : TM.Ev) (ok : TM.Ok e) (w : World) : Calls Tryd.prog 9 #[.agg #[.int .i64 e.ki, .int .i64 e.a, .int .i64 e.b, .bool e.on, .int .i64 e.fl, .int .i64 e.ca, .int .i64 e.ag, .bool e.up]] w fun r w' => r = .returned (.string (sb (TM.line e))) ∧ Below w.heap.size w w' := by
  have HB0 := Hid.intro'' ((Below.refl w.heap.size w).alloc (Nat.le_refl _) (.cells #[.int .i64 e.ki, .int .i64 e.a, .int .i64 e.b, .bool e.on, .int .i64 e.fl, .int .i64 e.ca, .int .i64 e.ag, .bool e.up] 25))
  have HE0 := Hid.intro'' (EB.new w e)
  have HOK := Hid.intro'' ok
  clear ok
  obtain ⟨out, HO⟩ : ∃ x, Hid (TM.line e = x) := ⟨_, Hid.intro'' rfl⟩
  rw [HO.out]
  go_enter Tryd.func9, Tryd.ntmps9
  have m1 : (w.alloc (.cells #[.int .i64 e.ki, .int .i64 e.a, .int .i64 e.b, .bool e.on, .int .i64 e.fl, .int .i64 e.ca, .int .i64 e.ag, .bool e.up] 25)).cell? ⟨w.heap.size, 1, none⟩ = some (.int .i64 e.a) := HE0.out.cell 1
  go_wp2_with fail
  clear m1
  generalize w.alloc (.cells #[.int .i64 e.ki, .int .i64 e.a, .int .i64 e.b, .bool e.on, .int .i64 e.fl, .int .i64 e.ca, .int .i64 e.ag, .bool e.up] 25) = V at HB0 HE0 ⊢
  refine (rint_any e.a HOK.out.a _).mono ?_
  rintro r W1 ⟨rfl, rfl⟩
  obtain ⟨u, hu⟩ : ∃ u, TM.num e.a = u := ⟨_, rfl⟩
  have hul : u.length ≤ 21 := by rw [← hu]; exact num_len _
  have HU := Hid.intro'' hu
  rw [hu]
  clear hu
  have hap : ∀ a b, sb a ++ sb b = sb (a ++ b) := sb_append
  have hss : ∀ a, (sb a).size = a.length := sb_size
  have hb0 : (⟨#[32]⟩ : ByteArray) = sb [32] := rfl
  have hb3 : (⟨#[108, 111, 115, 101]⟩ : ByteArray) = sb [108, 111, 115, 101] := rfl
  have hb4 : (⟨#[97, 103, 97, 105, 110]⟩ : ByteArray) = sb [97, 103, 97, 105, 110] := rfl
  have hb5 : (⟨#[98, 108, 111, 99, 107]⟩ : ByteArray) = sb [98, 108, 111, 99, 107] := rfl
  have hb6 : (⟨#[102, 97, 117, 108, 116]⟩ : ByteArray) = sb [102, 97, 117, 108, 116] := rfl
  have hb7 : (⟨#[111, 118, 101, 114]⟩ : ByteArray) = sb [111, 118, 101, 114] := rfl
  have m0 : W1.cell? ⟨w.heap.size, 0, none⟩ = some (.int .i64 e.ki) := HE0.out.cell 0
  have m3 : W1.cell? ⟨w.heap.size, 3, none⟩ = some (.bool e.on) := HE0.out.cell 3
  by_cases k1 : e.ki = 1
  · have d1 : (e.ki == 1) = true := by simp [k1]
    obtain ⟨x, hx⟩ : ∃ u, TM.num e.fl = u := ⟨_, rfl⟩
    obtain ⟨y, hy⟩ : ∃ u, TM.num e.ca = u := ⟨_, rfl⟩
    have hxl : x.length ≤ 21 := by rw [← hx]; exact num_len _
    have hyl : y.length ≤ 21 := by rw [← hy]; exact num_len _
    have htl : (TM.tr e.up).length ≤ 1 := by cases e.up <;> decide
    have HL : Hid (((((([112, 114, 101, 115, 115, 32] : List UInt8) ++ x) ++ [32]) ++ y) ++ (32 :: TM.tr e.up)) = out) := by show _ = _; rw [← HO.out, TM.line_is (show 1 ≤ e.ki ∧ e.ki ≤ 8 by omega)]; unfold TM.word TM.args; simp [k1, TM.glue, TM.wPress, hx, hy]
    have HX : Hid (∀ w', Calls Tryd.prog 17 #[.int .i64 e.fl] w' fun r w'' => r = .returned (.string (sb x)) ∧ Below w'.heap.size w' w'') := fun w' => by rw [← hx]; exact rint_b _ HOK.out.fl w'
    have HY : Hid (∀ w', Calls Tryd.prog 17 #[.int .i64 e.ca] w' fun r w'' => r = .returned (.string (sb y)) ∧ Below w'.heap.size w' w'') := fun w' => by rw [← hy]; exact rint_b _ HOK.out.ca w'
    have H4 : Hid (∀ w', Below W1.heap.size W1 w' → w'.cell? ⟨w.heap.size, 4, none⟩ = some (.int .i64 e.fl)) := fun w' hw => (HE0.out.below' hw).cell 4
    have H5 : Hid (∀ w', Below W1.heap.size W1 w' → w'.cell? ⟨w.heap.size, 5, none⟩ = some (.int .i64 e.ca)) := fun w' hw => (HE0.out.below' hw).cell 5
    have H7 : Hid (∀ w', Below W1.heap.size W1 w' → w'.cell? ⟨w.heap.size, 7, none⟩ = some (.bool e.up)) := fun w' hw => (HE0.out.below' hw).cell 7
    clear k1 HU HO hx hy
    go_upto_region 4 with (fail)
    refine wp_region_quiet (C := fun w' => Below W1.heap.size W1 w') (by kernel_rfl) (by kernel_rfl) ((Below.refl _ _).drew) ?_
    simp only []
    unfold wpQuiet
    generalize hK : wpQuiet Tryd.prog _ _ _ _ = K
    go_simp
    refine ⟨_, fun _ _ => rfl, ?_⟩
    subst hK
    unfold wpQuiet
    generalize hK : wpQuiet Tryd.prog _ _ _ _ = K
    go_simp
    refine ⟨_, fun _ _ => rfl, ?_⟩
    subst hK
    unfold wpQuiet
    generalize hK : wpQuiet Tryd.prog _ _ _ _ = K
    rw [if_pos (by go_simp)]
    refine quiet_load3 _ _ _ rfl rfl H4.out ?_
    go_simp
    subst hK
    unfold wpQuiet
    generalize hK : wpQuiet Tryd.prog _ _ _ _ = K
    go_simp
    refine ⟨_, fun w' hw => (HX.out w').mono fun e w'' hh => ⟨hh.1, below_class hw hh.2⟩, ?_⟩
    subst hK
    unfold wpQuiet
    generalize hK : wpQuiet Tryd.prog _ _ _ _ = K
    rw [if_pos (by go_simp)]
    refine quiet_cat _ _ [112, 114, 101, 115, 115, 32] x rfl rfl rfl (by simp; omega) ?_
    go_simp
    subst hK
    unfold wpQuiet
    generalize hK : wpQuiet Tryd.prog _ _ _ _ = K
    rw [if_pos (by go_simp)]
    refine quiet_cat _ _ _ [32] rfl rfl rfl (by simp; omega) ?_
    go_simp
    subst hK
    unfold wpQuiet
    generalize hK : wpQuiet Tryd.prog _ _ _ _ = K
    go_simp
    refine ⟨_, fun _ _ => rfl, ?_⟩
    subst hK
    unfold wpQuiet
    generalize hK : wpQuiet Tryd.prog _ _ _ _ = K
    go_simp
    refine ⟨_, fun _ _ => rfl, ?_⟩
    subst hK
    unfold wpQuiet
    generalize hK : wpQuiet Tryd.prog _ _ _ _ = K
    rw [if_pos (by go_simp)]
    refine quiet_load3 _ _ _ rfl rfl H5.out ?_
    go_simp
    subst hK
    unfold wpQuiet
    generalize hK : wpQuiet Tryd.prog _ _ _ _ = K
    go_simp
    refine ⟨_, fun w' hw => (HY.out w').mono fun e w'' hh => ⟨hh.1, below_class hw hh.2⟩, ?_⟩
    subst hK
    unfold wpQuiet
    generalize hK : wpQuiet Tryd.prog _ _ _ _ = K
    rw [if_pos (by go_simp)]
    refine quiet_cat _ _ _ y rfl rfl rfl (by simp; omega) ?_
    go_simp
    subst hK
    unfold wpQuiet
    generalize hK : wpQuiet Tryd.prog _ _ _ _ = K
    go_simp
    refine ⟨_, fun _ _ => rfl, ?_⟩
    subst hK
    unfold wpQuiet
    generalize hK : wpQuiet Tryd.prog _ _ _ _ = K
    go_simp
    refine ⟨_, fun _ _ => rfl, ?_⟩
    subst hK
    unfold wpQuiet
    generalize hK : wpQuiet Tryd.prog _ _ _ _ = K
    rw [if_pos (by go_simp)]
    refine quiet_load4S _ _ _ rfl rfl H7.out ?_
    go_simp
    subst hK
    unfold wpQuiet
    generalize hK : wpQuiet Tryd.prog _ _ _ _ = K
    go_simp
    refine ⟨_, fun w' hw => (rtruth_b e.up w').mono fun e w'' hh => ⟨hh.1, below_class hw hh.2⟩, ?_⟩
    subst hK
    unfold wpQuiet
    generalize hK : wpQuiet Tryd.prog _ _ _ _ = K
    rw [if_pos (by go_simp)]
    refine quiet_cat _ _ _ (32 :: TM.tr e.up) rfl rfl rfl (by simp; omega) ?_
    go_simp
    subst hK
    unfold wpQuiet
    generalize hK : wpQuiet Tryd.prog _ _ _ _ = K
    go_simp
    refine ⟨_, fun _ _ => rfl, ?_⟩
    subst hK
    refine wpQuiet_nil ?_
    intro W7 hb7
    have HB7 := Hid.intro'' (HB0.out.trans ⟨hb7.os, hb7.tape, hb7.output, hb7.size, fun k hk => hb7.block k (Nat.lt_of_lt_of_le hk HB0.out.size)⟩)
    clear hb7
    go_wp2
    go_ret
    exact ⟨ret_str (by rw [← HL.out]; simp), HB7.out⟩
  · have n1 := k1
    by_cases k2 : e.ki = 2
    · have d2 : (e.ki == 2) = true := by simp [k2]
      have d1 : (e.ki == 1) = false := by simp; omega
      obtain ⟨y, hy⟩ : ∃ u, TM.num e.b = u := ⟨_, rfl⟩
      have hyl : y.length ≤ 21 := by rw [← hy]; exact num_len _
      have htl : (TM.tr e.on).length ≤ 1 := by cases e.on <;> decide
      have HL : Hid (((((([115, 119, 105, 116, 99, 104] : List UInt8) ++ (32 :: u)) ++ [32]) ++ y) ++ (32 :: TM.tr e.on)) = out) := by show _ = _; rw [← HO.out, TM.line_is (show 1 ≤ e.ki ∧ e.ki ≤ 8 by omega)]; unfold TM.word TM.args; simp [k2, TM.glue, TM.wSwitch, hy, HU.out]
      have HY : Hid (∀ w', Calls Tryd.prog 17 #[.int .i64 e.b] w' fun r w'' => r = .returned (.string (sb y)) ∧ Below w'.heap.size w' w'') := fun w' => by rw [← hy]; exact rint_b _ HOK.out.b w'
      have H2 : Hid (∀ w', Below W1.heap.size W1 w' → w'.cell? ⟨w.heap.size, 2, none⟩ = some (.int .i64 e.b)) := fun w' hw => (HE0.out.below' hw).cell 2
      have H3 : Hid (∀ w', Below W1.heap.size W1 w' → w'.cell? ⟨w.heap.size, 3, none⟩ = some (.bool e.on)) := fun w' hw => (HE0.out.below' hw).cell 3
      clear k2 HU HO hy
      go_upto_region 6 with (fail)
      refine wp_region_quiet (C := fun w' => Below W1.heap.size W1 w') (by kernel_rfl) (by kernel_rfl) ((Below.refl _ _).drew) ?_
      simp only []
      unfold wpQuiet
      generalize hK : wpQuiet Tryd.prog _ _ _ _ = K
      go_simp
      refine ⟨_, fun _ _ => rfl, ?_⟩
      subst hK
      unfold wpQuiet
      generalize hK : wpQuiet Tryd.prog _ _ _ _ = K
      rw [if_pos (by go_simp)]
      refine quiet_cat _ _ [115, 119, 105, 116, 99, 104] (32 :: u) rfl rfl rfl (by simp; omega) ?_
      go_simp
      subst hK
      unfold wpQuiet
      generalize hK : wpQuiet Tryd.prog _ _ _ _ = K
      rw [if_pos (by go_simp)]
      refine quiet_cat _ _ _ [32] rfl rfl rfl (by simp; omega) ?_
      go_simp
      subst hK
      unfold wpQuiet
      generalize hK : wpQuiet Tryd.prog _ _ _ _ = K
      go_simp
      refine ⟨_, fun _ _ => rfl, ?_⟩
      subst hK
      unfold wpQuiet
      generalize hK : wpQuiet Tryd.prog _ _ _ _ = K
      rw [if_pos (by go_simp)]
      refine quiet_load3 _ _ _ rfl rfl H2.out ?_
      go_simp
      subst hK
      unfold wpQuiet
      generalize hK : wpQuiet Tryd.prog _ _ _ _ = K
      go_simp
      refine ⟨_, fun w' hw => (HY.out w').mono fun e w'' hh => ⟨hh.1, below_class hw hh.2⟩, ?_⟩
      subst hK
      unfold wpQuiet
      generalize hK : wpQuiet Tryd.prog _ _ _ _ = K
      rw [if_pos (by go_simp)]
      refine quiet_cat _ _ _ y rfl rfl rfl (by simp; omega) ?_
      go_simp
      subst hK
      unfold wpQuiet
      generalize hK : wpQuiet Tryd.prog _ _ _ _ = K
      go_simp
      refine ⟨_, fun _ _ => rfl, ?_⟩
      subst hK
      unfold wpQuiet
      generalize hK : wpQuiet Tryd.prog _ _ _ _ = K
      rw [if_pos (by go_simp)]
      refine quiet_load4S _ _ _ rfl rfl H3.out ?_
      go_simp
      subst hK
      unfold wpQuiet
      generalize hK : wpQuiet Tryd.prog _ _ _ _ = K
      go_simp
      refine ⟨_, fun w' hw => (rtruth_b e.on w').mono fun e w'' hh => ⟨hh.1, below_class hw hh.2⟩, ?_⟩
      subst hK
      unfold wpQuiet
      generalize hK : wpQuiet Tryd.prog _ _ _ _ = K
      rw [if_pos (by go_simp)]
      refine quiet_cat _ _ _ (32 :: TM.tr e.on) rfl rfl rfl (by simp; omega) ?_
      go_simp
      subst hK
      unfold wpQuiet
      generalize hK : wpQuiet Tryd.prog _ _ _ _ = K
      go_simp
      refine ⟨_, fun _ _ => rfl, ?_⟩
      subst hK
      refine wpQuiet_nil ?_
      intro W7 hb7
      have HB7 := Hid.intro'' (HB0.out.trans ⟨hb7.os, hb7.tape, hb7.output, hb7.size, fun k hk => hb7.block k (Nat.lt_of_lt_of_le hk HB0.out.size)⟩)
      clear hb7
      go_wp2
      go_ret
      exact ⟨ret_str (by rw [← HL.out]; simp), HB7.out⟩
    · have n2 := k2
      by_cases k3 : e.ki = 3
      · have d3 : (e.ki == 3) = true := by simp [k3]
        have d1 : (e.ki == 1) = false := by simp; omega
        have d2 : (e.ki == 2) = false := by simp; omega
        have HL : Hid ([108, 111, 115, 101] ++ 32 :: u = out) := by show _ = _; rw [← HO.out, TM.line_is (show 1 ≤ e.ki ∧ e.ki ≤ 8 by omega)]; unfold TM.word TM.args; simp [k3, TM.glue, TM.wLose, HU.out]
        clear k3 HU HO
        go_wp2
        go_ret
        exact ⟨by rw [← HL.out]; rfl, HB0.out⟩
      · have n3 := k3
        by_cases k4 : e.ki = 4
        · have d4 : (e.ki == 4) = true := by simp [k4]
          have d1 : (e.ki == 1) = false := by simp; omega
          have d2 : (e.ki == 2) = false := by simp; omega
          have d3 : (e.ki == 3) = false := by simp; omega
          have HL : Hid ([97, 103, 97, 105, 110] ++ 32 :: u = out) := by show _ = _; rw [← HO.out, TM.line_is (show 1 ≤ e.ki ∧ e.ki ≤ 8 by omega)]; unfold TM.word TM.args; simp [k4, TM.glue, TM.wAgain, HU.out]
          clear k4 HU HO
          go_wp2
          go_ret
          exact ⟨by rw [← HL.out]; rfl, HB0.out⟩
        · have n4 := k4
          by_cases k5 : e.ki = 5
          · have d5 : (e.ki == 5) = true := by simp [k5]
            have d1 : (e.ki == 1) = false := by simp; omega
            have d2 : (e.ki == 2) = false := by simp; omega
            have d3 : (e.ki == 3) = false := by simp; omega
            have d4 : (e.ki == 4) = false := by simp; omega
            have HL : Hid ([98, 108, 111, 99, 107] ++ 32 :: u = out) := by show _ = _; rw [← HO.out, TM.line_is (show 1 ≤ e.ki ∧ e.ki ≤ 8 by omega)]; unfold TM.word TM.args; simp [k5, TM.glue, TM.wBlock, HU.out]
            clear k5 HU HO
            go_wp2
            go_ret
            exact ⟨by rw [← HL.out]; rfl, HB0.out⟩
          · have n5 := k5
            by_cases k6 : e.ki = 6
            · have d6 : (e.ki == 6) = true := by simp [k6]
              have d1 : (e.ki == 1) = false := by simp; omega
              have d2 : (e.ki == 2) = false := by simp; omega
              have d3 : (e.ki == 3) = false := by simp; omega
              have d4 : (e.ki == 4) = false := by simp; omega
              have d5 : (e.ki == 5) = false := by simp; omega
              have HL : Hid (([102, 97, 117, 108, 116] ++ 32 :: u) ++ 32 :: TM.tr e.on = out) := by show _ = _; rw [← HO.out, TM.line_is (show 1 ≤ e.ki ∧ e.ki ≤ 8 by omega)]; unfold TM.word TM.args; simp [k6, TM.glue, TM.wFault, HU.out]
              have htl : (TM.tr e.on).length ≤ 1 := by cases e.on <;> decide
              clear k6 HU HO
              go_wp2_with fail
              refine (rtruth_any e.on _).mono ?_
              rintro r W2 ⟨rfl, rfl⟩
              go_wp2
              go_ret
              exact ⟨by rw [← HL.out]; rfl, HB0.out⟩
            · have n6 := k6
              by_cases k7 : e.ki = 7
              · have d7 : (e.ki == 7) = true := by simp [k7]
                have d1 : (e.ki == 1) = false := by simp; omega
                have d2 : (e.ki == 2) = false := by simp; omega
                have d3 : (e.ki == 3) = false := by simp; omega
                have d4 : (e.ki == 4) = false := by simp; omega
                have d5 : (e.ki == 5) = false := by simp; omega
                have d6 : (e.ki == 6) = false := by simp; omega
                have HL : Hid (([111, 118, 101, 114] ++ 32 :: u) ++ 32 :: TM.tr e.on = out) := by show _ = _; rw [← HO.out, TM.line_is (show 1 ≤ e.ki ∧ e.ki ≤ 8 by omega)]; unfold TM.word TM.args; simp [k7, TM.glue, TM.wOver, HU.out]
                have htl : (TM.tr e.on).length ≤ 1 := by cases e.on <;> decide
                clear k7 HU HO
                go_wp2_with fail
                refine (rtruth_any e.on _).mono ?_
                rintro r W2 ⟨rfl, rfl⟩
                go_wp2
                go_ret
                exact ⟨by rw [← HL.out]; rfl, HB0.out⟩
              · have n7 := k7
                by_cases k8 : e.ki = 8
                · have d8 : (e.ki == 8) = true := by simp [k8]
                  have d1 : (e.ki == 1) = false := by simp; omega
                  have d2 : (e.ki == 2) = false := by simp; omega
                  have d3 : (e.ki == 3) = false := by simp; omega
                  have d4 : (e.ki == 4) = false := by simp; omega
                  have d5 : (e.ki == 5) = false := by simp; omega
                  have d6 : (e.ki == 6) = false := by simp; omega
                  have d7 : (e.ki == 7) = false := by simp; omega
                  have HL : Hid ([116, 105, 99, 107] = out) := by show _ = _; rw [← HO.out, TM.line_is (show 1 ≤ e.ki ∧ e.ki ≤ 8 by omega)]; unfold TM.word TM.args; simp [k8, TM.glue, TM.wTick]
                  clear k8 HU HO
                  go_wp2
                  go_ret
                  exact ⟨by rw [← HL.out]; rfl, HB0.out⟩
                · have d1 : (e.ki == 1) = false := by simp; omega
                  have d2 : (e.ki == 2) = false := by simp; omega
                  have d3 : (e.ki == 3) = false := by simp; omega
                  have d4 : (e.ki == 4) = false := by simp; omega
                  have d5 : (e.ki == 5) = false := by simp; omega
                  have d6 : (e.ki == 6) = false := by simp; omega
                  have d7 : (e.ki == 7) = false := by simp; omega
                  have d8 : (e.ki == 8) = false := by simp; omega
                  have HL : Hid ([63] = out) := by show _ = _; rw [← HO.out]; exact (TM.line_no (fun h => by have := h.1; have := h.2; omega)).symm
                  clear HU HO
                  go_wp2
                  go_ret
                  exact ⟨by rw [← HL.out]; rfl, HB0.out⟩

end Go.Proofs.YthhmaaeijbofbaaDoor
