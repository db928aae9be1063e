/- An event as a line, as the program has it. -/
import Derived.Test.YthhmaaeijbofbaaDoorTlT
import Derived.Test.YthhmaaeijbofbaaDoorTlN
import Derived.Test.YthhmaaeijbofbaaDoorTlS
import Derived.Laws.Strings
import Derived.StillTail
import Derived.Lib.SmallJoins
namespace Go.Proofs.YthhmaaeijbofbaaDoor
open Go.RowKit

theorem sb_toList (l : List UInt8) : (sb l).toList = l := by rw [ByteArray.toList_eq]; simp [sb]
theorem sb_data (l : List UInt8) : (sb l).data.toList = l := by simp [sb]
theorem below_cl {B : Nat} {w W W' : World} (h : Below B w W) (hs : B ≤ W.heap.size) (hb : Below W.heap.size W W') : Below B w W' := h.trans ⟨hb.os, hb.tape, hb.output, hb.size, fun k hk => hb.block k (by omega)⟩
/-- the table of powers of ten lies in this world -/
def Pt (w : World) : Prop := Lib.TabIs Tryd.prog w Tryd.nPow .u64 Lib.pow10Tab
theorem gPt : ∃ g, Tryd.prog.globalNamed Tryd.nPow = some g := by
  cases h : Tryd.prog.globalNamed Tryd.nPow with
  | none => exact absurd h (by decide +kernel)
  | some g => exact ⟨g, rfl⟩
theorem Pt.below {w w' : World} (h : Pt w) (hb : Below w.heap.size w w') : Pt w' := by
  obtain ⟨g, hg⟩ := gPt
  exact Go.Joins.tab_stays hg h hb (Nat.le_refl _)
theorem grow_below (w : World) (k : Nat) (os : Array Obj) : Below w.heap.size w (Sort.grow (w.drewN k) os) :=
  ⟨rfl, rfl, rfl, by simp [Sort.grow], fun j hj => by simp [Sort.grow, Array.getElem?_append_left, hj]⟩
/-- the library's numeral -/
theorem itoa_any (n : Int) (h : TM.In64 n) (w : World) (hp : Pt w) : Calls Tryd.prog 13 #[.int .i64 n] w fun e w' => e = .returned (.string (sb (TM.num n))) ∧ Below w.heap.size w w' :=
  (Tryd.strconv_Itoa n h.1 h.2 w hp).mono fun e w' hh => by
    obtain ⟨he, k, os, hw⟩ := hh
    refine ⟨?_, hw ▸ grow_below w k os⟩
    rw [he, TM.itoa_num h]
    rfl
/-- a truth as a number -/
def tn (x : Bool) : Int := if x then 1 else 0
theorem number_any (x : Bool) (w : World) : Calls Tryd.prog 19 #[.bool x] w fun e w' => e = .returned (.int .i64 (tn x)) ∧ w' = w := by
  cases x
  · go_enter Tryd.func19, Tryd.ntmps19
    go_wp2
    go_ret
    exact ⟨rfl, rfl⟩
  · go_enter Tryd.func19, Tryd.ntmps19
    go_wp2
    go_ret
    exact ⟨rfl, rfl⟩

/-- the word of a kind; of none: a question mark -/
def wd (k : Int) : List UInt8 :=
  if k = 1 then TM.wPress
  else if k = 2 then TM.wSwitch
  else if k = 3 then TM.wLose
  else if k = 4 then TM.wAgain
  else if k = 5 then TM.wBlock
  else if k = 6 then TM.wFault
  else if k = 7 then TM.wOver
  else if k = 8 then TM.wTick
  else [63]
/-- the numbers of a line -/
def nums (e : TM.Ev) : List Int :=
  if e.ki = 1 then [e.fl, e.ca, tn e.up]
  else if e.ki = 2 then [e.a, e.b, tn e.on]
  else if e.ki = 3 then [e.a]
  else if e.ki = 4 then [e.a]
  else if e.ki = 5 then [e.a]
  else if e.ki = 6 then [e.a, tn e.on]
  else if e.ki = 7 then [e.a, tn e.on]
  else []
/-- numbers behind a word, as the program sets them -/
def tail : List Int → List UInt8
  | [] => []
  | n :: r => 32 :: TM.num n ++ tail r
theorem num_tr (x : Bool) : TM.num (tn x) = TM.tr x := by cases x <;> decide
theorem tail_append (l : List Int) (n : Int) : tail (l ++ [n]) = tail l ++ 32 :: TM.num n := by
  induction l with
  | nil => simp [tail]
  | cons x r ih => simp [tail, ih]
theorem line_tail (e : TM.Ev) : TM.line e = wd e.ki ++ tail (nums e) := by
  by_cases h : TM.known e
  · rw [TM.line_is h]
    rcases TM.kinds h with k | k | k | k | k | k | k | k <;> (simp only [TM.word, TM.args, wd, nums, k]; simp [TM.glue, tail, num_tr])
  · rw [TM.line_no h]
    have hk : ∀ i : Int, 1 ≤ i → i ≤ 8 → e.ki ≠ i := fun i h1 h2 he => h ⟨by omega, by omega⟩
    simp [wd, nums, tail, hk]
theorem wd_len (k : Int) : (wd k).length ≤ 6 := by
  unfold wd
  repeat' split
  all_goals decide
theorem nums_len (e : TM.Ev) : (nums e).length ≤ 3 := by
  unfold nums
  repeat' split
  all_goals simp
theorem nums_in {e : TM.Ev} (ok : TM.Ok e) : ∀ n ∈ nums e, TM.In64 n := by
  have h1 : ∀ x : Bool, TM.In64 (tn x) := fun x => by cases x <;> exact ⟨by decide, by decide⟩
  intro n hn
  unfold nums at hn
  repeat' split at hn
  all_goals
    first
      | exact absurd hn List.not_mem_nil
      | (simp only [List.mem_cons, List.not_mem_nil, or_false] at hn
         rcases hn with rfl | rfl | rfl
         · first | exact ok.fl | exact ok.a
         · first | exact ok.ca | exact ok.b
         · exact h1 _)
      | (simp only [List.mem_cons, List.not_mem_nil, or_false] at hn
         rcases hn with rfl | rfl
         · exact ok.a
         · exact h1 _)
      | (simp only [List.mem_cons, List.not_mem_nil, or_false] at hn
         subst hn
         exact ok.a)
theorem tail_len : ∀ l : List Int, (tail l).length ≤ 22 * l.length
  | [] => Nat.le_refl _
  | n :: r => by
    have h1 := tail_len r
    have h2 := num_len n
    simp only [tail, List.cons_append, List.length_cons, List.length_append]
    omega

set_option maxHeartbeats 1000000 in
theorem word_any (k : Int) (w : World) : Calls Tryd.prog 11 #[.int .i64 k] w fun e w' => e = .returned (.string (sb (wd k))) ∧ w' = w := by
  by_cases k1 : k = 1
  · subst k1
    go_enter Tryd.func11, Tryd.ntmps11
    go_wp2
    go_ret
    exact ⟨rfl, rfl⟩
  by_cases k2 : k = 2
  · subst k2
    go_enter Tryd.func11, Tryd.ntmps11
    go_wp2
    go_ret
    exact ⟨rfl, rfl⟩
  by_cases k3 : k = 3
  · subst k3
    go_enter Tryd.func11, Tryd.ntmps11
    go_wp2
    go_ret
    exact ⟨rfl, rfl⟩
  by_cases k4 : k = 4
  · subst k4
    go_enter Tryd.func11, Tryd.ntmps11
    go_wp2
    go_ret
    exact ⟨rfl, rfl⟩
  by_cases k5 : k = 5
  · subst k5
    go_enter Tryd.func11, Tryd.ntmps11
    go_wp2
    go_ret
    exact ⟨rfl, rfl⟩
  by_cases k6 : k = 6
  · subst k6
    go_enter Tryd.func11, Tryd.ntmps11
    go_wp2
    go_ret
    exact ⟨rfl, rfl⟩
  by_cases k7 : k = 7
  · subst k7
    go_enter Tryd.func11, Tryd.ntmps11
    go_wp2
    go_ret
    exact ⟨rfl, rfl⟩
  by_cases k8 : k = 8
  · subst k8
    go_enter Tryd.func11, Tryd.ntmps11
    go_wp2
    go_ret
    exact ⟨rfl, rfl⟩
  have HW : Hid ([63] = wd k) := by show _ = _; simp [wd, k1, k2, k3, k4, k5, k6, k7, k8]
  have d1 : (k == 1) = false := by simp [k1]
  have d2 : (k == 2) = false := by simp [k2]
  have d3 : (k == 3) = false := by simp [k3]
  have d4 : (k == 4) = false := by simp [k4]
  have d5 : (k == 5) = false := by simp [k5]
  have d6 : (k == 6) = false := by simp [k6]
  have d7 : (k == 7) = false := by simp [k7]
  have d8 : (k == 8) = false := by simp [k8]
  go_enter Tryd.func11, Tryd.ntmps11
  go_wp2
  go_ret
  exact ⟨congrArg (fun l => Ending.returned (Value.string (sb l))) HW.out, rfl⟩

/-- a slice that reads as these numbers -/
def IS (w : World) (v : Value) (l : List Int) : Prop := (l = [] ∧ v = .slice none 0 0) ∨ ∃ b, v = .slice (some ⟨b, 0, none⟩) l.length l.length ∧ w.heap[b]? = some (.cells (l.map (Value.int .i64)).toArray 3 (0, 0))
theorem IS.below {w w' : World} {v : Value} {l : List Int} (h : IS w v l) (hb : Below w.heap.size w w') : IS w' v l := by
  rcases h with h | ⟨b, h1, h2⟩
  · exact .inl h
  · exact .inr ⟨b, h1, (hb.block b (Array.getElem?_eq_some_iff.1 h2).1).trans h2⟩
theorem IS.new (w : World) (l : List Int) : IS (w.alloc (.cells (l.map (Value.int .i64)).toArray 3)) (.slice (some ⟨w.heap.size, 0, none⟩) l.length l.length) l := .inr ⟨_, rfl, World.alloc_heap_new w _⟩
theorem one_cell {w : World} {b : Nat} {l : List Int} (h : w.heap[b]? = some (.cells (l.map (Value.int .i64)).toArray 3 (0, 0))) {i : Nat} {n : Int} (hi : l[i]? = some n) : w.cell? ⟨b, i, none⟩ = some (.int .i64 n) := by
  simp [World.cell?, h, hi]
theorem Hid.mk' {p : Prop} (h : p) : Hid p := h

/-- behind the numbers' call -/
def NQ (w : World) (l : List Int) (r : Ending) (w' : World) : Prop := ∃ v, r = .returned v ∧ IS w' v l ∧ Below w.heap.size w w'
set_option maxRecDepth 100000 in
set_option maxHeartbeats 2000000 in
theorem numbers_any (e : TM.Ev) (w : World) : Calls Tryd.prog 12 #[.agg #[.int .i64 e.ki, .int .i64 e.a, .int .i64 e.b, .bool e.on, .int .i64 e.fl, .int .i64 e.ca, .int .i64 e.ag, .bool e.up]] w (NQ w (nums e)) := by
  have HB0 := Hid.mk' ((Below.refl w.heap.size w).alloc (Nat.le_refl _) (.cells #[.int .i64 e.ki, .int .i64 e.a, .int .i64 e.b, .bool e.on, .int .i64 e.fl, .int .i64 e.ca, .int .i64 e.ag, .bool e.up] 25))
  have HE0 := Hid.mk' (EB.new w e)
  obtain ⟨l, HN⟩ : ∃ l, Hid (nums e = l) := ⟨_, Hid.mk' rfl⟩
  rw [HN.out]
  go_enter Tryd.func12, Tryd.ntmps12
  have m0 : (w.alloc (.cells #[.int .i64 e.ki, .int .i64 e.a, .int .i64 e.b, .bool e.on, .int .i64 e.fl, .int .i64 e.ca, .int .i64 e.ag, .bool e.up] 25)).cell? ⟨w.heap.size, 0, none⟩ = some (.int .i64 e.ki) := HE0.out.cell 0
  go_upto_region 2 with fail
  clear m0
  generalize w.alloc (.cells #[.int .i64 e.ki, .int .i64 e.a, .int .i64 e.b, .bool e.on, .int .i64 e.fl, .int .i64 e.ca, .int .i64 e.ag, .bool e.up] 25) = V at HB0 HE0 ⊢
  have m1 : V.cell? ⟨w.heap.size, 1, none⟩ = some (.int .i64 e.a) := HE0.out.cell 1
  have m2 : V.cell? ⟨w.heap.size, 2, none⟩ = some (.int .i64 e.b) := HE0.out.cell 2
  have m3 : V.cell? ⟨w.heap.size, 3, none⟩ = some (.bool e.on) := HE0.out.cell 3
  have m4 : V.cell? ⟨w.heap.size, 4, none⟩ = some (.int .i64 e.fl) := HE0.out.cell 4
  have m5 : V.cell? ⟨w.heap.size, 5, none⟩ = some (.int .i64 e.ca) := HE0.out.cell 5
  have m7 : V.cell? ⟨w.heap.size, 7, none⟩ = some (.bool e.up) := HE0.out.cell 7
  by_cases k1 : e.ki = 1
  · have d1 : (e.ki == 1) = true := by simp [k1]
    have HL : Hid ([e.fl, e.ca, tn e.up] = l) := by show _ = _; rw [← HN.out]; simp [nums, k1]
    clear k1 HN
    have HF : Hid (NQ w l (.returned (.slice (some ⟨V.heap.size, 0, none⟩) 3 3)) (V.drew.alloc (.cells #[.int .i64 e.fl, .int .i64 e.ca, .int .i64 (tn e.up)] 3))) := by
      show NQ _ _ _ _
      rw [← HL.out]
      exact ⟨_, rfl, IS.new V.drew [e.fl, e.ca, tn e.up], HB0.out.drew.alloc HB0.out.size _⟩
    go_upto_region 3 with fail
    refine wp_region_still_tail 10 (by kernel_rfl) (by kernel_rfl) ?_
    simp only [List.take_succ_cons, List.take_zero, List.drop_succ_cons, List.drop_zero]
    unfold wpStill
    generalize hK : wpStill Tryd.prog _ _ _ _ = K
    go_simp
    subst hK
    unfold wpStill
    generalize hK : wpStill Tryd.prog _ _ _ _ = K
    go_simp
    subst hK
    unfold wpStill
    generalize hK : wpStill Tryd.prog _ _ _ _ = K
    go_simp
    subst hK
    unfold wpStill
    generalize hK : wpStill Tryd.prog _ _ _ _ = K
    go_simp
    subst hK
    unfold wpStill
    generalize hK : wpStill Tryd.prog _ _ _ _ = K
    go_simp
    subst hK
    unfold wpStill
    generalize hK : wpStill Tryd.prog _ _ _ _ = K
    go_simp
    subst hK
    unfold wpStill
    generalize hK : wpStill Tryd.prog _ _ _ _ = K
    go_simp
    subst hK
    unfold wpStill
    generalize hK : wpStill Tryd.prog _ _ _ _ = K
    go_simp
    subst hK
    unfold wpStill
    generalize hK : wpStill Tryd.prog _ _ _ _ = K
    go_simp
    subst hK
    unfold wpStill
    generalize hK : wpStill Tryd.prog _ _ _ _ = K
    go_simp
    refine ⟨_, number_any e.up _, ?_⟩
    subst hK
    refine wpStill_nil ?_
    go_wp2_with fail
    go_ret
    exact HF.out
  have n1 := k1
  by_cases k2 : e.ki = 2
  · have d2 : (e.ki == 2) = true := by simp [k2]
    have d1 : (e.ki == 1) = false := by simp [n1]
    have HL : Hid ([e.a, e.b, tn e.on] = l) := by show _ = _; rw [← HN.out]; simp [nums, k2]
    clear k2 HN
    have HF : Hid (NQ w l (.returned (.slice (some ⟨V.heap.size, 0, none⟩) 3 3)) (V.drew.alloc (.cells #[.int .i64 e.a, .int .i64 e.b, .int .i64 (tn e.on)] 3))) := by
      show NQ _ _ _ _
      rw [← HL.out]
      exact ⟨_, rfl, IS.new V.drew [e.a, e.b, tn e.on], HB0.out.drew.alloc HB0.out.size _⟩
    go_upto_region 5 with fail
    refine wp_region_still_tail 7 (by kernel_rfl) (by kernel_rfl) ?_
    simp only [List.take_succ_cons, List.take_zero, List.drop_succ_cons, List.drop_zero]
    unfold wpStill
    generalize hK : wpStill Tryd.prog _ _ _ _ = K
    go_simp
    subst hK
    unfold wpStill
    generalize hK : wpStill Tryd.prog _ _ _ _ = K
    go_simp
    subst hK
    unfold wpStill
    generalize hK : wpStill Tryd.prog _ _ _ _ = K
    go_simp
    subst hK
    unfold wpStill
    generalize hK : wpStill Tryd.prog _ _ _ _ = K
    go_simp
    subst hK
    unfold wpStill
    generalize hK : wpStill Tryd.prog _ _ _ _ = K
    go_simp
    subst hK
    unfold wpStill
    generalize hK : wpStill Tryd.prog _ _ _ _ = K
    go_simp
    subst hK
    unfold wpStill
    generalize hK : wpStill Tryd.prog _ _ _ _ = K
    go_simp
    refine ⟨_, number_any e.on _, ?_⟩
    subst hK
    refine wpStill_nil ?_
    go_wp2_with fail
    go_ret
    exact HF.out
  have n2 := k2
  by_cases k3 : e.ki = 3
  · have d3 : (e.ki == 3) = true := by simp [k3]
    have d1 : (e.ki == 1) = false := by simp [n1]
    have d2 : (e.ki == 2) = false := by simp [n2]
    have HL : Hid ([e.a] = l) := by show _ = _; rw [← HN.out]; simp [nums, k3]
    clear k3 HN
    have HF : Hid (NQ w l (.returned (.slice (some ⟨V.heap.size, 0, none⟩) 1 1)) (V.alloc (.cells #[.int .i64 e.a] 3))) := by
      show NQ _ _ _ _
      rw [← HL.out]
      exact ⟨_, rfl, IS.new V [e.a], HB0.out.alloc HB0.out.size _⟩
    go_wp2_with fail
    go_ret
    exact HF.out
  have n3 := k3
  by_cases k4 : e.ki = 4
  · have d4 : (e.ki == 4) = true := by simp [k4]
    have d1 : (e.ki == 1) = false := by simp [n1]
    have d2 : (e.ki == 2) = false := by simp [n2]
    have d3 : (e.ki == 3) = false := by simp [n3]
    have HL : Hid ([e.a] = l) := by show _ = _; rw [← HN.out]; simp [nums, k4]
    clear k4 HN
    have HF : Hid (NQ w l (.returned (.slice (some ⟨V.heap.size, 0, none⟩) 1 1)) (V.alloc (.cells #[.int .i64 e.a] 3))) := by
      show NQ _ _ _ _
      rw [← HL.out]
      exact ⟨_, rfl, IS.new V [e.a], HB0.out.alloc HB0.out.size _⟩
    go_wp2_with fail
    go_ret
    exact HF.out
  have n4 := k4
  by_cases k5 : e.ki = 5
  · have d5 : (e.ki == 5) = true := by simp [k5]
    have d1 : (e.ki == 1) = false := by simp [n1]
    have d2 : (e.ki == 2) = false := by simp [n2]
    have d3 : (e.ki == 3) = false := by simp [n3]
    have d4 : (e.ki == 4) = false := by simp [n4]
    have HL : Hid ([e.a] = l) := by show _ = _; rw [← HN.out]; simp [nums, k5]
    clear k5 HN
    have HF : Hid (NQ w l (.returned (.slice (some ⟨V.heap.size, 0, none⟩) 1 1)) (V.alloc (.cells #[.int .i64 e.a] 3))) := by
      show NQ _ _ _ _
      rw [← HL.out]
      exact ⟨_, rfl, IS.new V [e.a], HB0.out.alloc HB0.out.size _⟩
    go_wp2_with fail
    go_ret
    exact HF.out
  have n5 := k5
  by_cases k6 : e.ki = 6
  · have d6 : (e.ki == 6) = true := by simp [k6]
    have d1 : (e.ki == 1) = false := by simp [n1]
    have d2 : (e.ki == 2) = false := by simp [n2]
    have d3 : (e.ki == 3) = false := by simp [n3]
    have d4 : (e.ki == 4) = false := by simp [n4]
    have d5 : (e.ki == 5) = false := by simp [n5]
    have HL : Hid ([e.a, tn e.on] = l) := by show _ = _; rw [← HN.out]; simp [nums, k6]
    clear k6 HN
    have HF : Hid (NQ w l (.returned (.slice (some ⟨V.heap.size, 0, none⟩) 2 2)) (V.drew.alloc (.cells #[.int .i64 e.a, .int .i64 (tn e.on)] 3))) := by
      show NQ _ _ _ _
      rw [← HL.out]
      exact ⟨_, rfl, IS.new V.drew [e.a, tn e.on], HB0.out.drew.alloc HB0.out.size _⟩
    go_upto_region 12 with fail
    refine wp_region_still_tail 5 (by kernel_rfl) (by kernel_rfl) ?_
    simp only [List.take_succ_cons, List.take_zero, List.drop_succ_cons, List.drop_zero]
    unfold wpStill
    generalize hK : wpStill Tryd.prog _ _ _ _ = K
    go_simp
    subst hK
    unfold wpStill
    generalize hK : wpStill Tryd.prog _ _ _ _ = K
    go_simp
    subst hK
    unfold wpStill
    generalize hK : wpStill Tryd.prog _ _ _ _ = K
    go_simp
    subst hK
    unfold wpStill
    generalize hK : wpStill Tryd.prog _ _ _ _ = K
    go_simp
    subst hK
    unfold wpStill
    generalize hK : wpStill Tryd.prog _ _ _ _ = K
    go_simp
    refine ⟨_, number_any e.on _, ?_⟩
    subst hK
    refine wpStill_nil ?_
    go_wp2_with fail
    go_ret
    exact HF.out
  have n6 := k6
  by_cases k7 : e.ki = 7
  · have d7 : (e.ki == 7) = true := by simp [k7]
    have d1 : (e.ki == 1) = false := by simp [n1]
    have d2 : (e.ki == 2) = false := by simp [n2]
    have d3 : (e.ki == 3) = false := by simp [n3]
    have d4 : (e.ki == 4) = false := by simp [n4]
    have d5 : (e.ki == 5) = false := by simp [n5]
    have d6 : (e.ki == 6) = false := by simp [n6]
    have HL : Hid ([e.a, tn e.on] = l) := by show _ = _; rw [← HN.out]; simp [nums, k7]
    clear k7 HN
    have HF : Hid (NQ w l (.returned (.slice (some ⟨V.heap.size, 0, none⟩) 2 2)) (V.drew.alloc (.cells #[.int .i64 e.a, .int .i64 (tn e.on)] 3))) := by
      show NQ _ _ _ _
      rw [← HL.out]
      exact ⟨_, rfl, IS.new V.drew [e.a, tn e.on], HB0.out.drew.alloc HB0.out.size _⟩
    go_upto_region 12 with fail
    refine wp_region_still_tail 5 (by kernel_rfl) (by kernel_rfl) ?_
    simp only [List.take_succ_cons, List.take_zero, List.drop_succ_cons, List.drop_zero]
    unfold wpStill
    generalize hK : wpStill Tryd.prog _ _ _ _ = K
    go_simp
    subst hK
    unfold wpStill
    generalize hK : wpStill Tryd.prog _ _ _ _ = K
    go_simp
    subst hK
    unfold wpStill
    generalize hK : wpStill Tryd.prog _ _ _ _ = K
    go_simp
    subst hK
    unfold wpStill
    generalize hK : wpStill Tryd.prog _ _ _ _ = K
    go_simp
    subst hK
    unfold wpStill
    generalize hK : wpStill Tryd.prog _ _ _ _ = K
    go_simp
    refine ⟨_, number_any e.on _, ?_⟩
    subst hK
    refine wpStill_nil ?_
    go_wp2_with fail
    go_ret
    exact HF.out
  have n7 := k7
  have d1 : (e.ki == 1) = false := by simp [n1]
  have d2 : (e.ki == 2) = false := by simp [n2]
  have d3 : (e.ki == 3) = false := by simp [n3]
  have d4 : (e.ki == 4) = false := by simp [n4]
  have d5 : (e.ki == 5) = false := by simp [n5]
  have d6 : (e.ki == 6) = false := by simp [n6]
  have d7 : (e.ki == 7) = false := by simp [n7]
  have HL : Hid ([] = l) := by show _ = _; rw [← HN.out]; simp [nums, n1, n2, n3, n4, n5, n6, n7]
  have HF : Hid (NQ w l (.returned (.slice none 0 0)) V) := by
    show NQ _ _ _ _
    rw [← HL.out]
    exact ⟨_, rfl, .inl ⟨rfl, rfl⟩, HB0.out⟩
  clear HN n1 n2 n3 n4 n5 n6 n7 k1 k2 k3 k4 k5 k6 k7
  go_wp2
  go_ret
  exact HF.out
end Go.Proofs.YthhmaaeijbofbaaDoor
