/- The small functions of package calls: what each answers. -/
import Derived.Test.YtiihnjfknohhbadCallL
import Derived.Test.YtiihnjfknohhbadFloorH
import Derived.Laws.StructEq
namespace Go.Proofs.Ytiihnjfknohhbad
open Go.RowKit

theorem below_drewN {B : Nat} {a w : World} (h : Below B a w) : ∀ n, Below B a (w.drewN n)
  | _ => ⟨h.os, h.tape, h.output, h.size, h.block⟩

set_option maxHeartbeats 400000 in
theorem isHall_any (c : Cl) (w : World) :
    Calls Try.prog 32 #[.agg #[.int .i64 c.fl, .int .i64 c.ca, .int .i64 c.ag, .bool c.up]] w fun e w' => e = .returned (.bool (c.ca == -1)) ∧ Below w.heap.size w w' := by
  go_enter Try.func32, Try.ntmps32
  go_wp2
  go_ret
  exact ⟨rfl, (Below.refl _ w).alloc (Nat.le_refl _) _⟩

set_option maxHeartbeats 400000 in
theorem keyOf_any (c : Cl) (w : World) :
    Calls Try.prog 35 #[.agg #[.int .i64 c.fl, .int .i64 c.ca, .int .i64 c.ag, .bool c.up]] w fun e w' => e = .returned (.agg #[.int .i64 c.fl, .int .i64 c.ca, .bool c.up]) ∧ Below w.heap.size w w' := by
  go_enter Try.func35, Try.ntmps35
  go_wp2
  refine bodyPost_ret (v := .agg #[.int .i64 c.fl, .int .i64 c.ca, .bool c.up]) (by simp [results, Try.results35, go_sem]) rfl ⟨rfl, ?_⟩
  exact ((Below.refl _ w).alloc (Nat.le_refl _) _).alloc (by simp) _

set_option maxHeartbeats 400000 in
theorem serves_any (car floor : Int) (u d : Bool) (c : Cl) (w : World) :
    Calls Try.prog 29 #[.agg #[.int .i64 car, .int .i64 floor, .bool u, .bool d], .agg #[.int .i64 c.fl, .int .i64 c.ca, .int .i64 c.ag, .bool c.up]] w fun e w' => e = .returned (.bool (KM.srv car floor u d c)) ∧ Below w.heap.size w w' := by
  go_enter Try.func29, Try.ntmps29
  go_wp2_with (go_in)
  all_goals
    go_ret
    refine ⟨ret_boo ?_, ?_⟩
    · unfold KM.srv
      simp_all
      try rfl
    · first
        | exact ((Below.refl _ w).alloc (Nat.le_refl _) _).alloc (by simp) _
        | exact (((Below.refl _ w).alloc (Nat.le_refl _) _).alloc (by simp) _).alloc (by simp; omega) _
        | exact ((((Below.refl _ w).alloc (Nat.le_refl _) _).alloc (by simp) _).alloc (by simp; omega) _).alloc (by simp; omega) _

/-- what a book's block holds -/
def PB (W : World) (b : Nat) (F C : Int) (v : Value) (s : Nat) : Prop := W.heap[b]? = some (.cells #[.int .i64 F, .int .i64 C, v, .int .u64 (s : Int)] 55 (0, 0))
section
variable {W W' : World} {b : Nat} {F C : Int} {v : Value} {s : Nat}
theorem PB.lt (H : PB W b F C v s) : b < W.heap.size := (Array.getElem?_eq_some_iff.1 H).1
theorem PB.c0 (H : PB W b F C v s) : W.cell? ⟨b, 0, none⟩ = some (.int .i64 F) := by simp [World.cell?, show W.heap[b]? = _ from H]
theorem PB.c1 (H : PB W b F C v s) : W.cell? ⟨b, 1, none⟩ = some (.int .i64 C) := by simp [World.cell?, show W.heap[b]? = _ from H]
theorem PB.c2 (H : PB W b F C v s) : W.cell? ⟨b, 2, none⟩ = some v := by simp [World.cell?, show W.heap[b]? = _ from H]
theorem PB.c3 (H : PB W b F C v s) : W.cell? ⟨b, 3, none⟩ = some (.int .u64 (s : Int)) := by simp [World.cell?, show W.heap[b]? = _ from H]
theorem PB.fr (H : PB W b F C v s) (i : Nat) : W.frozen? ⟨b, i, none⟩ = false := by simp [World.frozen?, show W.heap[b]? = _ from H]
theorem PB.keep (H : PB W b F C v s) (hk : W'.heap[b]? = W.heap[b]?) : PB W' b F C v s := hk.trans H
theorem PB.below' (H : PB W b F C v s) (hb : Below W.heap.size W W') : PB W' b F C v s := H.keep (hb.block b H.lt)
theorem PB.alloc (H : PB W b F C v s) (o : Obj) : PB (W.alloc o) b F C v s := H.below' ((Below.refl _ _).alloc (Nat.le_refl _) o)
theorem PB.kp {G : Nat → Prop} (H : PB W b F C v s) (k : Kp G W W') (hG : ¬ G b) : PB W' b F C v s := H.keep (k.block b H.lt hG)
theorem PB.set2 (H : PB W b F C v s) (u : Value) : PB (W.setCell ⟨b, 2, none⟩ u) b F C u s := heap_setCell_same W b 2 _ _ u H
theorem PB.set3 (H : PB W b F C v s) (u : Nat) : PB (W.setCell ⟨b, 3, none⟩ (.int .u64 (u : Int))) b F C v u := heap_setCell_same W b 3 _ _ _ H
end

set_option maxHeartbeats 400000 in
theorem new_any (a : Array Value) (F C : Int) (h0 : a[0]? = some (.int .i64 F)) (h1 : a[1]? = some (.int .i64 C)) (w : World) :
    Calls Try.prog 8 #[.agg a] w fun e w' => ∃ b, e = .returned (.pointer (some ⟨b, 0, none⟩)) ∧ w.heap.size ≤ b ∧ Below w.heap.size w w' ∧ PB w' b F C (.slice none 0 0) 0 := by
  go_enter Try.func8, Try.ntmps8
  go_wp2
  go_ret
  refine ⟨_, rfl, ?_, ((Below.refl _ w).alloc (Nat.le_refl _) _).alloc (by simp) _, heap_alloc2_new w _ _⟩
  omega

set_option maxHeartbeats 400000 in
theorem hasFloor_any (b : Nat) (F C : Int) (v : Value) (s : Nat) (f : Int) (w : World) (H : PB w b F C v s) :
    Calls Try.prog 22 #[.pointer (some ⟨b, 0, none⟩), .int .i64 f] w fun e w' => e = .returned (.bool (decide (0 ≤ f) && decide (f < F))) ∧ w' = w := by
  have c0 := H.c0
  clear H
  go_enter Try.func22, Try.ntmps22
  go_wp2
  all_goals
    go_ret
    refine ⟨ret_boo ?_, rfl⟩
    simp_all <;> omega

set_option maxHeartbeats 400000 in
theorem canBe_any (b : Nat) (F C : Int) (v : Value) (s : Nat) (c : Cl) (w : World) (H : PB w b F C v s) (h1 : 2 ≤ F) (h2 : F ≤ 64) :
    Calls Try.prog 23 #[.pointer (some ⟨b, 0, none⟩), .agg #[.int .i64 c.fl, .int .i64 c.ca, .int .i64 c.ag, .bool c.up]] w fun e w' => e = .returned (.bool (KM.can F c)) ∧ Below w.heap.size w w' := by
  have c0 := H.c0
  have hlt := H.lt
  clear H
  go_enter Try.func23, Try.ntmps23
  go_wp2_with (go_in)
  all_goals try (go_quiet (fail); go_wp2)
  all_goals
    go_ret
    refine ⟨ret_boo ?_, ?_⟩
    · unfold KM.can
      simp_all
      try rfl
    · first
        | exact ((Below.refl _ w).alloc (Nat.le_refl _) _).alloc (by simp) _
        | exact below_drewN (((Below.refl _ w).alloc (Nat.le_refl _) _).alloc (by simp) _) _

/-- a key in memory -/
def KB (W : World) (b : Nat) (c : Cl) : Prop := W.heap[b]? = some (.cells #[.int .i64 c.fl, .int .i64 c.ca, .bool c.up] 67 (0, 0))
section
variable {W W' : World} {b : Nat} {c : Cl}
theorem KB.lt (H : KB W b c) : b < W.heap.size := (Array.getElem?_eq_some_iff.1 H).1
theorem KB.c0 (H : KB W b c) : W.cell? ⟨b, 0, none⟩ = some (.int .i64 c.fl) := by simp [World.cell?, show W.heap[b]? = _ from H]
theorem KB.c1 (H : KB W b c) : W.cell? ⟨b, 1, none⟩ = some (.int .i64 c.ca) := by simp [World.cell?, show W.heap[b]? = _ from H]
theorem KB.c2 (H : KB W b c) : W.cell? ⟨b, 2, none⟩ = some (.bool c.up) := by simp [World.cell?, show W.heap[b]? = _ from H]
theorem KB.below' (H : KB W b c) (hb : Below W.heap.size W W') : KB W' b c := (hb.block b H.lt).trans H
end

set_option maxHeartbeats 400000 in
theorem alike_any (c : Cl) (w : World) :
    Calls Try.prog 25 #[.agg #[.int .i64 c.fl, .int .i64 c.ca, .int .i64 c.ag, .bool c.up]] w fun e w' => ∃ B, e = .returned (.func (.func 36) #[] #[.pointer (some ⟨B, 0, none⟩)]) ∧ w.heap.size ≤ B ∧ Below w.heap.size w w' ∧ KB w' B c := by
  go_enter Try.func25, Try.ntmps25
  go_wp2_with (go_at_call 35; refine (keyOf_any _ _).mono ?_; rintro e w' ⟨rfl, hb⟩)
  go_ret
  have h1 := hb.size
  simp only [World.size_alloc] at h1
  refine ⟨_, rfl, by omega, ?_, heap_alloc_new w' _⟩
  exact ((((Below.refl _ w).alloc (Nat.le_refl _) _).trans (hb.mono (by simp)))).alloc (by omega) _

theorem infoKey : (Try.prog.info? 67).map (·.size) = some 3 := by kernel_rfl
theorem loadKey (w : World) (b : Nat) (c : Cl) (h : KB w b c) : (Instr.loadAt 67 (.pointer (some ⟨b, 0, none⟩))).run Try.prog w = .ok (.agg #[.int .i64 c.fl, .int .i64 c.ca, .bool c.up]) w := by
  simp only [Instr.loadAt, Instr.sureAddr, Sem.run_bind, Sem.run_pure, Result.andThen_ok, run_loadVar_row (P := Try.prog) w b 67 67 _ _ _ h Try.underlying67 rfl infoKey]
theorem quiet_loadKey {C : World → Prop} {K : Act → Prop} {o : Oper} {a : Act} (x : Operand) (b : Nat) {c : Cl} (ho : o.op = .load 67 x) (hx : a.eval x = .pointer (some ⟨b, 0, none⟩)) (hr : ∀ w, C w → KB w b c)
    (hn : K (a.put o.dst (.agg #[.int .i64 c.fl, .int .i64 c.ca, .bool c.up]))) : o.quiet Try.prog a C K :=
  quiet_val _ (fun w hw => by unfold execOp; simp only [ho, hx, Sem.run_bind, Sem.run_pure, Result.andThen_ok, loadKey w b c (hr w hw)]) hn
theorem eqKey (w : World) (c x : Cl) : (binOp .eql 67 (.agg #[.int .i64 x.fl, .int .i64 x.ca, .bool x.up]) (.agg #[.int .i64 c.fl, .int .i64 c.ca, .bool c.up])).run Try.prog w = .ok (.bool (KM.like c x)) w := by
  have u3 := Try.underlying3
  have u4 := Try.underlying4
  have a3 := Try.isAgg3
  have a4 := Try.isAgg4
  have z3 := Try.sizeOf3
  have z4 := Try.sizeOf4
  have hS : Try.prog.underlying 67 = some (.struct (Try.prog.fieldsOf 67)) := by kernel_rfl
  have hp : Try.prog.stoodInHeld 67 = false := by kernel_rfl
  rw [run_eql_struct, show (10000 : Nat) = 9999 + 1 from rfl, run_equalIn_agg w 9999 67 _ _ hS hp]
  simp only [Program.fieldsOf, Try.underlying67]
  go_simp
  unfold KM.like
  by_cases h1 : x.fl = c.fl <;> by_cases h2 : x.ca = c.ca <;> cases x.up <;> cases c.up <;> simp [h1, h2, Ne.symm]
  all_goals simp [Ne.symm h1]
/-- calls held against one another -/
theorem eqCall (w : World) (x y : Cl) : (Op.equalIn 10000 35 (.agg #[.int .i64 x.fl, .int .i64 x.ca, .int .i64 x.ag, .bool x.up]) (.agg #[.int .i64 y.fl, .int .i64 y.ca, .int .i64 y.ag, .bool y.up])).run Try.prog w = .ok (KM.same x y) w := by
  have u3 := Try.underlying3
  have u4 := Try.underlying4
  have a3 := Try.isAgg3
  have a4 := Try.isAgg4
  have z3 := Try.sizeOf3
  have z4 := Try.sizeOf4
  have hS : Try.prog.underlying 35 = some (.struct (Try.prog.fieldsOf 35)) := by kernel_rfl
  have hp : Try.prog.stoodInHeld 35 = false := by kernel_rfl
  rw [show (10000 : Nat) = 9999 + 1 from rfl, run_equalIn_agg w 9999 35 _ _ hS hp]
  simp only [Program.fieldsOf, Try.underlying35]
  go_simp
  unfold KM.same
  by_cases h1 : x.fl = y.fl <;> by_cases h2 : x.ca = y.ca <;> by_cases h3 : x.ag = y.ag <;> cases x.up <;> cases y.up <;> simp [h1, h2, h3]

set_option maxHeartbeats 400000 in
theorem alike1_any (c x : Cl) (B : Nat) (w : World) (H : KB w B c) :
    Calls Try.prog 36 #[.agg #[.int .i64 x.fl, .int .i64 x.ca, .int .i64 x.ag, .bool x.up], .pointer (some ⟨B, 0, none⟩)] w fun e w' => e = .returned (.bool (KM.like c x)) ∧ Below w.heap.size w w' := by
  have W1 := CB.new w x
  have h0 : Below w.heap.size w (w.alloc (.cells #[.int .i64 x.fl, .int .i64 x.ca, .int .i64 x.ag, .bool x.up] 35)) := (Below.refl _ w).alloc (Nat.le_refl _) _
  have H1 := H.below' h0
  have HB0 : Hid (Below w.heap.size w (w.alloc (.cells #[.int .i64 x.fl, .int .i64 x.ca, .int .i64 x.ag, .bool x.up] 35))) := h0
  have hx : ∀ w', Below (w.alloc (.cells #[.int .i64 x.fl, .int .i64 x.ca, .int .i64 x.ag, .bool x.up] 35)).heap.size (w.alloc (.cells #[.int .i64 x.fl, .int .i64 x.ca, .int .i64 x.ag, .bool x.up] 35)) w' → w'.rangeAt w.heap.size 0 (cv x) := fun w' h => (W1.below' h).range
  have hk : ∀ w', Below (w.alloc (.cells #[.int .i64 x.fl, .int .i64 x.ca, .int .i64 x.ag, .bool x.up] 35)).heap.size (w.alloc (.cells #[.int .i64 x.fl, .int .i64 x.ca, .int .i64 x.ag, .bool x.up] 35)) w' → KB w' B c := fun w' h => H1.below' h
  have HX := Hid.intro' hx
  have HK := Hid.intro' hk
  clear H H1 W1 h0 hx hk
  go_enter Try.func36, Try.ntmps36
  go_wp2_with fail
  generalize w.alloc (.cells #[.int .i64 x.fl, .int .i64 x.ca, .int .i64 x.ag, .bool x.up] 35) = W1 at HB0 HX HK ⊢
  refine wp_region_quiet (C := fun w' => Below W1.heap.size W1 w') (by kernel_rfl) (by kernel_rfl) ((Below.refl _ _).drew) ?_
  simp only []
  have hq := eqKey
  unfold wpQuiet
  generalize hK : wpQuiet Try.prog _ _ _ _ = K
  rw [if_pos (by go_simp)]
  refine quiet_loadK _ w.heap.size 0 rfl rfl HX.out ?_
  go_simp
  subst hK
  unfold wpQuiet
  generalize hK : wpQuiet Try.prog _ _ _ _ = K
  go_simp
  refine ⟨_, fun w' hw => (keyOf_any x _).mono fun e w'' hh => ⟨hh.1, below_class hw hh.2⟩, ?_⟩
  subst hK
  unfold wpQuiet
  generalize hK : wpQuiet Try.prog _ _ _ _ = K
  rw [if_pos (by go_simp)]
  refine quiet_loadKey _ B rfl rfl HK.out ?_
  go_simp
  subst hK
  unfold wpQuiet
  generalize hK : wpQuiet Try.prog _ _ _ _ = K
  go_simp
  refine ⟨_, fun _ _ => rfl, ?_⟩
  subst hK
  unfold wpQuiet
  generalize hK : wpQuiet Try.prog _ _ _ _ = K
  go_simp
  refine ⟨_, fun _ _ => rfl, ?_⟩
  subst hK
  refine wpQuiet_nil ?_
  intro w' hw
  go_wp2
  go_ret
  exact ⟨rfl, HB0.out.trans (hw.mono HB0.out.size)⟩

end Go.Proofs.Ytiihnjfknohhbad
