/- Snapshots in memory, and which are right, as the program tells it. -/
import Derived.Test.YtdfdkddjkhcgdaiPk2
import Derived.Deep.Quiet
import Derived.Deep.QuietTactic
import Derived.BigQuiet
import Derived.Shelf.Abstract
import Derived.Laws.BitsLemmas
namespace Go.Proofs.Ytdfdkddjkhcgdai
open Go.RowKit

/-- a snapshot -/
structure Sn where
  st : St
  cs : List (Int × Int)
  ws : List (Int × Int)
/-- the cells of a snapshot -/
def nv (s : St) (vc vw : Value) : List Value := [.int .i64 s.fl, .int .i64 s.ca, .int .i64 s.sta, .int .i64 s.ste, .int .i64 s.sto, .int .i64 s.opn, .int .i64 s.wai, .int .i64 s.clo, .int .i64 s.nud, .int .i64 s.age, .int .i64 s.sil, .int .i64 s.bud, .int .i64 s.per, vc, vw]
theorem nv_length (s : St) (vc vw : Value) : (nv s vc vw).length = 15 := rfl
theorem info27 : (Try.prog.info? 36).map (·.size) = some 15 := by kernel_rfl
/-- a block that holds a snapshot -/
def NB (W : World) (b : Nat) (s : St) (vc vw : Value) : Prop := W.heap[b]? = some (.cells (nv s vc vw).toArray 36 (0, 0))
section
variable {W W' : World} {b : Nat} {s : St} {vc vw : Value}
theorem NB.lt (h : NB W b s vc vw) : b < W.heap.size := (Array.getElem?_eq_some_iff.1 h).1
theorem NB.cell (h : NB W b s vc vw) (i : Nat) : W.cell? ⟨b, i, none⟩ = (nv s vc vw)[i]? := by
  simp [World.cell?, show W.heap[b]? = _ from h]
theorem NB.range (h : NB W b s vc vw) : W.rangeAt b 0 (nv s vc vw) := fun j v hv => by
  rw [Nat.zero_add, h.cell, hv]
theorem NB.site (h : NB W b s vc vw) : W.rangeAt b 0 (sv s) := fun j v hv => by
  rw [Nat.zero_add, h.cell, ← hv]
  have hj : j < 13 := by have := (List.getElem?_eq_some_iff.1 hv).1; rwa [sv_length] at this
  show (sv s ++ [vc, vw])[j]? = _
  rw [List.getElem?_append_left (by rw [sv_length]; exact hj)]
theorem NB.below' (h : NB W b s vc vw) (hb : Below W.heap.size W W') : NB W' b s vc vw := (hb.block b h.lt).trans h
theorem NB.alloc (h : NB W b s vc vw) (o : Obj) : NB (W.alloc o) b s vc vw := h.below' ((Below.refl _ _).alloc (Nat.le_refl _) o)
theorem NB.drew (h : NB W b s vc vw) : NB W.drew b s vc vw := h
theorem NB.drewN (h : NB W b s vc vw) (n : Nat) : NB (W.drewN n) b s vc vw := h
theorem NB.new (W : World) (s : St) (vc vw : Value) : NB (W.alloc (.cells (nv s vc vw).toArray 36)) W.heap.size s vc vw := World.alloc_heap_new W _
theorem NB.kp {G : Nat → Prop} (h : NB W b s vc vw) (k : Kp G W W') (hG : ¬ G b) : NB W' b s vc vw := (k.block b h.lt hG).trans h
end
theorem load27 (w : World) (b : Nat) (s : St) (vc vw : Value) (h : w.rangeAt b 0 (nv s vc vw)) :
    (Instr.loadAt 36 (.pointer (some ⟨b, 0, none⟩))).run Try.prog w = .ok (.agg (nv s vc vw).toArray) w :=
  run_loadAt_mid (P := Try.prog) w b 0 36 (nv s vc vw) _ h Try.underlying36 rfl (by rw [nv_length]; exact info27)
theorem wpList_load27g {ops : Array Oper} {rest : List Oper} {op : Oper} {a : Act} {w : World} {Q : Exit → Act → World → Prop} (hgd : Region.wanted op (yielded ops a.tmps) = true) (x : Operand) (ho : op.op = .load 36 x)
    (b : Nat) (s : St) (vc vw : Value) (hx : a.eval x = .pointer (some ⟨b, 0, none⟩)) (hr : NB w b s vc vw)
    (h : wpList Try.prog ops Q rest (a.put op.dst (.agg (nv s vc vw).toArray)) w) : wpList Try.prog ops Q (op :: rest) a w :=
  wpList_step fun _ hK => by
    rw [if_pos hgd]
    unfold Oper.wp execOp
    simp only [ho, Sem.run_bind, Sem.run_pure, Result.andThen_ok, hx, load27 w b s vc vw hr.range]
    exact hK _ _ h
theorem wpList_load23n {ops : Array Oper} {rest : List Oper} {op : Oper} {a : Act} {w : World} {Q : Exit → Act → World → Prop} (hgd : Region.wanted op (yielded ops a.tmps) = true) (x : Operand) (ho : op.op = .load 32 x)
    (b : Nat) (s : St) (vc vw : Value) (hx : a.eval x = .pointer (some ⟨b, 0, none⟩)) (hr : NB w b s vc vw)
    (h : wpList Try.prog ops Q rest (a.put op.dst (.agg (sv s).toArray)) w) : wpList Try.prog ops Q (op :: rest) a w :=
  wpList_step fun _ hK => by
    rw [if_pos hgd]
    unfold Oper.wp execOp
    simp only [ho, Sem.run_bind, Sem.run_pure, Result.andThen_ok, hx, load23 w b s hr.site]
    exact hK _ _ h

/-- may these be cars, wants of a site? -/
def cok (fl : Int) (x : Int × Int) : Bool := decide (0 ≤ x.1) && decide (x.1 < fl) && decide (0 ≤ x.2) && decide (x.2 ≤ 1000000)
def wok (fl : Int) (n : Nat) (x : Int × Int) : Bool := decide (0 ≤ x.1) && decide (x.1 < fl) && decide (0 < x.2) && decide (x.2 < 2 ^ n)
/-- is a snapshot right? -/
def rgt (s : Sn) : Bool := rightB s.st && decide ((s.cs.length : Int) = s.st.ca) && decide (s.ws.length ≤ 128) && s.cs.all (cok s.st.fl) && s.ws.all (wok s.st.fl s.st.ca.toNat)

/-- the low bits of a number -/
theorem i64_mask (n m : Int) (k : Nat) (hk : k ≤ 62) (hm : (BitVec.ofInt 64 m).toNat = 2 ^ k - 1) : bits .and .i64 n m = n % (2 ^ k : Nat) := by
  have key : (BitVec.ofInt 64 n &&& BitVec.ofInt 64 m).toNat = (n % ((2 ^ 64 : Nat) : Int)).toNat % 2 ^ k := by
    rw [BitVec.toNat_and, BitVec.toNat_ofInt, hm, Nat.and_two_pow_sub_one_eq_mod]
  show IntKind.i64.wrap ((BitVec.ofInt 64 n &&& BitVec.ofInt 64 m).toNat : Nat) = _
  have hd : (2 : Nat) ^ k ∣ 2 ^ 64 := Nat.pow_dvd_pow 2 (by omega)
  have hle : (2 : Nat) ^ k ≤ 2 ^ 62 := Nat.pow_le_pow_right (by decide) hk
  have hpos : 0 < (2 : Nat) ^ k := Nat.pow_pos (by decide)
  generalize hK : (2 : Nat) ^ k = K at key hd hle hpos
  rw [key]
  obtain ⟨c, hc⟩ := hd
  have h1 : ((n % ((2 ^ 64 : Nat) : Int)).toNat % K : Nat) = (n % (K : Int)).toNat := by
    have h0 : (0 : Int) ≤ n % ((2 ^ 64 : Nat) : Int) := Int.emod_nonneg _ (by decide)
    have h2 : (0 : Int) ≤ n % (K : Int) := Int.emod_nonneg _ (by omega)
    apply Int.ofNat.inj
    show (((n % ((2 ^ 64 : Nat) : Int)).toNat % K : Nat) : Int) = ((n % (K : Int)).toNat : Int)
    rw [Int.natCast_emod, Int.toNat_of_nonneg h0, Int.toNat_of_nonneg h2]
    exact Int.emod_emod_of_dvd n ⟨(c : Int), by rw [hc]; exact Int.natCast_mul K c⟩
  rw [h1, IntKind.wrap_i64]
  have h2 : (0 : Int) ≤ n % (K : Int) := Int.emod_nonneg _ (by omega)
  have h3 : n % (K : Int) < (K : Int) := Int.emod_lt_of_pos _ (by omega)
  omega
theorem i64_andffff (n : Int) : bits .and .i64 n 65535 = n % 65536 := i64_mask n 65535 16 (by omega) (by decide)
theorem i64_andfff (n : Int) : bits .and .i64 n 4095 = n % 4096 := i64_mask n 4095 12 (by omega) (by decide)
theorem i64_and1 (n : Int) : bits .and .i64 n 1 = n % 2 := i64_mask n 1 1 (by omega) (by decide)
theorem shr_any (m c : Nat) (hc : c ≤ 64) (W : World) : (binOp .shr 3 (.int .i64 (m : Int)) (.int .i64 (c : Int))).run Try.prog W = .ok (.int .i64 ((m / 2 ^ c : Nat) : Int)) W := by
  rw [binOp_shr, shift_shr_any .i64 .i64 (m : Int) (c : Int) (by omega)]
  show Result.ok (Value.int .i64 ((m : Int) / 2 ^ min (c : Int).toNat 64)) W = _
  rw [Int.toNat_natCast, Nat.min_eq_left hc, Int.natCast_ediv, Int.natCast_pow]; rfl
theorem pow_wrap {n : Nat} (hn : n ≤ 8) : wrap64 (2 ^ n) = 2 ^ n := by
  have h : (2 : Int) ^ n ≤ 256 ∧ 0 ≤ (2 : Int) ^ n := by
    have : n = 0 ∨ n = 1 ∨ n = 2 ∨ n = 3 ∨ n = 4 ∨ n = 5 ∨ n = 6 ∨ n = 7 ∨ n = 8 := by omega
    rcases this with rfl | rfl | rfl | rfl | rfl | rfl | rfl | rfl | rfl
    all_goals decide
  exact IntWalk.wrap64_in _ (by omega)

/- the closures of Right -/
set_option maxHeartbeats 1000000 in
theorem hasFloor_any (b : Nat) (x : Int) (s : St) (vc vw : Value) (w : World) (h : NB w b s vc vw) :
    Calls Try.prog 22 #[.int .i64 x, .pointer (some ⟨b, 0, none⟩)] w fun e w' => e = .returned (.bool (decide (0 ≤ x) && decide (x < s.fl))) ∧ w' = w := by
  have c0 : w.cell? ⟨b, 0, none⟩ = some (.int .i64 s.fl) := h.cell 0
  clear h
  by_cases hx : 0 ≤ x
  · go_enter Try.func22, Try.ntmps22
    go_wp2
    go_ret
    exact ⟨by simp [hx], rfl⟩
  · go_enter Try.func22, Try.ntmps22
    go_wp2
    go_ret
    refine ⟨ret_bool ?_, rfl⟩
    rw [decide_eq_false (by omega)]; rfl

/-- the variable that holds hasFloor -/
def hfv (b : Nat) : Value := .func (.func 22) #[] #[.pointer (some ⟨b, 0, none⟩)]
set_option maxHeartbeats 1000000 in
theorem carOk_any (b bx : Nat) (x : Int × Int) (s : St) (vc vw : Value) (w : World) (h : NB w b s vc vw) (hb : w.cell? ⟨bx, 0, none⟩ = some (.func (.func 22) #[] #[.pointer (some ⟨b, 0, none⟩)])) (hbx : bx < w.heap.size) :
    Calls Try.prog 24 #[.agg #[.int .i64 x.1, .int .i64 x.2], .pointer (some ⟨bx, 0, none⟩)] w fun e w' => e = .returned (.bool (cok s.fl x)) ∧ Below w.heap.size w w' := by
  have hb1 : (w.alloc (.cells #[.int .i64 x.1, .int .i64 x.2] 48)).cell? ⟨bx, 0, none⟩ = some (.func (.func 22) #[] #[.pointer (some ⟨b, 0, none⟩)]) := (Below.cell ((Below.refl _ w).alloc (Nat.le_refl _) _) (p := ⟨bx, 0, none⟩) hbx).trans hb
  have hc := hasFloor_any b x.1 s vc vw _ (h.alloc (.cells #[.int .i64 x.1, .int .i64 x.2] 48))
  have HB := Hid.intro' ((Below.refl w.heap.size w).alloc (Nat.le_refl _) (.cells #[.int .i64 x.1, .int .i64 x.2] 48))
  clear h hb
  cases hq : (decide (0 ≤ x.1) && decide (x.1 < s.fl)) with
  | false =>
    rw [hq] at hc
    go_enter Try.func24, Try.ntmps24
    go_wp2_with fail
    refine hc.mono ?_
    rintro e w' ⟨rfl, rfl⟩
    clear hc
    go_wp2
    go_ret
    refine ⟨ret_bool ?_, HB.out⟩
    unfold cok; rw [hq]; rfl
  | true =>
    rw [hq] at hc
    by_cases h2 : 0 ≤ x.2
    · go_enter Try.func24, Try.ntmps24
      go_wp2_with fail
      refine hc.mono ?_
      rintro e w' ⟨rfl, rfl⟩
      clear hc
      go_wp2
      go_ret
      refine ⟨ret_bool ?_, HB.out⟩
      unfold cok; rw [hq]; simp [h2]
    · go_enter Try.func24, Try.ntmps24
      go_wp2_with fail
      refine hc.mono ?_
      rintro e w' ⟨rfl, rfl⟩
      clear hc
      go_wp2
      go_ret
      refine ⟨ret_bool ?_, HB.out⟩
      unfold cok; rw [hq, decide_eq_false (show ¬ 0 ≤ x.2 by omega)]; rfl

set_option maxHeartbeats 2000000 in
theorem wantOk_any (b bx n : Nat) (hn : n ≤ 8) (x : Int × Int) (s : St) (hca : s.ca = (n : Int)) (vc vw : Value) (w : World) (h : NB w b s vc vw) (hb : w.cell? ⟨bx, 0, none⟩ = some (.func (.func 22) #[] #[.pointer (some ⟨b, 0, none⟩)])) (hbx : bx < w.heap.size) :
    Calls Try.prog 26 #[.agg #[.int .i64 x.1, .int .i64 x.2], .pointer (some ⟨bx, 0, none⟩), .pointer (some ⟨b, 0, none⟩)] w fun e w' => e = .returned (.bool (wok s.fl n x)) ∧ Below w.heap.size w w' := by
  have hb1 : (w.alloc (.cells #[.int .i64 x.1, .int .i64 x.2] 46)).cell? ⟨bx, 0, none⟩ = some (.func (.func 22) #[] #[.pointer (some ⟨b, 0, none⟩)]) := (Below.cell ((Below.refl _ w).alloc (Nat.le_refl _) _) (p := ⟨bx, 0, none⟩) hbx).trans hb
  have HC : Hid (∀ W, NB W b s vc vw → Calls Try.prog 22 #[.int .i64 x.1, .pointer (some ⟨b, 0, none⟩)] W fun e w' => e = .returned (.bool (decide (0 ≤ x.1) && decide (x.1 < s.fl))) ∧ w' = W) := fun W hW => hasFloor_any b x.1 s vc vw W hW
  have hN := h.alloc (.cells #[.int .i64 x.1, .int .i64 x.2] 46)
  have c1 : (w.alloc (.cells #[.int .i64 x.1, .int .i64 x.2] 46)).cell? ⟨b, 1, none⟩ = some (.int .i64 (n : Int)) := by rw [hN.cell, ← hca]; rfl
  have HB := Hid.intro' ((Below.refl w.heap.size w).alloc (Nat.le_refl _) (.cells #[.int .i64 x.1, .int .i64 x.2] 46))
  have HN := Hid.intro' hN
  clear h hb hN hca
  cases hq : (decide (0 ≤ x.1) && decide (x.1 < s.fl)) with
  | false =>
    rw [hq] at HC
    go_enter Try.func26, Try.ntmps26
    go_wp2_with fail
    go_quiet (exact Calls.quiet_of_same (HC.out _ (HN.out.drewN _)))
    go_wp2
    go_ret
    refine ⟨ret_bool ?_, below_drewN HB.out _⟩
    unfold wok; rw [hq]; rfl
  | true =>
    rw [hq] at HC
    by_cases h2 : 0 < x.2
    · go_enter Try.func26, Try.ntmps26
      go_wp2_with fail
      go_quiet (exact Calls.quiet_of_same (HC.out _ (HN.out.drewN _)))
      go_wp2
      go_ret
      refine ⟨ret_bool ?_, below_drewN HB.out _⟩
      unfold wok; rw [hq]; simp [h2, pow_wrap hn]
    · have h3 : decide (0 < x.2) = false := decide_eq_false h2
      clear h2
      go_enter Try.func26, Try.ntmps26
      go_wp2_with fail
      go_quiet (exact Calls.quiet_of_same (HC.out _ (HN.out.drewN _)))
      go_wp2
      go_ret
      refine ⟨ret_bool ?_, below_drewN HB.out _⟩
      unfold wok; rw [hq, h3]; rfl

end Go.Proofs.Ytdfdkddjkhcgdai
