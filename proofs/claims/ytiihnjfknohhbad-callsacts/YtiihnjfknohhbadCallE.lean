/- slices.DeleteFunc and slices.Clone on rows of calls. -/
import Derived.Test.YtiihnjfknohhbadCallD
namespace Go.Proofs.Ytiihnjfknohhbad
open Go.RowKit

/-- what stands in a row while calls are taken out: of the first j those that are kept stand ahead, i of them; from j on all is as it was -/
structure Ki (q : Cl → Bool) (L M : List Cl) (i j : Nat) : Prop where
  len : M.length = L.length
  ij : i < j
  jl : j ≤ L.length
  tk : M.take i = (L.take j).filter q
  dr : M.drop j = L.drop j
section
variable {q : Cl → Bool} {L M : List Cl} {i j : Nat} {y : Cl}
theorem Ki.at (h : Ki q L M i j) : M[j]? = L[j]? := by
  have := congrArg (fun l => l[0]?) h.dr
  simpa using this
theorem take_get {L : List Cl} {j : Nat} {y : Cl} (h : L[j]? = some y) : L.take (j + 1) = L.take j ++ [y] := by
  rw [List.take_add_one, h]; rfl
theorem Ki.keep (h : Ki q L M i j) (hy : L[j]? = some y) (hq : q y = true) : Ki q L (M.set i y) (i + 1) (j + 1) := by
  have hj : j < L.length := (List.getElem?_eq_some_iff.1 hy).1
  have hij := h.ij
  have hl := h.len
  refine ⟨by simpa using h.len, by omega, by omega, ?_, ?_⟩
  · rw [take_get hy, List.filter_append, List.filter_cons_of_pos hq, ← h.tk]
    rw [take_get (L := M.set i y) (j := i) (y := y) (by rw [List.getElem?_set_self (by omega)]), List.take_set, List.set_eq_of_length_le (by simp; omega)]
    rfl
  · rw [List.drop_set_of_lt (by omega)]
    have := congrArg (List.drop 1) h.dr
    rwa [List.drop_drop, List.drop_drop] at this
theorem Ki.skip (h : Ki q L M i j) (hy : L[j]? = some y) (hq : q y = false) : Ki q L M i (j + 1) := by
  have hj : j < L.length := (List.getElem?_eq_some_iff.1 hy).1
  have hij := h.ij
  refine ⟨h.len, by omega, by omega, ?_, ?_⟩
  · rw [take_get hy, List.filter_append, List.filter_cons_of_neg (by simp [hq]), h.tk]; simp
  · have := congrArg (List.drop 1) h.dr
    rwa [List.drop_drop, List.drop_drop] at this
theorem Ki.done (h : Ki q L M i L.length) : M.take i = L.filter q := by rw [h.tk, List.take_length]
theorem Ki.start (hy : L[i]? = some y) (hq : q y = false) (hall : ∀ (j : Nat) z, j < i → L[j]? = some z → q z = true) : Ki q L L i (i + 1) := by
  have hj : i < L.length := (List.getElem?_eq_some_iff.1 hy).1
  refine ⟨rfl, by omega, by omega, ?_, rfl⟩
  rw [take_get hy, List.filter_append, List.filter_cons_of_neg (by simp [hq])]
  simp only [List.filter_nil, List.append_nil]
  symm
  rw [List.filter_eq_self]
  intro z hz
  obtain ⟨k, hk⟩ := List.getElem?_of_mem hz
  rw [List.getElem?_take] at hk
  split at hk
  · exact hall k z (by assumption) hk
  · cases hk
end

/-- a predicate that answers in whatever world -/
def PrA (g : Nat) (rb lb : Array Value) (p : Cl → Bool) : Prop :=
  ∀ (W : World) (x : Cl), Calls Try.prog g (rb.push (.agg #[.int .i64 x.fl, .int .i64 x.ca, .int .i64 x.ag, .bool x.up]) ++ lb) W fun e w' => e = .returned (.bool (p x)) ∧ Below W.heap.size W w'
theorem PrA.pr {g : Nat} {rb lb : Array Value} {p : Cl → Bool} (h : PrA g rb lb p) (w : World) : Pr g rb lb p w := fun W x _ => by simpa using h W x

theorem wpList_storeK {ops : Array Oper} {rest : List Oper} {op : Oper} {a : Act} {w : World} {Q : Exit → Act → World → Prop} (hgd : op.guard = none) (x y : Operand) (ho : op.op = .store 35 x y)
    (b o : Nat) (c : Cl) (hx : a.eval x = .pointer (some ⟨b, o, none⟩)) (hy : a.eval y = .agg #[.int .i64 c.fl, .int .i64 c.ca, .int .i64 c.ag, .bool c.up]) (ht : w.there b o 4)
    (h : wpList Try.prog ops Q rest (a.put op.dst undef) (w.setCells b o (cv c))) : wpList Try.prog ops Q (op :: rest) a w :=
  wpList_store_mid hgd 35 x y ho b o _ hx hy ht infoK (by simp [Value.oneCell']) h

set_option maxHeartbeats 1000000 in
theorem deleteFunc_any (g : Nat) (rb lb : Array Value) (p : Cl → Bool) (eg : ∀ args w, (callFunc g args).run Try.prog w = .ok (.enter g args) w) (B : Nat) (v : Value) (L : List Cl) (w : World) (hR : RW w B v L) (hL : L.length ≤ 128) (hp : PrA g rb lb p) :
    Calls Try.prog 30 #[v, .func (.func g) rb lb] w fun e w' => ∃ v', e = .returned v' ∧ RW w' B v' (L.filter fun x => !p x) ∧ v'.ownBlock = v.ownBlock ∧ Kp (fun k => v.ownBlock = some k) w w' := by
  have HC := Hid.intro' (indexFunc_any g rb lb p eg B v L w hR hL (hp.pr w))
  have HR := Hid.intro' hR
  have HP := Hid.intro' hp
  clear hp
  go_enter Try.func30, Try.ntmps30
  go_wp2_with fail
  refine HC.out.mono ?_
  rintro e W1 ⟨i, rfl, hb, hi⟩
  have HB := Hid.intro' hb
  clear HC hb hR
  rcases hi with ⟨rfl, hno⟩ | ⟨k, y, hy, rfl, hpy, hall⟩
  · have HNO := Hid.intro' hno
    clear hno
    go_wp2
    go_ret
    refine ⟨v, rfl, ?_, rfl, Kp.ofBelow _ HB.out⟩
    have e : (L.filter fun x => !p x) = L := by
      rw [List.filter_eq_self]
      intro z hz
      obtain ⟨j, hj⟩ := List.getElem?_of_mem hz
      rw [HNO.out j z hj]; rfl
    rw [e]
    exact HR.out.below' HB.out
  · have hkL : k < L.length := (List.getElem?_eq_some_iff.1 hy).1
    have HI := Hid.intro' (Ki.start (q := fun x => !p x) hy (by rw [hpy]; rfl) (fun j z hj hz => by rw [hall j z hj hz]; rfl))
    have hne : ((k : Int) == -1) = false := beq_eq_false_iff_ne.2 (by omega)
    rcases HR.out.form with ⟨rfl, rfl⟩ | ⟨b, cap, rfl, hB, hlt, hcap⟩
    · exact absurd hkL (by simp)
    have HR1 := Hid.intro' (HR.out.below' HB.out)
    have HK1 := Hid.intro' (Kp.ofBelow (fun k => (Value.slice (some ⟨b, 0, none⟩) L.length cap).ownBlock = some k) HB.out)
    generalize hn : L.length = n at hcap hL hkL
    have HN : Hid (L.length = n) := hn
    clear HR HB hy hall hn
    go_wp2
    go_loopw [5, 6, 7] (fun si sj _ wr => ∃ (i j : Nat) (M : List Cl), j ≤ n ∧ si = .int .i64 i ∧ sj = .int .i64 j ∧ Hid (Ki (fun x => !p x) L M i j) ∧ Hid (RW wr B (.slice (some ⟨b, 0, none⟩) L.length cap) M) ∧ Hid (Kp (fun k => (Value.slice (some ⟨b, 0, none⟩) L.length cap).ownBlock = some k) w wr)) (fun _ sj _ _ => n - (intOf sj).toNat)
    case atStart => exact ⟨k, k + 1, L, by omega, rfl, by go_num, HI, HR1, HK1⟩
    case round =>
      obtain ⟨i, j, M, hjn, rfl, rfl, HKi, HRr, HKr⟩ := hrel
      by_cases hj : j < n
      · have hjz : (j : Int) < (n : Int) := by omega
        have hjM : j < M.length := by have := HKi.out.len; have := HN.out; omega
        obtain ⟨z, hz, c0, c1, c2, c3⟩ := HRr.out.elem hjM
        have hij := HKi.out.ij
        have hiM : i < M.length := by omega
        have hin : (i : Int) < (n : Int) := by omega
        have HZ := Hid.intro' (HKi.out.at.symm.trans hz)
        clear hz
        go_wp2_with fail
        refine (HP.out _ z).mono ?_
        rintro e W2 ⟨rfl, hb2⟩
        have hbx := (CB.new wr z).below' hb2
        have HR2 := Hid.intro' ((HRr.out.alloc _).below' hb2)
        have HK2 := Hid.intro' ((HKr.out.alloc _).thenBelow hb2)
        have d0 := hbx.c0
        have d1 := hbx.c1
        have d2 := hbx.c2
        have d3 := hbx.c3
        clear hb2 hbx c0 c1 c2 c3 HRr HKr
        cases hq : p z with
        | false =>
          obtain ⟨o, _, e0, e1, e2, e3⟩ := HR2.out.elem hiM
          have f0 := HR2.out.fr (i * 4)
          have f1 := HR2.out.fr (i * 4 + 1)
          have f2 := HR2.out.fr (i * 4 + 2)
          have f3 := HR2.out.fr (i * 4 + 3)
          go_wp2
          go_roundw
          case rel => exact ⟨i + 1, j + 1, M.set i z, by omega, by go_num, by go_num, HKi.out.keep HZ.out (by rw [hq]; rfl), HR2.out.put hiM z, HK2.out.setCells b (i * 4) (cv z) (fun _ => rfl)⟩
          case measure => simp [intOf]; omega
        | true =>
          go_wp2
          go_roundw
          case rel => exact ⟨i, j + 1, M, by omega, rfl, by go_num, HKi.out.skip HZ.out (by rw [hq]; rfl), HR2, HK2⟩
          case measure => simp [intOf]; omega
      · obtain rfl : j = n := by omega
        have hjz : ¬ (j : Int) < (j : Int) := by omega
        have hij := HKi.out.ij
        have hMl : M.length = j := by rw [HKi.out.len]; exact HN.out
        obtain ⟨vs, hcl⟩ := clearK wr 0 b (i * 4) (j - i) (cap - i) (by omega) (HRr.out.there _ _ (by omega))
        have HF := Hid.intro' (HRr.out.cut i (by omega) vs)
        have HKF := Hid.intro' (HKr.out.setCells b (i * 4) vs (fun _ => rfl))
        go_wp2
        go_ret
        refine ⟨_, rfl, ?_, rfl, HKF.out⟩
        rw [← HN.out] at HKi
        rw [← HKi.out.done]
        exact HF.out

theorem infoKz : (Try.prog.info? 35).map (fun i => (i.zero, i.size, i.bytes)) = some (some (.agg #[.int .i64 0, .int .i64 0, .int .i64 0, .bool false]), 4, 32) := by kernel_rfl

set_option maxHeartbeats 1000000 in
theorem clone_any (B : Nat) (v : Value) (L : List Cl) (w : World) (hR : RW w B v L) (hL : L.length ≤ 128) :
    Calls Try.prog 31 #[v] w fun e w' => ∃ v', e = .returned v' ∧ RW w' w.heap.size v' L ∧ Below w.heap.size w w' := by
  obtain ⟨i0, hi, hz0, hz1, hz2⟩ := info_parts infoKz
  have q30 : ∀ (w : World) (a : Option Addr) (n c n' c' : Nat), (binOp .eql 30 (.slice a n c) (.slice none n' c')).run Try.prog w = .ok (.bool a.isNone) w := fun w a n c n' c' => Lib.run_eql_slice_nil w _ _ a n c n' c' Try.underlying30
  rcases hR.form with ⟨rfl, rfl⟩ | ⟨b, cap, rfl, hB, hlt, hcap⟩
  · go_enter Try.func31, Try.ntmps31
    go_wp2
    go_ret
    exact ⟨_, rfl, RW.nil _ _, Below.refl _ _⟩
  · have HR := Hid.intro' hR
    generalize hn : L.length = n at hcap hL
    have HN := Hid.intro' hn
    clear hR hn
    go_enter Try.func31, Try.ntmps31
    go_wp2_with (at_builtin; refine wpList_append_own _ rfl _ _ 30 rfl w.heap.size 35 i0 _ 4 32 Try.underlying30 hi hz0 hz1 hz2 rfl (by decide) _ _ _ rfl (World.ownsRow_made w #[] 0 (Nat.le_refl _) (Nat.zero_le _) (by simp)) ⟨b, 0, none⟩ n cap (rv L) rfl ?qc1 ?qc2 ?qc3 ?qc4 ?qc5 ?qc6 ?_)
    case qc1 => rw [rv_length, HN.out]
    case qc2 => exact World.ownsRow.cells (HR.out.alloc _) rfl
    case qc3 => exact rv_one L
    case qc4 => unfold maxLen; omega
    case qc5 => omega
    case qc6 => simp
    intro v' w1 hown hgrow hnil
    have HO := Hid.intro' hown
    clear hown hnil
    go_wp2
    go_ret
    refine ⟨v', rfl, ?_, ?_⟩
    · have := HO.out
      unfold RW
      rw [HN.out]
      simpa using this
    · exact ((Below.refl _ w).alloc (Nat.le_refl _) _).grown hgrow (by simp) (by intro k hk; simp [Value.ownBlock] at hk; omega)

end Go.Proofs.Ytiihnjfknohhbad
