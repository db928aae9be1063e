/- Plain mathematics of check sums of 16 bits. No program is named here. -/
import Derived.Test.YtkbfljacjfaamaeRows
namespace Go.Proofs.Ytkbfljacjfaamae.FC

/-- a number of 16 bits doubled, and what is Xored to it -/
def dbl (s : Nat) : Nat := if 32768 ≤ s then (2 * s - 65536) ^^^ 4129 else 2 * s
/-- the same on bits -/
def D (x : BitVec 16) : BitVec 16 := (x <<< 1) ^^^ (if x.msb then 4129#16 else 0#16)
theorem dbl_D (x : BitVec 16) : dbl x.toNat = (D x).toNat := by
  unfold dbl D
  have h := x.isLt
  have hm : x.msb = decide (32768 ≤ x.toNat) := by rw [BitVec.msb_eq_decide]
  rw [hm, BitVec.toNat_xor, BitVec.toNat_shiftLeft, Nat.shiftLeft_eq]
  by_cases h1 : 32768 ≤ x.toNat
  · rw [if_pos h1]
    have e : x.toNat * 2 ^ 1 % 2 ^ 16 = 2 * x.toNat - 65536 := by omega
    rw [e]; simp [h1]
  · rw [if_neg h1]
    have e : x.toNat * 2 ^ 1 % 2 ^ 16 = 2 * x.toNat := by omega
    rw [e]; simp [h1]
theorem D_xor (x y : BitVec 16) : D (x ^^^ y) = D x ^^^ D y := by
  unfold D
  rw [BitVec.shiftLeft_xor_distrib, BitVec.msb_xor]
  cases x.msb <;> cases y.msb <;> simp
  · rw [BitVec.xor_assoc]
  · ac_rfl
  · have : x <<< 1 ^^^ 4129#16 ^^^ (y <<< 1 ^^^ 4129#16) = (x <<< 1 ^^^ y <<< 1) ^^^ (4129#16 ^^^ 4129#16) := by ac_rfl
    rw [this, BitVec.xor_self, BitVec.xor_zero]
theorem of_bits {a : Nat} (h : a < 65536) : ∃ A : BitVec 16, A.toNat = a := ⟨BitVec.ofNat 16 a, by rw [BitVec.toNat_ofNat]; omega⟩
theorem dbl_lt {a : Nat} (h : a < 65536) : dbl a < 65536 := by
  obtain ⟨A, rfl⟩ := of_bits h
  rw [dbl_D]; exact (D A).isLt
theorem dbl_xor {a b : Nat} (ha : a < 65536) (hb : b < 65536) : dbl (a ^^^ b) = dbl a ^^^ dbl b := by
  obtain ⟨A, rfl⟩ := of_bits ha
  obtain ⟨B, rfl⟩ := of_bits hb
  rw [← BitVec.toNat_xor, dbl_D, D_xor, BitVec.toNat_xor, dbl_D, dbl_D]
theorem dbl_zero {a : Nat} (h : a < 65536) (e : dbl a = 0) : a = 0 := by
  unfold dbl at e
  split at e
  · have h2 := congrArg (fun n => Nat.testBit n 0) e
    simp only [Nat.testBit_xor, Nat.zero_testBit] at h2
    have h3 : (2 * a - 65536).testBit 0 = false := by rw [Nat.testBit_zero]; simp; omega
    rw [h3] at h2
    exact absurd h2 (by decide)
  · omega
theorem xor_lt {a b : Nat} (ha : a < 65536) (hb : b < 65536) : a ^^^ b < 65536 := Nat.xor_lt_two_pow (n := 16) ha hb
theorem xor_lt8 {a b : Nat} (ha : a < 256) (hb : b < 256) : a ^^^ b < 256 := Nat.xor_lt_two_pow (n := 8) ha hb
theorem xor_zero {a b : Nat} (h : a ^^^ b = 0) : a = b := by
  have := congrArg (· ^^^ b) h
  simpa [Nat.xor_assoc, Nat.xor_self] using this
/-- doubled k times -/
def dbls : Nat → Nat → Nat
  | 0, s => s
  | k + 1, s => dbl (dbls k s)
theorem dbls_lt {a : Nat} (k : Nat) (h : a < 65536) : dbls k a < 65536 := by
  induction k with
  | zero => exact h
  | succ k ih => exact dbl_lt ih
theorem dbls_xor {a b : Nat} (k : Nat) (ha : a < 65536) (hb : b < 65536) : dbls k (a ^^^ b) = dbls k a ^^^ dbls k b := by
  induction k with
  | zero => rfl
  | succ k ih => show dbl _ = dbl _ ^^^ dbl _; rw [ih, dbl_xor (dbls_lt k ha) (dbls_lt k hb)]
theorem dbls_zero {a : Nat} (k : Nat) (h : a < 65536) (e : dbls k a = 0) : a = 0 := by
  induction k with
  | zero => exact e
  | succ k ih => exact ih (dbl_zero (dbls_lt k h) e)
theorem dbls_nil (k : Nat) : dbls k 0 = 0 := by
  induction k with
  | zero => rfl
  | succ k ih => show dbl _ = 0; rw [ih]; rfl
theorem dbls_low {x : Nat} (h : x < 256) : ∀ k, k ≤ 8 → dbls k x = x * 2 ^ k
  | 0, _ => by simp [dbls]
  | k + 1, hk => by
    show dbl (dbls k x) = _
    rw [dbls_low h k (by omega)]
    have h1 : 2 ^ k ≤ 2 ^ 7 := Nat.pow_le_pow_right (by omega) (by omega)
    have h2 : x * 2 ^ k ≤ 255 * 2 ^ 7 := Nat.mul_le_mul (by omega) h1
    unfold dbl
    rw [if_neg (by omega), Nat.pow_succ, ← Nat.mul_assoc x, Nat.mul_comm 2 (x * 2 ^ k)]
/-- a byte is taken into a check sum -/
def tk (s x : Nat) : Nat := dbls 8 (s ^^^ (x * 256))
theorem tk_lt {s x : Nat} (hs : s < 65536) (hx : x < 256) : tk s x < 65536 := dbls_lt 8 (xor_lt hs (by omega))
/-- the check sum of bytes, from one on -/
def cs (s : Nat) (l : List Nat) : Nat := l.foldl tk s
theorem cs_nil (s : Nat) : cs s [] = s := by unfold cs; rw [List.foldl_nil]
theorem cs_cons (s x : Nat) (l : List Nat) : cs s (x :: l) = cs (tk s x) l := by unfold cs; rw [List.foldl_cons]
/-- bytes -/
def Bs (l : List Nat) : Prop := ∀ x ∈ l, x < 256
theorem Bs.nil : Bs [] := by simp [Bs]
theorem Bs.cons {x : Nat} {l : List Nat} (hx : x < 256) (h : Bs l) : Bs (x :: l) := by simpa [Bs] using And.intro hx h
theorem Bs.head {x : Nat} {l : List Nat} (h : Bs (x :: l)) : x < 256 := h x (by simp)
theorem Bs.tail {x : Nat} {l : List Nat} (h : Bs (x :: l)) : Bs l := fun y hy => h y (by simp [hy])
theorem Bs.append {l m : List Nat} (h : Bs l) (k : Bs m) : Bs (l ++ m) := by
  intro x hx
  rcases List.mem_append.1 hx with hx | hx
  · exact h x hx
  · exact k x hx
theorem Bs.take {l : List Nat} (k : Nat) (h : Bs l) : Bs (l.take k) := fun x hx => h x (List.mem_of_mem_take hx)
theorem Bs.drop {l : List Nat} (k : Nat) (h : Bs l) : Bs (l.drop k) := fun x hx => h x (List.mem_of_mem_drop hx)
theorem Bs.get {l : List Nat} {i x : Nat} (h : Bs l) (hi : l[i]? = some x) : x < 256 := h x (List.mem_of_getElem? hi)
theorem Bs.set {l : List Nat} {i x : Nat} (h : Bs l) (hx : x < 256) : Bs (l.set i x) := by
  intro y hy
  rcases List.mem_or_eq_of_mem_set hy with hy | rfl
  · exact h y hy
  · exact hx
theorem cs_lt {s : Nat} {l : List Nat} (hs : s < 65536) (hl : Bs l) : cs s l < 65536 := by
  induction l generalizing s with
  | nil => rw [cs_nil]; exact hs
  | cons x l ih => rw [cs_cons]; exact ih (tk_lt hs hl.head) hl.tail
theorem cs_append (s : Nat) (l m : List Nat) : cs s (l ++ m) = cs (cs s l) m := by unfold cs; rw [List.foldl_append]
theorem cs_snoc (s : Nat) (l : List Nat) (x : Nat) : cs s (l ++ [x]) = tk (cs s l) x := by rw [cs_append, cs_cons, cs_nil]
/-- the check sum -/
def crc (l : List Nat) : Nat := cs 65535 l
theorem crc_lt {l : List Nat} (hl : Bs l) : crc l < 65536 := cs_lt (by omega) hl
theorem crc_take {l : List Nat} {k x : Nat} (h : l[k]? = some x) : crc (l.take (k + 1)) = tk (crc (l.take k)) x := by
  rw [List.take_add_one, h]; show crc (_ ++ [x]) = _; unfold crc; rw [cs_snoc]
theorem hi_lo {n : Nat} : n = (n / 256 * 256) ^^^ (n % 256) := by
  apply Nat.eq_of_testBit_eq
  intro i
  rw [Nat.testBit_xor, show (256 : Nat) = 2 ^ 8 from rfl, Nat.testBit_mul_two_pow, Nat.testBit_div_two_pow, Nat.testBit_mod_two_pow]
  by_cases h : i < 8
  · have h8 : ¬ 8 ≤ i := by omega
    simp [h, h8]
  · have h8 : 8 ≤ i := by omega
    simp [h, h8, Nat.sub_add_cancel h8]
/-- the check sum behind its bytes -/
theorem cs_self (n : Nat) : cs n [n / 256, n % 256] = 0 := by
  rw [cs_cons, cs_cons, cs_nil]
  have h1 : n ^^^ (n / 256 * 256) = n % 256 := by
    conv => lhs; lhs; rw [hi_lo (n := n)]
    rw [Nat.xor_comm, ← Nat.xor_assoc, Nat.xor_self, Nat.zero_xor]
  unfold tk
  rw [h1, dbls_low (Nat.mod_lt _ (by omega)) 8 (by omega), show (2 : Nat) ^ 8 = 256 from rfl, Nat.xor_self, dbls_nil]
theorem crc_self (l : List Nat) : crc (l ++ [crc l / 256, crc l % 256]) = 0 := by
  unfold crc
  rw [cs_append]
  exact cs_self _
/-- two check sums that are unlike stay so -/
theorem tk_ne {a b x : Nat} (ha : a < 65536) (hb : b < 65536) (hx : x < 256) (h : a ≠ b) : tk a x ≠ tk b x := fun e => h (by
  unfold tk at e
  rw [dbls_xor 8 ha (by omega), dbls_xor 8 hb (by omega)] at e
  have e2 : dbls 8 a = dbls 8 b := by
    have := congrArg (· ^^^ dbls 8 (x * 256)) e
    simpa [Nat.xor_assoc, Nat.xor_self] using this
  have e3 : dbls 8 (a ^^^ b) = 0 := by rw [dbls_xor 8 ha hb, e2, Nat.xor_self]
  exact xor_zero (dbls_zero 8 (xor_lt ha hb) e3))
theorem cs_ne {a b : Nat} {l : List Nat} (ha : a < 65536) (hb : b < 65536) (hl : Bs l) (h : a ≠ b) : cs a l ≠ cs b l := by
  induction l generalizing a b with
  | nil => rw [cs_nil, cs_nil]; exact h
  | cons x l ih => rw [cs_cons, cs_cons]; exact ih (tk_lt ha hl.head) (tk_lt hb hl.head) hl.tail (tk_ne ha hb hl.head h)
/-- two bytes that are unlike -/
theorem mul_xor (a b : Nat) : (a ^^^ b) * 256 = a * 256 ^^^ b * 256 := by
  have := Nat.shiftLeft_xor_distrib (a := a) (b := b) (i := 8)
  simpa [Nat.shiftLeft_eq] using this
theorem tk_xor {s t x q : Nat} (hs : s < 65536) (ht : t < 65536) (hx : x < 256) (hq : q < 256) : tk (s ^^^ t) (x ^^^ q) = tk s x ^^^ tk t q := by
  unfold tk
  rw [← dbls_xor 8 (xor_lt hs (by omega)) (xor_lt ht (by omega)), mul_xor]
  have h4 : ∀ X Q : Nat, s ^^^ t ^^^ (X ^^^ Q) = s ^^^ X ^^^ (t ^^^ Q) := fun X Q => by ac_rfl
  rw [h4]
theorem tk_hit {p q : Nat} (hp : p < 256) (hq : q < 256) (h : tk (tk 0 p) q = 0) : p = 0 ∧ q = 0 := by
  have e0 : tk 0 p = dbls 8 (p * 256) := by unfold tk; rw [Nat.zero_xor]
  rw [e0] at h
  unfold tk at h
  have hd := dbls_lt (a := p * 256) 8 (by omega)
  have e4 := dbls_zero 8 (xor_lt hd (by omega)) h
  rw [show q * 256 = dbls 8 q by rw [dbls_low hq 8 (by omega)], ← dbls_xor 8 (by omega) (by omega)] at e4
  have e5 := xor_zero (dbls_zero 8 (xor_lt (by omega) (by omega)) e4)
  omega
theorem cs_two {s x y p q : Nat} (hs : s < 65536) (hx : x < 256) (hy : y < 256) (hp : p < 256) (hq : q < 256) (h : p ≠ 0 ∨ q ≠ 0) : cs s [x ^^^ p, y ^^^ q] ≠ cs s [x, y] := by
  rw [cs_cons, cs_cons, cs_nil, cs_cons, cs_cons, cs_nil]
  intro e
  have e1 : tk s (x ^^^ p) = tk s x ^^^ tk 0 p := by
    have := tk_xor hs (by omega : 0 < 65536) hx hp
    rwa [Nat.xor_zero] at this
  have h0 := tk_lt (by omega : 0 < 65536) hp
  rw [e1, tk_xor (tk_lt hs hx) h0 hy hq] at e
  generalize tk (tk s x) y = A at e
  generalize hB : tk (tk 0 p) q = B at e
  have e3 : B = 0 := by
    have := congrArg (A ^^^ ·) e
    simpa [← Nat.xor_assoc, Nat.xor_self] using this
  have := tk_hit hp hq (hB.trans e3)
  omega
/-- a row with two bytes turned -/
theorem crc_burst {l : List Nat} {k x y p q : Nat} (hl : Bs l) (hx : l[k]? = some x) (hy : l[k + 1]? = some y) (hp : p < 256) (hq : q < 256) (h : p ≠ 0 ∨ q ≠ 0) :
    crc ((l.set k (x ^^^ p)).set (k + 1) (y ^^^ q)) ≠ crc l := by
  have hk : k + 1 < l.length := (List.getElem?_eq_some_iff.1 hy).1
  have e1 : l = l.take k ++ ([x, y] ++ l.drop (k + 2)) := by
    conv => lhs; rw [← List.take_append_drop k l]
    congr 1
    rw [List.drop_eq_getElem_cons (by omega), List.drop_eq_getElem_cons hk]
    have a1 : l[k] = x := by rw [List.getElem?_eq_getElem (by omega)] at hx; exact Option.some.inj hx
    have a2 : l[k + 1] = y := by rw [List.getElem?_eq_getElem hk] at hy; exact Option.some.inj hy
    rw [a1, a2]; rfl
  have e2 : (l.set k (x ^^^ p)).set (k + 1) (y ^^^ q) = l.take k ++ ([x ^^^ p, y ^^^ q] ++ l.drop (k + 2)) := by
    have hlen : (l.take k).length = k := by rw [List.length_take]; omega
    conv => lhs; rw [e1]
    rw [List.set_append_right _ _ (by omega), List.set_append_right _ _ (by omega), hlen]
    simp
  unfold crc
  rw [e2]
  conv => rhs; rw [e1]
  rw [cs_append, cs_append, cs_append, cs_append]
  have hs := cs_lt (s := 65535) (by omega) (hl.take k)
  have hxb := hl.get hx
  have hyb := hl.get hy
  refine cs_ne ?_ ?_ (hl.drop _) (cs_two hs hxb hyb hp hq h)
  · exact cs_lt hs (Bs.cons (xor_lt8 hxb hp) (Bs.cons (xor_lt8 hyb hq) Bs.nil))
  · exact cs_lt hs (Bs.cons hxb (Bs.cons hyb Bs.nil))

end Go.Proofs.Ytkbfljacjfaamae.FC
