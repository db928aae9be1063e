/- Which numbers frames may have; frames as bytes. -/
import Derived.Test.YtkbfljacjfaamaeFrC
import Derived.OwnWalk
import Derived.StillTailTactics
import Derived.Laws.AppendOwnNone
namespace Go.Proofs.Ytkbfljacjfaamae
open Go.RowKit

/-- are all numbers from one to another? -/
def inB (lo hi : Int) (zs : List Int) : Bool := zs.all fun z => decide (lo ≤ z) && decide (z ≤ hi)
theorem inB_iff {lo hi : Int} {zs : List Int} : inB lo hi zs = true ↔ ∀ z ∈ zs, lo ≤ z ∧ z ≤ hi := by simp [inB]
theorem inB_get {lo hi : Int} {zs : List Int} : inB lo hi zs = true ↔ ∀ (i : Nat) z, zs[i]? = some z → lo ≤ z ∧ z ≤ hi := by
  rw [inB_iff]
  constructor
  · intro h i z hz; exact h z (List.mem_of_getElem? hz)
  · intro h z hz
    obtain ⟨i, hi⟩ := List.getElem?_of_mem hz
    exact h i z hi
theorem fresh_ints (W : World) (t : TypeId) (zs : List Int) : ∀ i z, zs[i]? = some z → (W.alloc (.cells (zs.map (Value.int .i64)).toArray t)).cell? ⟨W.heap.size, i, none⟩ = some (.int .i64 z) := fun i z h => by
  rw [cell_of_row _ _ i _ _ _ (heap_alloc_new W _)]
  simp [h]

set_option maxHeartbeats 1000000 in
theorem within_any (lo hi : Int) (zs : List Int) (b n : Nat) (w : World) (hn : zs.length = n) (hm : n ≤ 1000) (hc : ∀ i z, zs[i]? = some z → w.cell? ⟨b, i, none⟩ = some (.int .i64 z)) :
    Calls Try.prog 12 #[.int .i64 lo, .int .i64 hi, .slice (some ⟨b, 0, none⟩) n n] w fun e w' => e = .returned (.bool (inB lo hi zs)) ∧ w' = w := by
  have HC := Hid.intro' hc
  have HN := Hid.intro' hn
  clear hc hn
  go_enter Try.func12, Try.ntmps12
  go_wp2
  go_loop [8, 11] (fun _ i => ∃ k : Nat, k ≤ n ∧ i = .int .i64 k ∧ Hid (∀ (j : Nat) z, j < k → zs[j]? = some z → lo ≤ z ∧ z ≤ hi)) (fun _ i => n - (intOf i).toNat)
  case atStart => exact ⟨0, Nat.zero_le _, rfl, fun j z hj => absurd hj (by omega)⟩
  case round =>
    obtain ⟨k, hk, rfl, HP⟩ := hrel
    by_cases hlt : k < n
    · have hkz : (k : Int) < (n : Int) := by omega
      obtain ⟨x, hx⟩ : ∃ x, zs[k]? = some x := ⟨_, List.getElem?_eq_getElem (by have := HN.out; omega)⟩
      have hcell := HC.out k x hx
      have HX := Hid.intro' hx
      clear hx
      by_cases h1 : x < lo
      · go_wp2
        go_ret
        refine ⟨?_, rfl⟩
        have : inB lo hi zs = false := by
          rw [Bool.eq_false_iff]; intro h
          have := inB_get.1 h k x HX.out
          omega
        rw [this]; rfl
      · by_cases h2 : hi < x
        · go_wp2
          go_ret
          refine ⟨?_, rfl⟩
          have : inB lo hi zs = false := by
            rw [Bool.eq_false_iff]; intro h
            have := inB_get.1 h k x HX.out
            omega
          rw [this]; rfl
        · go_wp2
          go_round
          case rel =>
            refine ⟨k + 1, by omega, by go_num, fun j z hj hz => ?_⟩
            by_cases e : j = k
            · subst e
              rw [HX.out] at hz
              cases hz
              omega
            · exact HP.out j z (by omega) hz
          case measure => simp [intOf]; omega
    · have hkz : ¬ (k : Int) < (n : Int) := by omega
      go_wp2
      go_ret
      refine ⟨?_, rfl⟩
      have : inB lo hi zs = true := inB_get.2 fun i z hz => HP.out i z (by have := (List.getElem?_eq_some_iff.1 hz).1; have := HN.out; omega) hz
      rw [this]; rfl

theorem isKind_any (k : Int) (w : World) : Calls Try.prog 11 #[.int .i64 k] w fun e w' => e = .returned (.bool (inB 1 3 [k])) ∧ Below w.heap.size w w' := by
  go_enter Try.func11, Try.ntmps11
  go_wp2_with fail
  refine (within_any 1 3 [k] w.heap.size 1 _ rfl (by omega) (fresh_ints w 3 [k])).mono ?_
  rintro e w' ⟨rfl, rfl⟩
  go_wp2
  go_ret
  exact ⟨rfl, (Below.refl _ _).alloc (Nat.le_refl _) _⟩

/-- may a frame be? -/
def mayB (f : Fr) : Bool := inB 1 3 [f.ki] && inB 0 255 [f.ca, f.a, f.b, f.c] && inB 0 65535 [f.sq]
theorem mayB_iff (f : Fr) : mayB f = true ↔ FC.May f := by
  unfold mayB
  simp only [Bool.and_eq_true, inB_iff, List.mem_cons, List.not_mem_nil, or_false, forall_eq_or_imp, forall_eq]
  constructor
  · rintro ⟨⟨h1, h2, h3, h4, h5⟩, h6⟩
    exact ⟨h1.1, h1.2, h2.1, h2.2, h6.1, h6.2, h3.1, h3.2, h4.1, h4.2, h5.1, h5.2⟩
  · rintro ⟨h1, h2, h3, h4, h5, h6, h7, h8, h9, h10, h11, h12⟩
    exact ⟨⟨⟨h1, h2⟩, ⟨h3, h4⟩, ⟨h7, h8⟩, ⟨h9, h10⟩, h11, h12⟩, h5, h6⟩



theorem infoB : (Try.prog.info? 5).map (fun i => (i.zero, i.size, i.bytes)) = some (some (.int .u8 0), 1, 1) := by kernel_rfl
/-- bytes are put behind a row of bytes -/
theorem wpList_appendB {ops : Array Oper} {rest : List Oper} {o : Oper} {a : Act} {w : World} {Q : Exit → Act → World → Prop} (hgd : o.guard = none) (s x : Operand)
    (ho : o.op = .call { callee := .builtin .append, args := #[s, x], argTypes := #[23, 23] })
    (B : Nat) (v : Value) (l : List Nat) (hs : a.eval s = v) (hown : OW w B v l) (ad : Addr) (c : Nat) (m : List Nat) (hx : a.eval x = .slice (some ad) m.length c) (hc : ∀ j u, (bc m)[j]? = some u → w.cell? (ad.add j) = some u)
    (h63 : l.length + m.length ≤ 1000000) (hB : B ≤ w.heap.size)
    (h : ∀ v' w', OW w' B v' (l ++ m) → w.grownBy w' v.ownBlock → wpList Try.prog ops Q rest (a.put o.dst v') w') : wpList Try.prog ops Q (o :: rest) a w := by
  obtain ⟨i0, hi, hz0, hz1, hz2⟩ := info_parts infoB
  refine wpList_append_own w hgd s x 23 ho B 5 i0 _ 1 1 Try.underlying23 hi hz0 hz1 hz2 rfl (by decide) v l.length (bc l) hs hown ad m.length c (bc m) hx (by rw [bc_length]; omega) hc (bc_one m) (by unfold maxLen; omega) (by omega) hB ?_
  intro v' w' h1 h2 _
  refine h v' w' ?_ h2
  unfold OW
  rw [List.length_append, bc_append]
  exact h1

/-- the same, of any bytes that are read -/
theorem wpList_appendR {ops : Array Oper} {rest : List Oper} {o : Oper} {a : Act} {w : World} {Q : Exit → Act → World → Prop} (hgd : o.guard = none) (s x : Operand)
    (ho : o.op = .call { callee := .builtin .append, args := #[s, x], argTypes := #[23, 23] })
    (B : Nat) (v u : Value) (l m : List Nat) (hs : a.eval s = v) (hown : OW w B v l) (hx : a.eval x = u) (hr : RD w u m)
    (h63 : l.length + m.length ≤ 1000000) (hB : B ≤ w.heap.size)
    (h : ∀ v' w', OW w' B v' (l ++ m) → w.grownBy w' v.ownBlock → wpList Try.prog ops Q rest (a.put o.dst v') w') : wpList Try.prog ops Q (o :: rest) a w := by
  obtain ⟨ao, cap, rfl, hc, hm, _⟩ := hr.form
  cases ao with
  | none =>
    obtain ⟨h0, rfl, rfl⟩ := hr.nilv
    obtain ⟨i0, hi, _, _, _⟩ := info_parts infoB
    refine wpList_append_own_none hgd s x 23 ho B 5 i0 1 Try.underlying23 hi v l.length (bc l) hs hown (by rw [hx]; rfl) ?_
    refine h v w ?_ (World.grownBy.refl w _)
    rw [List.append_nil]; exact hown
  | some ad =>
    refine wpList_appendB hgd s x ho B v l hs hown ad cap m hx (fun j y hy => ?_) h63 hB h
    obtain ⟨a', c', e, _, _, hh⟩ := hr.2
    cases e
    rcases hh with hh | ⟨g, o', e, _, hh⟩
    · rw [hh] at hy; simp [bc] at hy
    · cases e
      obtain ⟨z, hz, rfl⟩ := bc_get hy
      rw [Addr.add_mid]; exact hh j z hz

set_option maxHeartbeats 2000000 in
theorem encode_nat (ki ca sq a b c : Nat) (w : World) (h0 : 1 ≤ ki) (h1 : ki ≤ 3) (h2 : ca ≤ 255) (h3 : sq ≤ 65535) (h4 : a ≤ 255) (h5 : b ≤ 255) (h6 : c ≤ 255) :
    Calls Try.prog 6 #[.agg #[.int .i64 (⟨ki, ca, sq, a, b, c⟩ : Fr).ki, .int .i64 (⟨ki, ca, sq, a, b, c⟩ : Fr).ca, .int .i64 (⟨ki, ca, sq, a, b, c⟩ : Fr).sq, .int .i64 (⟨ki, ca, sq, a, b, c⟩ : Fr).a, .int .i64 (⟨ki, ca, sq, a, b, c⟩ : Fr).b, .int .i64 (⟨ki, ca, sq, a, b, c⟩ : Fr).c]] w fun e w' => ∃ v, e = .returned (.tuple #[v, .int .i64 0]) ∧ OW w' w.heap.size v (FC.en ⟨ki, ca, sq, a, b, c⟩) ∧ Below w.heap.size w w' := by
  have H8 : Hid (FC.Bs [165, ki, ca, sq / 256, sq % 256, a, b, c]) := FC.Bs.cons (by omega) (FC.Bs.cons (by omega) (FC.Bs.cons (by omega) (FC.Bs.cons (by omega) (FC.Bs.cons (by omega) (FC.Bs.cons (by omega) (FC.Bs.cons (by omega) (FC.Bs.cons (by omega) FC.Bs.nil)))))))
  have HF0 := Hid.intro' (FB.new w ⟨ki, ca, sq, a, b, c⟩)
  have HB0 := Hid.intro' ((Below.refl w.heap.size w).alloc (Nat.le_refl _) (.cells #[.int .i64 (⟨ki, ca, sq, a, b, c⟩ : Fr).ki, .int .i64 (⟨ki, ca, sq, a, b, c⟩ : Fr).ca, .int .i64 (⟨ki, ca, sq, a, b, c⟩ : Fr).sq, .int .i64 (⟨ki, ca, sq, a, b, c⟩ : Fr).a, .int .i64 (⟨ki, ca, sq, a, b, c⟩ : Fr).b, .int .i64 (⟨ki, ca, sq, a, b, c⟩ : Fr).c] 26))
  have k1 : inB 1 3 [(ki : Int)] = true := inB_iff.2 (by simp; omega)
  have k2 : inB 0 255 [(ca : Int), a, b, c] = true := inB_iff.2 (by simp; omega)
  have k3 : inB 0 65535 [(sq : Int)] = true := inB_iff.2 (by simp; omega)
  go_enter Try.func6, Try.ntmps6
  go_wp2_with fail
  refine (isKind_any _ _).mono ?_
  rintro e W1 ⟨rfl, hb1⟩
  have HF1 := Hid.intro' (HF0.out.below' hb1)
  have HB1 := Hid.intro' (below_class HB0.out hb1)
  clear hb1 HF0 HB0
  have c1 := HF1.out.c1
  have c3 := HF1.out.c3
  have c4 := HF1.out.c4
  have c5 := HF1.out.c5
  go_wp2_with fail
  refine (within_any 0 255 [(ca : Int), a, b, c] W1.heap.size 4 _ rfl (by omega) (fresh_ints W1 3 _)).mono ?_
  rintro e W2 ⟨rfl, hW⟩
  have HF2 : Hid (FB W2 w.heap.size ⟨ki, ca, sq, a, b, c⟩) := by rw [hW]; exact HF1.out.alloc _
  have HB2 : Hid (Below w.heap.size w W2) := by rw [hW]; exact HB1.out.alloc HB1.out.size _
  clear c1 c3 c4 c5 HF1 HB1 hW
  have c2 := HF2.out.c2
  go_wp2_with fail
  refine (within_any 0 65535 [(sq : Int)] W2.heap.size 1 _ rfl (by omega) (fresh_ints W2 3 _)).mono ?_
  rintro e W3 ⟨rfl, hW⟩
  have HF3 : Hid (FB W3 w.heap.size ⟨ki, ca, sq, a, b, c⟩) := by rw [hW]; exact HF2.out.alloc _
  have HB3 : Hid (Below w.heap.size w W3) := by rw [hW]; exact HB2.out.alloc HB2.out.size _
  clear c2 HF2 HB2 hW
  have c0 := HF3.out.c0
  have c1 := HF3.out.c1
  have c2 := HF3.out.c2
  have c3 := HF3.out.c3
  have c4 := HF3.out.c4
  have c5 := HF3.out.c5
  go_wp2_with fail
  refine wp_region_still_tail 21 (by kernel_rfl) (by kernel_rfl) ?_
  simp only [List.take_succ_cons, List.take_zero, List.drop_succ_cons, List.drop_zero]
  unfold wpStill
  generalize hK : wpStill Try.prog _ _ _ _ = K
  go_simp
  subst hK
  unfold wpStill
  generalize hK : wpStill Try.prog _ _ _ _ = K
  go_simp
  subst hK
  unfold wpStill
  generalize hK : wpStill Try.prog _ _ _ _ = K
  go_simp
  subst hK
  unfold wpStill
  generalize hK : wpStill Try.prog _ _ _ _ = K
  go_simp
  subst hK
  unfold wpStill
  generalize hK : wpStill Try.prog _ _ _ _ = K
  go_simp
  subst hK
  unfold wpStill
  generalize hK : wpStill Try.prog _ _ _ _ = K
  go_simp
  subst hK
  unfold wpStill
  generalize hK : wpStill Try.prog _ _ _ _ = K
  go_simp
  subst hK
  unfold wpStill
  generalize hK : wpStill Try.prog _ _ _ _ = K
  go_simp
  subst hK
  unfold wpStill
  generalize hK : wpStill Try.prog _ _ _ _ = K
  go_simp
  refine ⟨_, upper_any sq (by omega) _, ?_⟩
  subst hK
  unfold wpStill
  generalize hK : wpStill Try.prog _ _ _ _ = K
  go_simp
  subst hK
  unfold wpStill
  generalize hK : wpStill Try.prog _ _ _ _ = K
  go_simp
  subst hK
  unfold wpStill
  generalize hK : wpStill Try.prog _ _ _ _ = K
  go_simp
  refine ⟨_, lower_any sq (by omega) _, ?_⟩
  subst hK
  unfold wpStill
  generalize hK : wpStill Try.prog _ _ _ _ = K
  go_simp
  subst hK
  unfold wpStill
  generalize hK : wpStill Try.prog _ _ _ _ = K
  go_simp
  subst hK
  unfold wpStill
  generalize hK : wpStill Try.prog _ _ _ _ = K
  go_simp
  subst hK
  unfold wpStill
  generalize hK : wpStill Try.prog _ _ _ _ = K
  go_simp
  subst hK
  unfold wpStill
  generalize hK : wpStill Try.prog _ _ _ _ = K
  go_simp
  subst hK
  unfold wpStill
  generalize hK : wpStill Try.prog _ _ _ _ = K
  go_simp
  subst hK
  unfold wpStill
  generalize hK : wpStill Try.prog _ _ _ _ = K
  go_simp
  subst hK
  unfold wpStill
  generalize hK : wpStill Try.prog _ _ _ _ = K
  go_simp
  subst hK
  unfold wpStill
  generalize hK : wpStill Try.prog _ _ _ _ = K
  go_simp
  subst hK
  refine wpStill_nil ?_
  go_wp2_with fail
  have HO : Hid (OW (W3.alloc (.cells #[.int .u8 165, .int .u8 ki, .int .u8 ca, .int .u8 (sq / 256), .int .u8 (sq % 256), .int .u8 a, .int .u8 b, .int .u8 c] 5)).drew w.heap.size (.slice (some ⟨W3.heap.size, 0, none⟩) 8 8) [165, ki, ca, sq / 256, sq % 256, a, b, c]) :=
    OW.lit (B := w.heap.size) W3 [165, ki, ca, sq / 256, sq % 256, a, b, c] HB3.out.size (by unfold maxLen; simp)
  have HB4 : Hid (Below w.heap.size w (W3.alloc (.cells #[.int .u8 165, .int .u8 ki, .int .u8 ca, .int .u8 (sq / 256), .int .u8 (sq % 256), .int .u8 a, .int .u8 b, .int .u8 c] 5)).drew) := (HB3.out.alloc HB3.out.size _).drew
  generalize (W3.alloc (.cells #[.int .u8 165, .int .u8 ki, .int .u8 ca, .int .u8 (sq / 256), .int .u8 (sq % 256), .int .u8 a, .int .u8 b, .int .u8 c] 5)).drew = W4 at HO HB4 ⊢
  generalize W3.heap.size = g at HO ⊢
  clear c0 c1 c2 c3 c4 c5 HF3 HB3
  refine (sum_any _ _ _ (HO.out.rd H8.out)).mono ?_
  rintro e W5 ⟨rfl, hW⟩
  subst hW
  have hn := FC.crc_lt H8.out
  have HN : Hid (FC.en ⟨ki, ca, sq, a, b, c⟩ = [165, ki, ca, sq / 256, sq % 256, a, b, c] ++ [FC.crc [165, ki, ca, sq / 256, sq % 256, a, b, c] / 256, FC.crc [165, ki, ca, sq / 256, sq % 256, a, b, c] % 256]) := by
    show FC.en _ = _
    unfold FC.en FC.h8
    simp only [Int.toNat_natCast]
  generalize FC.crc [165, ki, ca, sq / 256, sq % 256, a, b, c] = n at hn HN ⊢
  go_wp2_with (first | (go_at_call 13; refine (upper_any n hn _).mono ?_; rintro e w' ⟨rfl, rfl⟩) | (go_at_call 14; refine (lower_any n hn _).mono ?_; rintro e w' ⟨rfl, rfl⟩) | (at_builtin; refine wpList_appendB rfl _ _ rfl w.heap.size _ [165, ki, ca, sq / 256, sq % 256, a, b, c] rfl ?qc1 ⟨_, 0, none⟩ 2 [n / 256, n % 256] rfl ?qc2 ?qc3 ?qc4 ?_))
  case qc1 => exact HO.out.alloc _
  case qc2 => exact ((OW.lit (B := 0) _ [n / 256, n % 256] (Nat.zero_le _) (by unfold maxLen; simp)).rd (FC.Bs.cons (by omega) (FC.Bs.cons (by omega) FC.Bs.nil))).cells
  case qc3 => simp
  case qc4 => simp; have := HB4.out.size; omega
  intro v' w1 hown hgrow
  have HO2 := Hid.intro' hown
  have HB5 := Hid.intro' ((HB4.out.alloc HB4.out.size _).grown hgrow (by simp; have := HB4.out.size; omega) (by intro k hk; simp [Value.ownBlock] at hk; have := HO.out.lt g rfl; omega))
  clear hown hgrow
  go_wp2
  go_ret2
  refine ⟨v', rfl, ?_, HB5.out⟩
  rw [HN.out]
  exact HO2.out

end Go.Proofs.Ytkbfljacjfaamae
