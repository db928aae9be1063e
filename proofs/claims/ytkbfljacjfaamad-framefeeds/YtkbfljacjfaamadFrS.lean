/- Whether bytes are the same; the document's bytes of a frame. -/
import Derived.Test.YtkbfljacjfaamadFrE
namespace Go.Proofs.Ytkbfljacjfaamad
open Go.RowKit

theorem nums_get (l : List Nat) (i : Nat) (h : i < l.length) : ∃ x, l[i]? = some x ∧ (l.map fun (n : Nat) => (n : Int)).getD i 0 = (x : Int) := by
  refine ⟨l[i], List.getElem?_eq_getElem h, ?_⟩
  simp [List.getD, h]
theorem str_inj {l m : List Nat} (hl : FC.Bs l) (hm : FC.Bs m) : (strOfNums (l.map fun (n : Nat) => (n : Int)) = strOfNums (m.map fun (n : Nat) => (n : Int))) ↔ l = m := by
  constructor
  · intro e
    have e1 := congrArg (fun s => s.data.toList) e
    simp only [strOfNums_data, List.map_map] at e1
    apply List.ext_getElem?
    intro i
    have e2 := congrArg (fun s => s[i]?) e1
    simp only [List.getElem?_map] at e2
    cases h1 : l[i]? with
    | none =>
      cases h2 : m[i]? with
      | none => rfl
      | some y => rw [h1, h2] at e2; simp at e2
    | some x =>
      cases h2 : m[i]? with
      | none => rw [h1, h2] at e2; simp at e2
      | some y =>
        rw [h1, h2] at e2
        have hx := hl.get h1
        have hy := hm.get h2
        simp at e2
        have e3 := congrArg UInt8.toNat e2
        simp at e3
        rw [Nat.mod_eq_of_lt hx, Nat.mod_eq_of_lt hy] at e3
        rw [e3]
  · rintro rfl; rfl
theorem conv_any (w : World) (g o n cap : Nat) (l : List Nat) (h : RD w (.slice (some ⟨g, o, none⟩) n cap) l) : (convert 56 9 (.slice (some ⟨g, o, none⟩) n cap)).run Try.prog w = .ok (.string (strOfNums (l.map fun (n : Nat) => (n : Int)))) w := by
  have hn := h.len.1
  subst hn
  refine run_convert_bytes_arg (P := Try.prog) w 56 5 Try.underlying56 Try.underlying5 g o l.length cap _ (by simp) (fun i hi => ?_) 9 Try.underlying9
  obtain ⟨x, hx, e⟩ := nums_get l i hi
  rw [e]
  exact h.cell hx

set_option maxHeartbeats 400000 in
theorem same_any (u v : Value) (l m : List Nat) (w : World) (h : RD w u l) (k : RD w v m) (hl : l ≠ []) (hm : m ≠ []) :
    Calls Try.prog 32 #[u, v] w fun e w' => e = .returned (.bool (decide (l = m))) ∧ w' = w := by
  have HI := Hid.intro' (str_inj h.bs k.bs)
  obtain ⟨a, c, rfl, _, _, ha⟩ := h.form
  obtain ⟨b, d, rfl, _, _, hb⟩ := k.form
  rcases ha with ha | ⟨g, o, rfl, _⟩
  · exact absurd ha hl
  rcases hb with hb | ⟨g', o', rfl, _⟩
  · exact absurd hb hm
  have e1 := conv_any w g o l.length c l h
  have e2 := conv_any w g' o' m.length d m k
  clear h k
  go_enter Try.func32, Try.ntmps32
  go_wp2
  go_ret
  refine ⟨?_, rfl⟩
  by_cases e : l = m
  · subst e; simp
  · have := mt HI.out.1 e
    generalize strOfNums (l.map fun (n : Nat) => (n : Int)) = A at this ⊢
    generalize strOfNums (m.map fun (n : Nat) => (n : Int)) = B at this ⊢
    show Ending.returned (.bool (A.toList == B.toList)) = _
    have hne : A.toList ≠ B.toList := fun e => this (by
      rw [ByteArray.toList_eq, ByteArray.toList_eq] at e
      obtain ⟨⟨x⟩⟩ := A
      obtain ⟨⟨y⟩⟩ := B
      simp only at e
      rw [e])
    rw [decide_eq_false e, beq_false_of_ne hne]

set_option maxHeartbeats 2000000 in
theorem bytes_nat (ki ca sq a b c : Nat) (w : World) (h0 : 1 ≤ ki) (h1 : ki ≤ 3) (h2 : ca ≤ 255) (h3 : sq ≤ 65535) (h4 : a ≤ 255) (h5 : b ≤ 255) (h6 : c ≤ 255) :
    Calls Try.prog 33 #[.agg #[.int .i64 (⟨ki, ca, sq, a, b, c⟩ : Fr).ki, .int .i64 (⟨ki, ca, sq, a, b, c⟩ : Fr).ca, .int .i64 (⟨ki, ca, sq, a, b, c⟩ : Fr).sq, .int .i64 (⟨ki, ca, sq, a, b, c⟩ : Fr).a, .int .i64 (⟨ki, ca, sq, a, b, c⟩ : Fr).b, .int .i64 (⟨ki, ca, sq, a, b, c⟩ : Fr).c]] w fun e w' => ∃ v, e = .returned v ∧ OW w' w.heap.size v (FC.en ⟨ki, ca, sq, a, b, c⟩) ∧ Below w.heap.size w w' := by
  have H8 : Hid (FC.Bs [165, ki, ca, sq / 256, sq % 256, a, b, c]) := FC.Bs.cons (by omega) (FC.Bs.cons (by omega) (FC.Bs.cons (by omega) (FC.Bs.cons (by omega) (FC.Bs.cons (by omega) (FC.Bs.cons (by omega) (FC.Bs.cons (by omega) (FC.Bs.cons (by omega) FC.Bs.nil)))))))
  have HB3 := Hid.intro' ((Below.refl w.heap.size w).alloc (Nat.le_refl _) (.cells #[.int .i64 (⟨ki, ca, sq, a, b, c⟩ : Fr).ki, .int .i64 (⟨ki, ca, sq, a, b, c⟩ : Fr).ca, .int .i64 (⟨ki, ca, sq, a, b, c⟩ : Fr).sq, .int .i64 (⟨ki, ca, sq, a, b, c⟩ : Fr).a, .int .i64 (⟨ki, ca, sq, a, b, c⟩ : Fr).b, .int .i64 (⟨ki, ca, sq, a, b, c⟩ : Fr).c] 55))
  go_enter Try.func33, Try.ntmps33
  go_wp2_with fail
  have HO : Hid (OW ((w.alloc (.cells #[.int .i64 (⟨ki, ca, sq, a, b, c⟩ : Fr).ki, .int .i64 (⟨ki, ca, sq, a, b, c⟩ : Fr).ca, .int .i64 (⟨ki, ca, sq, a, b, c⟩ : Fr).sq, .int .i64 (⟨ki, ca, sq, a, b, c⟩ : Fr).a, .int .i64 (⟨ki, ca, sq, a, b, c⟩ : Fr).b, .int .i64 (⟨ki, ca, sq, a, b, c⟩ : Fr).c] 55)).alloc (.cells #[.int .u8 165, .int .u8 ki, .int .u8 ca, .int .u8 (sq / 256), .int .u8 (sq % 256), .int .u8 a, .int .u8 b, .int .u8 c] 5)) w.heap.size (.slice (some ⟨w.heap.size + 1, 0, none⟩) 8 8) [165, ki, ca, sq / 256, sq % 256, a, b, c]) := by
    have := OW.lit (B := w.heap.size) (w.alloc (.cells #[.int .i64 (⟨ki, ca, sq, a, b, c⟩ : Fr).ki, .int .i64 (⟨ki, ca, sq, a, b, c⟩ : Fr).ca, .int .i64 (⟨ki, ca, sq, a, b, c⟩ : Fr).sq, .int .i64 (⟨ki, ca, sq, a, b, c⟩ : Fr).a, .int .i64 (⟨ki, ca, sq, a, b, c⟩ : Fr).b, .int .i64 (⟨ki, ca, sq, a, b, c⟩ : Fr).c] 55)) [165, ki, ca, sq / 256, sq % 256, a, b, c] HB3.out.size (by unfold maxLen; simp)
    rw [World.size_alloc] at this
    exact this
  have HB4 := Hid.intro' (HB3.out.alloc HB3.out.size (.cells #[.int .u8 165, .int .u8 ki, .int .u8 ca, .int .u8 (sq / 256), .int .u8 (sq % 256), .int .u8 a, .int .u8 b, .int .u8 c] 5))
  generalize (w.alloc (.cells #[.int .i64 (⟨ki, ca, sq, a, b, c⟩ : Fr).ki, .int .i64 (⟨ki, ca, sq, a, b, c⟩ : Fr).ca, .int .i64 (⟨ki, ca, sq, a, b, c⟩ : Fr).sq, .int .i64 (⟨ki, ca, sq, a, b, c⟩ : Fr).a, .int .i64 (⟨ki, ca, sq, a, b, c⟩ : Fr).b, .int .i64 (⟨ki, ca, sq, a, b, c⟩ : Fr).c] 55)).alloc (.cells #[.int .u8 165, .int .u8 ki, .int .u8 ca, .int .u8 (sq / 256), .int .u8 (sq % 256), .int .u8 a, .int .u8 b, .int .u8 c] 5) = W4 at HO HB4 ⊢
  generalize w.heap.size + 1 = g at HO ⊢
  clear HB3
  refine (rsum_any _ _ _ (HO.out.rd H8.out)).mono ?_
  rintro e W5 ⟨rfl, hW⟩
  subst hW
  have hn := FC.crc_lt H8.out
  have HN : Hid (FC.en ⟨ki, ca, sq, a, b, c⟩ = [165, ki, ca, sq / 256, sq % 256, a, b, c] ++ [FC.crc [165, ki, ca, sq / 256, sq % 256, a, b, c] / 256, FC.crc [165, ki, ca, sq / 256, sq % 256, a, b, c] % 256]) := by
    show FC.en _ = _
    unfold FC.en FC.h8
    simp only [Int.toNat_natCast]
  generalize FC.crc [165, ki, ca, sq / 256, sq % 256, a, b, c] = n at hn HN ⊢
  go_wp2_with (at_builtin; refine wpList_appendB rfl _ _ rfl w.heap.size _ [165, ki, ca, sq / 256, sq % 256, a, b, c] rfl ?qc1 ⟨_, 0, none⟩ 2 [n / 256, n % 256] rfl ?qc2 ?qc3 ?qc4 ?_)
  case qc1 => exact HO.out.alloc _
  case qc2 => exact ((OW.lit (B := 0) _ [n / 256, n % 256] (Nat.zero_le _) (by unfold maxLen; simp)).rd (FC.Bs.cons (by omega) (FC.Bs.cons (by omega) FC.Bs.nil))).cells
  case qc3 => simp
  case qc4 => simp; have := HB4.out.size; omega
  intro v' w1 hown hgrow
  have HO2 := Hid.intro' hown
  have HB5 := Hid.intro' ((HB4.out.alloc HB4.out.size _).grown hgrow (by simp; have := HB4.out.size; omega) (by intro k hk; simp [Value.ownBlock] at hk; have := HO.out.lt g rfl; omega))
  clear hown hgrow
  go_wp2
  go_ret
  refine ⟨v', rfl, ?_, HB5.out⟩
  rw [HN.out]
  exact HO2.out

theorem bytes_yes (f : Fr) (w : World) (h : FC.May f) :
    Calls Try.prog 33 #[.agg #[.int .i64 f.ki, .int .i64 f.ca, .int .i64 f.sq, .int .i64 f.a, .int .i64 f.b, .int .i64 f.c]] w fun e w' => ∃ v, e = .returned v ∧ OW w' w.heap.size v (FC.en f) ∧ Below w.heap.size w w' := by
  obtain ⟨ki, ca, sq, a, b, c⟩ := f
  obtain ⟨h1, h2, h3, h4, h5, h6, h7, h8, h9, h10, h11, h12⟩ := h
  simp only at h1 h2 h3 h4 h5 h6 h7 h8 h9 h10 h11 h12
  obtain ⟨ki, rfl⟩ := Int.eq_ofNat_of_zero_le (show 0 ≤ ki by omega)
  obtain ⟨ca, rfl⟩ := Int.eq_ofNat_of_zero_le (show 0 ≤ ca by omega)
  obtain ⟨sq, rfl⟩ := Int.eq_ofNat_of_zero_le (show 0 ≤ sq by omega)
  obtain ⟨a, rfl⟩ := Int.eq_ofNat_of_zero_le (show 0 ≤ a by omega)
  obtain ⟨b, rfl⟩ := Int.eq_ofNat_of_zero_le (show 0 ≤ b by omega)
  obtain ⟨c, rfl⟩ := Int.eq_ofNat_of_zero_le (show 0 ≤ c by omega)
  exact bytes_nat ki ca sq a b c w (by omega) (by omega) (by omega) (by omega) (by omega) (by omega) (by omega)

end Go.Proofs.Ytkbfljacjfaamad
