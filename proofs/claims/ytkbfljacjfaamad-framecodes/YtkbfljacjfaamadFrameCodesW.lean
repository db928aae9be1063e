/- FrameCodes: the walk. -/
import Derived.Test.YtkbfljacjfaamadFrJ
namespace Go.Proofs.Ytkbfljacjfaamad
open Go.RowKit

/-- what stays: the frame in its block, the bytes, and all that was there -/
structure Cx (w W : World) (fb : Nat) (f : Fr) (v : Value) (l : List Nat) : Prop where
  fb : FB W fb f
  rd : RD W v l
  bel : Below w.heap.size w W
theorem Cx.next {w W W' : World} {b : Nat} {f : Fr} {v : Value} {l : List Nat} (h : Cx w W b f v l) (hb : Below W.heap.size W W') : Cx w W' b f v l := ⟨h.fb.below' hb, h.rd.below' hb, below_class h.bel hb⟩
theorem Cx.alloc {w W : World} {b : Nat} {f : Fr} {v : Value} {l : List Nat} (h : Cx w W b f v l) (o : Obj) : Cx w (W.alloc o) b f v l := h.next ((Below.refl _ _).alloc (Nat.le_refl _) o)
set_option maxHeartbeats 4000000 in
theorem codes_true (f : Fr) (v : Value) (l : List Nat) (w : World) (h : RD w v l) :
    Calls Try.prog 6 #[.agg #[.int .i64 f.ki, .int .i64 f.ca, .int .i64 f.sq, .int .i64 f.a, .int .i64 f.b, .int .i64 f.c], v] w fun e w' => e = .returned (.bool true) ∧ Below w.heap.size w w' := by
  have HX0 : Hid (Cx w (w.alloc (.cells #[.int .i64 f.ki, .int .i64 f.ca, .int .i64 f.sq, .int .i64 f.a, .int .i64 f.b, .int .i64 f.c] 55)) w.heap.size f v l) := ⟨FB.new w f, h.alloc _, (Below.refl _ w).alloc (Nat.le_refl _) _⟩
  have hBs := Hid.intro' h.bs
  obtain ⟨a, cap, rfl, hc, hm, _⟩ := h.form
  unfold maxLen at hm
  clear h
  go_enter Try.func6, Try.ntmps6
  go_wp2_with fail
  refine (speaks_any _).mono ?_
  rintro e W1 ⟨rfl, hb1⟩
  have HX1 := Hid.intro' (HX0.out.next hb1)
  clear hb1 HX0
  by_cases hl : 300 < l.length
  · have hz : (300 : Int) < (l.length : Int) := by omega
    go_wp2
    go_ret
    exact ⟨rfl, HX1.out.bel⟩
  · have hz : ¬ (300 : Int) < (l.length : Int) := by omega
    go_wp2_with (at_builtin; refine wpList_appendR rfl _ _ rfl w.heap.size _ _ [] l rfl ?qc1 rfl ?qc2 ?qc3 ?qc4 ?_)
    case qc1 => exact OW.lit (B := w.heap.size) W1 [] HX1.out.bel.size (Nat.zero_le _)
    case qc2 => exact HX1.out.rd.alloc _
    case qc3 => simp; omega
    case qc4 => simp; have := HX1.out.bel.size; omega
    intro v2 W2 ho2 hg2
    have hb2 := made_grown hg2 rfl
    have HX2 := Hid.intro' (HX1.out.next hb2)
    have HO2 := Hid.intro' ho2
    clear ho2 hg2 hb2 HX1
    go_wp2_with fail
    refine (decode_any _ _ _ (HO2.out.rd hBs.out)).mono ?_
    rintro e W3 ⟨rfl, hb3⟩
    have HX3 := Hid.intro' (HX2.out.next hb3)
    clear hb3 HX2 HO2
    generalize hx : FC.df l = x
    generalize hy : FC.de l = y
    have HDX := Hid.intro' hx
    have HDY := Hid.intro' hy
    clear hx hy
    have hq : ∀ W, (Op.equalIn 10000 55 (.agg #[.int .i64 x.ki, .int .i64 x.ca, .int .i64 x.sq, .int .i64 x.a, .int .i64 x.b, .int .i64 x.c]) (.agg #[.int .i64 x.ki, .int .i64 x.ca, .int .i64 x.sq, .int .i64 x.a, .int .i64 x.b, .int .i64 x.c])).run Try.prog W = .ok true W := fun W => by rw [eqF W x x, smF_refl]
    go_wp2_with fail
    have hr := rdecode_any _ _ _ (HX3.out.alloc (.cells #[.int .i64 x.ki, .int .i64 x.ca, .int .i64 x.sq, .int .i64 x.a, .int .i64 x.b, .int .i64 x.c] 55)).rd
    rw [HDX.out, HDY.out] at hr
    refine hr.mono ?_
    rintro e W4 ⟨rfl, hb4⟩
    have HX4 := Hid.intro' (((HX3.out.alloc (.cells #[.int .i64 x.ki, .int .i64 x.ca, .int .i64 x.sq, .int .i64 x.a, .int .i64 x.b, .int .i64 x.c] 55)).next hb4).alloc (.cells #[.int .i64 x.ki, .int .i64 x.ca, .int .i64 x.sq, .int .i64 x.a, .int .i64 x.b, .int .i64 x.c] 55))
    have HP4 := Hid.intro' (((FB.new W3 x).below' hb4).alloc (.cells #[.int .i64 x.ki, .int .i64 x.ca, .int .i64 x.sq, .int .i64 x.a, .int .i64 x.b, .int .i64 x.c] 55))
    have HQ4 := Hid.intro' (FB.new W4 x)
    clear hr hb4 HX3
    have hs := sum_any _ _ _ HX4.out.rd
    have hrs := rsum_any _ _ _ HX4.out.rd
    have HS := Hid.intro' hs
    have HRS := Hid.intro' hrs
    clear hs hrs
    generalize FC.crc l = n at HS HRS
    go_wp2_with (first | (refine wpList_loadF rfl _ rfl W3.heap.size rfl HP4.out ?_) | (refine wpList_loadF rfl _ rfl W4.heap.size rfl HQ4.out ?_) | (go_at_call 28; refine HS.out.mono ?_; rintro e w' ⟨rfl, rfl⟩) | (go_at_call 29; refine HRS.out.mono ?_; rintro e w' ⟨rfl, rfl⟩) | (refine wpList_loadF rfl _ rfl w.heap.size rfl HX4.out.fb ?_))
    clear HP4 HQ4 HS HRS
    generalize W4.alloc (.cells #[.int .i64 x.ki, .int .i64 x.ca, .int .i64 x.sq, .int .i64 x.a, .int .i64 x.b, .int .i64 x.c] 55) = W5 at HX4 ⊢
    clear hq
    have hqf : ∀ W, (Op.equalIn 10000 55 (.agg #[.int .i64 f.ki, .int .i64 f.ca, .int .i64 f.sq, .int .i64 f.a, .int .i64 f.b, .int .i64 f.c]) (.agg #[.int .i64 f.ki, .int .i64 f.ca, .int .i64 f.sq, .int .i64 f.a, .int .i64 f.b, .int .i64 f.c])).run Try.prog W = .ok true W := fun W => by rw [eqF W f f, smF_refl]
    by_cases hM : FC.May f
    · refine (encode_yes f _ hM).mono ?_
      rintro e W6 ⟨v6, rfl, ho6, hb6⟩
      have hmb : mayB f = true := (mayB_iff f).2 hM
      have HX6 := Hid.intro' (HX4.out.next hb6)
      have HO6 := Hid.intro' ho6
      clear hb6 ho6 HX4
      go_wp2_with (refine wpList_loadF rfl _ rfl w.heap.size rfl HX6.out.fb ?_)
      refine (may_any f _).mono ?_
      rintro e W7 ⟨rfl, hb7⟩
      have HX7 := Hid.intro' (HX6.out.next hb7)
      have HO7 := Hid.intro' (HO6.out.below' hb7)
      clear hb7 HO6 HX6
      have hd := decode_any _ _ _ (HO7.out.rd (FC.en_Bs hM))
      rw [FC.df_en hM, FC.de_en hM] at hd
      go_wp2_with fail
      refine hd.mono ?_
      rintro e W8 ⟨rfl, hb8⟩
      have HX8 := Hid.intro' ((HX7.out.next hb8).alloc (.cells #[.int .i64 f.ki, .int .i64 f.ca, .int .i64 f.sq, .int .i64 f.a, .int .i64 f.b, .int .i64 f.c] 55))
      have HO8 := Hid.intro' ((HO7.out.below' hb8).alloc (.cells #[.int .i64 f.ki, .int .i64 f.ca, .int .i64 f.sq, .int .i64 f.a, .int .i64 f.b, .int .i64 f.c] 55))
      have HZ8 := Hid.intro' (FB.new W8 f)
      clear hb8 hd HX7 HO7
      go_wp2_with (refine wpList_loadFg (by go_simp) _ rfl w.heap.size rfl HX8.out.fb ?_)
      refine (bytes_yes f _ hM).mono ?_
      rintro e W9 ⟨v9, rfl, ho9, hb9⟩
      have HX9 := Hid.intro' (HX8.out.next hb9)
      have HO9 := Hid.intro' (HO8.out.below' hb9)
      have HZ9 := Hid.intro' (HZ8.out.below' hb9)
      have hs := same_any _ _ _ _ _ (HO9.out.rd (FC.en_Bs hM)) (ho9.rd (FC.en_Bs hM)) (fun e => by have := FC.en_length f; rw [e] at this; cases this) (fun e => by have := FC.en_length f; rw [e] at this; cases this)
      rw [decide_eq_true rfl] at hs
      have HS := Hid.intro' hs
      clear ho9 hb9 hs HX8 HO8 HZ8 HO9
      go_wp2_with fail
      refine HS.out.mono ?_
      rintro e w' ⟨rfl, hW⟩
      subst hW
      clear HS
      go_wp2_with (first | (refine wpList_loadFg (by go_simp) _ rfl w.heap.size rfl HX9.out.fb ?_) | (refine wpList_loadFg (by go_simp) _ rfl W8.heap.size rfl HZ9.out ?_))
      go_ret
      exact ⟨rfl, HX9.out.bel⟩
    · refine (encode_no f _ hM).mono ?_
      rintro e W6 ⟨rfl, hb6⟩
      have hmb : mayB f = false := by rw [Bool.eq_false_iff]; exact fun e => hM ((mayB_iff f).1 e)
      have HX6 := Hid.intro' (HX4.out.next hb6)
      clear hb6 HX4
      go_wp2_with (refine wpList_loadF rfl _ rfl w.heap.size rfl HX6.out.fb ?_)
      refine (may_any f _).mono ?_
      rintro e W7 ⟨rfl, hb7⟩
      have HX7 := Hid.intro' (HX6.out.next hb7)
      clear hb7 HX6
      go_wp2
      go_ret
      exact ⟨rfl, HX7.out.bel⟩

end Go.Proofs.Ytkbfljacjfaamad
