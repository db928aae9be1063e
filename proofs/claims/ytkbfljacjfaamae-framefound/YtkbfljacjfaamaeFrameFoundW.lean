/- FrameFound: the walk. -/
import Derived.Test.YtkbfljacjfaamaeFrR
namespace Go.Proofs.Ytkbfljacjfaamae
open Go.RowKit

/-- bytes that are none of 165 -/
def jk (J : List Nat) (k : Nat) : List Nat := (J.take k).filter fun x => x != 165
theorem jk_yes {J : List Nat} {k c : Nat} (h : J[k]? = some c) (hc : c ≠ 165) : jk J (k + 1) = jk J k ++ [c] := by
  unfold jk
  rw [List.take_add_one, h, List.filter_append]
  simp [hc]
theorem jk_no {J : List Nat} {k : Nat} (h : J[k]? = some 165) : jk J (k + 1) = jk J k := by
  unfold jk
  rw [List.take_add_one, h, List.filter_append]
  simp
theorem jk_ne (J : List Nat) (k : Nat) : ∀ x ∈ jk J k, x ≠ 165 := by
  intro x hx
  have := (List.mem_filter.1 hx).2
  simpa using this
theorem jk_len (J : List Nat) (k : Nat) : (jk J k).length ≤ J.length :=
  Nat.le_trans (List.length_filter_le _ _) (by rw [List.length_take]; omega)
theorem jk_Bs {J : List Nat} (k : Nat) (h : FC.Bs J) : FC.Bs (jk J k) := fun x hx => h x (List.mem_of_mem_take (List.mem_filter.1 hx).1)
theorem ens_take {L : List Fr} {k : Nat} {f : Fr} (h : L[k]? = some f) : FC.ens (L.take (k + 1)) = FC.ens (L.take k) ++ FC.en f := by
  rw [List.take_add_one, h]; exact FC.ens_snoc f _

/-- the bytes that are fed, and all that was there -/
structure Lx (w wr : World) (bv : Value) (l : List Nat) : Prop where
  ow : OW wr w.heap.size bv l
  bel : Below w.heap.size w wr
theorem Lx.next {w wr W : World} {bv : Value} {l : List Nat} (h : Lx w wr bv l) (hb : Below wr.heap.size wr W) : Lx w W bv l := ⟨h.ow.below' hb, below_class h.bel hb⟩
theorem Lx.alloc {w wr : World} {bv : Value} {l : List Nat} (h : Lx w wr bv l) (o : Obj) : Lx w (wr.alloc o) bv l := h.next ((Below.refl _ _).alloc (Nat.le_refl _) o)
theorem Lx.grown {w wr W : World} {bv bv' : Value} {l l' : List Nat} (h : Lx w wr bv l) (ho : OW W w.heap.size bv' l') (hg : wr.grownBy W bv.ownBlock) : Lx w W bv' l' :=
  ⟨ho, h.bel.grown hg h.bel.size (fun k hk => (h.ow.lt k hk).1)⟩

theorem FO.slice {W : World} {B : Nat} {v : Value} {F : List Fr} (h : FO W B v F) : ∃ a c, v = .slice a F.length c := by
  rcases h.form with ⟨rfl, rfl⟩ | ⟨g, cap, rfl, _⟩
  · exact ⟨none, 0, rfl⟩
  · exact ⟨_, cap, rfl⟩
/-- what a stream gives, in letters -/
structure F3 (y : List Nat) (F : List Fr) (N : Nat) (R : List Nat) : Prop where
  eq : FC.fd y = (F, N, R)
theorem F3.left {y : List Nat} {F : List Fr} {N : Nat} {R : List Nat} (h : F3 y F N R) : R.length < 10 := by
  have := (FC.fd_left y).1
  rwa [h.eq] at this
theorem F3.count {y : List Nat} {F : List Fr} {N : Nat} {R : List Nat} (h : F3 y F N R) : F.length * 10 + N + R.length = y.length := by
  have := FC.fd_count y
  rwa [h.eq] at this
/-- what holds while the bytes are fed -/
structure Kx (w W : World) (sb : Nat) (u bv fo : Value) (pre rest lf : List Nat) (F : List Fr) (n : Nat) : Prop where
  rd : RD W bv rest
  sbh : W.heap[sb]? = some (.cells #[u] 33 (0, 0))
  ru : RD W u lf
  own : FO W w.heap.size fo F
  nb : rest ≠ [] → ∀ g, bv.ownBlock = some g → g ≠ sb ∧ fo.ownBlock ≠ some g
  nu : lf ≠ [] → ∀ g, u.ownBlock = some g → fo.ownBlock ≠ some g
  fs : fo.ownBlock ≠ some sb
  lo : w.heap.size ≤ sb
  bel : Below w.heap.size w W
  eq : F3 pre F n lf
section
variable {w W W4 W5 : World} {sb : Nat} {u un fo fo5 : Value} {pre rest lf lf' : List Nat} {F F' : List Fr} {n n' : Nat}
theorem Kx.own4 {bv : Value} (h : Kx w W sb u bv fo pre rest lf F n) (hk : Kp (fun k => k = sb) W W4) : FO W4 w.heap.size fo F := h.own.kp hk (fun g hg e => h.fs (by rw [hg, e]))
theorem Kx.bel4 {bv : Value} (h : Kx w W sb u bv fo pre rest lf F n) (hk : Kp (fun k => k = sb) W W4) : Below w.heap.size w W4 := hk.below h.bel h.bel.size (fun i hi e => by have := h.lo; omega)
theorem Kx.step {g o cap m : Nat} {a' : Option Addr} (h : Kx w W sb u (.slice (some ⟨g, o, none⟩) rest.length cap) fo pre rest lf F n) (hm : m ≤ rest.length)
    (ha : m < rest.length → a' = some ⟨g, o + m, none⟩) (hn : a' ≠ none)
    (hs4 : W4.heap[sb]? = some (.cells #[un] 33 (0, 0))) (hu4 : OW W4 W.heap.size un lf') (hk4 : Kp (fun k => k = sb) W W4) (e3 : F3 (lf ++ rest.take m) F' n' lf') (hBl : FC.Bs lf')
    (ho5 : FO W5 w.heap.size fo5 (F ++ F')) (hg5 : W4.grownBy W5 fo.ownBlock) (hl5 : fo5.ownBlock = fo.ownBlock ∨ fo5.ownBlock = some W4.heap.size) :
    Kx w W5 sb un (.slice a' (rest.length - m) (cap - m)) fo5 (pre ++ rest.take m) (rest.drop m) lf' (F ++ F') (n + n') := by
  have hsl : sb < W.heap.size := (Array.getElem?_eq_some_iff.1 h.sbh).1
  have hsz := hk4.size
  have hr4 : RD W4 (.slice (some ⟨g, o, none⟩) rest.length cap) rest := h.rd.keep' hk4.size (fun hne k hk hlt => hk4.block k hlt (h.nb hne k hk).1)
  have hr5 : RD W5 (.slice (some ⟨g, o, none⟩) rest.length cap) rest := hr4.keep' hg5.size (fun hne k hk hlt => hg5.block k hlt (fun e => (h.nb hne k hk).2 e.symm))
  have hr6 := hr5.drop (a' := a') m hm (fun g' o' e hlt => by cases e; exact ha hlt) (fun e => absurd e hn)
  have hfo : ∀ k, fo.ownBlock = some k → w.heap.size ≤ k ∧ k < W.heap.size := h.own.lt
  have hun : ∀ k, un.ownBlock = some k → W.heap.size ≤ k ∧ k < W4.heap.size := hu4.lt
  have hu5 : OW W5 W.heap.size un lf' := hu4.keep (fun k hk => hg5.block k (hun k hk).2 (fun e => by have := (hfo k e.symm).2; have := (hun k hk).1; omega))
  refine ⟨hr6, ?_, hu5.rd hBl, ho5, ?_, ?_, ?_, h.lo, ?_, ?_⟩
  · rw [hg5.block sb (by omega) (fun e => h.fs e.symm)]; exact hs4
  · intro hne k hk
    have hml : m < rest.length := by
      apply Classical.byContradiction
      intro hc
      apply hne
      apply List.length_eq_zero_iff.1
      rw [List.length_drop]; omega
    have hne' : rest ≠ [] := fun e => by rw [e] at hml; simp at hml
    rw [ha hml] at hk
    have hk : g = k := by simpa [Value.ownBlock] using hk
    subst hk
    have hb := h.nb hne' g rfl
    refine ⟨hb.1, fun e => ?_⟩
    rcases hl5 with e5 | e5
    · rw [e5] at e; exact hb.2 e
    · rw [e5] at e
      have := h.rd.lt hne'
      cases e
      omega
  · intro _ k hk e
    have := hun k hk
    rcases hl5 with e5 | e5
    · rw [e5] at e
      have := (hfo k e).2
      omega
    · rw [e5] at e; cases e; omega
  · intro e
    rcases hl5 with e5 | e5
    · rw [e5] at e; exact h.fs e
    · rw [e5] at e; cases e; omega
  · exact (h.bel4 hk4).grown hg5 (h.bel4 hk4).size (fun k hk => (hfo k hk).1)
  · constructor
    have := FC.fd_append pre (rest.take m)
    rw [h.eq.eq] at this
    simp only at this
    rw [e3.eq] at this
    exact this
end

set_option maxHeartbeats 8000000 in
theorem found_true (lv jv : Value) (L : List Fr) (J : List Nat) (cut : Int) (w : World) (hL : RF w lv L) (hJ : RD w jv J) :
    Calls Try.prog 3 #[lv, jv, .int .i64 cut] w fun e w' => e = .returned (.bool true) ∧ Below w.heap.size w w' := by
  obtain ⟨K, hK, eK⟩ : ∃ K : Nat, K < 16 ∧ bits .and .i64 cut 15 = (K : Int) := ⟨(cut % 16).toNat, by omega, by rw [i64_and15]; omega⟩
  have HL := Hid.intro' hL
  have HJ := Hid.intro' hJ
  have hBJ := Hid.intro' hJ.bs
  obtain ⟨la, lc, rfl, hlc⟩ := hL.form
  obtain ⟨ja, jc, rfl, hjc, _, _⟩ := hJ.form
  clear hL hJ
  go_enter Try.func3, Try.ntmps3
  go_wp2_with fail
  refine (speaks_any _).mono ?_
  rintro e W1 ⟨rfl, hb1⟩
  have HB1 := Hid.intro' hb1
  clear hb1
  by_cases h40 : 40 < L.length
  · have hz : (40 : Int) < (L.length : Int) := by omega
    go_wp2
    go_ret
    exact ⟨rfl, HB1.out⟩
  have hz : ¬ (40 : Int) < (L.length : Int) := by omega
  by_cases h100 : 100 < J.length
  · have hz1 : (100 : Int) < (J.length : Int) := by omega
    go_wp2
    go_ret
    exact ⟨rfl, HB1.out⟩
  have hz1 : ¬ (100 : Int) < (J.length : Int) := by omega
  go_wp2
  have HX0 : Hid (Lx w (W1.alloc (.cells #[] 5)) (.slice (some ⟨W1.heap.size, 0, none⟩) 0 0) []) := ⟨OW.lit (B := w.heap.size) W1 [] HB1.out.size (Nat.zero_le _), HB1.out.alloc HB1.out.size _⟩
  generalize W1.alloc (.cells #[] 5) = W2 at HX0 ⊢
  generalize W1.heap.size = gb at HX0 ⊢
  go_loopw [7, 9, 35] (fun bv _ i wr => ∃ k : Nat, k ≤ J.length ∧ i = .int .i64 (k : Int) ∧ Hid (Lx w wr bv (jk J k))) (fun _ _ i _ => J.length - (intOf i).toNat)
  case atStart => exact ⟨0, Nat.zero_le _, rfl, HX0⟩
  case round =>
    obtain ⟨k, hk, rfl, HX⟩ := hrel
    by_cases hlt : k < J.length
    · have hkz : (k : Int) < (J.length : Int) := by omega
      obtain ⟨c, hc⟩ : ∃ c, J[k]? = some c := ⟨_, List.getElem?_eq_getElem hlt⟩
      have HJr := HJ.out.below' HX.out.bel
      obtain ⟨_, _, e, _, _, hja⟩ := HJr.form
      simp only [Value.slice.injEq, true_and] at e
      obtain ⟨rfl, rfl⟩ := e
      rcases hja with hja | ⟨g, o, rfl, _⟩
      · exfalso; rw [hja] at hc; simp at hc
      have hcell := HJr.cell hc
      have hc8 := hBJ.out.get hc
      have HC := Hid.intro' hc
      clear hc HJr
      by_cases h165 : c = 165
      · subst h165
        go_wp2
        go_roundw
        case rel => exact ⟨k + 1, by omega, by go_num, by rw [jk_no HC.out]; exact HX⟩
        case measure => simp [intOf]; omega
      · have hcz : ((c : Int) != 165) = true := by simp; omega
        have H165 := Hid.intro' h165
        clear h165
        go_wp2_with (at_builtin; refine wpList_appendR rfl _ _ rfl w.heap.size _ _ (jk J k) [c] rfl ?qc1 rfl ?qc2 ?qc3 ?qc4 ?_)
        case qc1 => exact HX.out.ow.alloc _
        case qc2 => exact (OW.lit (B := 0) wr [c] (Nat.zero_le _) (by unfold maxLen; simp)).rd (FC.Bs.cons hc8 FC.Bs.nil)
        case qc3 => have := jk_len J k; simp; omega
        case qc4 => have := HX.out.bel.size; simp; omega
        intro v2 W3 ho2 hg2
        have HX3 : Hid (Lx w W3 v2 (jk J (k + 1))) := by rw [jk_yes HC.out H165.out]; exact (HX.out.alloc _).grown ho2 hg2
        clear ho2 hg2
        go_wp2
        go_roundw
        case rel => exact ⟨k + 1, by omega, by go_num, HX3⟩
        case measure => simp [intOf]; omega
    · have hkz : ¬ (k : Int) < (J.length : Int) := by omega
      obtain ⟨A, hA⟩ : ∃ A, A = jk J k := ⟨_, rfl⟩
      rw [← hA] at HX
      have HAB : Hid (FC.Bs A) := by rw [hA]; exact jk_Bs k hBJ.out
      have HAN : Hid (∀ x ∈ A, x ≠ 165) := by rw [hA]; exact jk_ne J k
      have hAL : A.length ≤ 100 := by have := jk_len J k; rw [hA]; omega
      clear hA
      obtain ⟨ba, bcap, rfl⟩ := HX.out.ow.slice
      go_wp2
      have HX' : Hid (Lx w wr (.slice ba A.length bcap) (A ++ FC.ens (L.take 0))) := by
        rw [show A ++ FC.ens (L.take 0) = A by simp [FC.ens]]; exact HX
      clear HX
      go_loopw [7, 12, 13, 14, 50] (fun bv _ _ _ i wq => ∃ k : Nat, k ≤ L.length ∧ i = .int .i64 (k : Int) ∧ Hid (∀ f ∈ L.take k, FC.May f) ∧ Hid (Lx w wq bv (A ++ FC.ens (L.take k)))) (fun _ _ _ _ i _ => L.length - (intOf i).toNat)
      case atStart => exact ⟨0, Nat.zero_le _, rfl, (fun f hf => by simp at hf), HX'⟩
      case round =>
        obtain ⟨k, hk, rfl, HM, HX⟩ := hrel
        clear HX'
        by_cases hlt : k < L.length
        · have hkz : (k : Int) < (L.length : Int) := by omega
          obtain ⟨f, hf⟩ : ∃ f, L[k]? = some f := ⟨_, List.getElem?_eq_getElem hlt⟩
          obtain ⟨g, o, rfl, _, hr⟩ := (HL.out.below' HX.out.bel).at hf
          obtain ⟨c0, c1, c2, c3, c4, c5⟩ := RF.cells6 hr
          have HF := Hid.intro' hf
          have HV := Hid.intro' (FB.new wr f)
          have HXa := Hid.intro' (HX.out.alloc (.cells #[.int .i64 f.ki, .int .i64 f.ca, .int .i64 f.sq, .int .i64 f.a, .int .i64 f.b, .int .i64 f.c] 26))
          have hel : (A ++ FC.ens (L.take k)).length ≤ 500 := by rw [List.length_append, FC.ens_length, List.length_take]; omega
          have HEL := Hid.intro' hel
          clear hf hr hel
          go_wp2_with (refine wpList_loadF rfl _ rfl wr.heap.size rfl HV.out ?_)
          clear c0 c1 c2 c3 c4 c5 HX
          by_cases hM : FC.May f
          · refine (encode_yes f _ hM).mono ?_
            rintro e W3 ⟨v3, rfl, ho3, hb3⟩
            have HV3 := Hid.intro' (HV.out.below' hb3)
            have HX3 := Hid.intro' (HXa.out.next hb3)
            have HO3 := Hid.intro' ho3
            have hmb : mayB f = true := (mayB_iff f).2 hM
            clear ho3 hb3 HXa HV
            go_wp2_with (refine wpList_loadF rfl _ rfl wr.heap.size rfl HV3.out ?_)
            refine (may_any f _).mono ?_
            rintro e W4 ⟨rfl, hb4⟩
            have HX4 := Hid.intro' (HX3.out.next hb4)
            have HO4 := Hid.intro' (HO3.out.below' hb4)
            clear hb4 HX3 HO3 HV3
            go_wp2_with (at_builtin; refine wpList_appendR rfl _ _ rfl w.heap.size _ _ (A ++ FC.ens (L.take k)) (FC.en f) rfl HX4.out.ow rfl (HO4.out.rd (FC.en_Bs hM)) ?qd1 HX4.out.bel.size ?_)
            case qd1 => have := HEL.out; rw [FC.en_length]; omega
            intro v5 W5 ho5 hg5
            have HX5 : Hid (Lx w W5 v5 (A ++ FC.ens (L.take (k + 1)))) := by
              rw [ens_take HF.out]; exact HX4.out.grown ho5 hg5
            have HM5 : Hid (∀ f ∈ L.take (k + 1), FC.May f) := by
              intro e he
              rw [List.take_add_one, HF.out] at he
              rcases List.mem_append.1 he with he | he
              · exact HM.out e he
              · simp at he; rw [he]; exact hM
            clear ho5 hg5
            go_wp2
            go_roundw
            case rel => exact ⟨k + 1, by omega, by go_num, HM5, HX5⟩
            case measure => simp [intOf]; omega
          · refine (encode_no f _ hM).mono ?_
            rintro e W3 ⟨rfl, hb3⟩
            have HV3 := Hid.intro' (HV.out.below' hb3)
            have HX3 := Hid.intro' (HXa.out.next hb3)
            have hmb : mayB f = false := by rw [Bool.eq_false_iff]; exact fun e => hM ((mayB_iff f).1 e)
            clear hb3 HXa HV
            go_wp2_with (refine wpList_loadF rfl _ rfl wr.heap.size rfl HV3.out ?_)
            refine (may_any f _).mono ?_
            rintro e W4 ⟨rfl, hb4⟩
            have HX4 := Hid.intro' (HX3.out.next hb4)
            clear hb4 HX3 HV3
            go_wp2
            go_ret
            exact ⟨rfl, HX4.out.bel⟩
        · have hkz : ¬ (k : Int) < (L.length : Int) := by omega
          obtain rfl : k = L.length := by omega
          rw [List.take_length] at HX HM
          obtain ⟨Y, hY⟩ : ∃ Y, Y = A ++ FC.ens L := ⟨_, rfl⟩
          rw [← hY] at HX
          have HY := Hid.intro' hY
          have hYL : Y.length ≤ 500 := by rw [hY, List.length_append, FC.ens_length]; omega
          have HYB : Hid (FC.Bs Y) := by rw [hY]; exact HAB.out.append (FC.ens_Bs HM.out)
          clear hY
          obtain ⟨ca, ccap, rfl⟩ := HX.out.ow.slice
          go_wp2
          have HK0 : Hid (Kx w ((wr.alloc (.cells #[.slice none 0 0] 33)).alloc (.cells #[] 26)) wr.heap.size (.slice none 0 0) (.slice ca Y.length ccap) (.slice (some ⟨wr.heap.size + 1, 0, none⟩) 0 0) [] Y [] [] 0) := by
            have hb2 : Below wr.heap.size wr ((wr.alloc (.cells #[.slice none 0 0] 33)).alloc (.cells #[] 26)) := ((Below.refl _ wr).alloc (Nat.le_refl _) _).alloc (by simp) _
            refine ⟨(HX.out.ow.below' hb2).rd HYB.out, ?_, RD.nil _, ?_, fun _ k hk => ?_, fun e => absurd rfl e, ?_, HX.out.bel.size, below_class HX.out.bel hb2, ⟨FC.fd_few (by simp)⟩⟩
            · have h1 : (wr.alloc (.cells #[.slice none 0 0] 33)).heap[wr.heap.size]? = some (.cells #[.slice none 0 0] 33 (0, 0)) := heap_alloc_new wr _
              exact (Below.heap_alloc _ _ _ (by simp)).trans h1
            · have := World.ownsRow_made (base := w.heap.size) (e := 26) (size := 6) (wr.alloc (.cells #[.slice none 0 0] 33)) #[] 0 (by have := HX.out.bel.size; simp; omega) (Nat.zero_le _) (by simp)
              rw [World.size_alloc] at this
              exact this
            · have := (HX.out.ow.lt k hk).2
              refine ⟨by omega, ?_⟩
              simp [Value.ownBlock]
              omega
            · simp [Value.ownBlock]
          generalize (wr.alloc (.cells #[.slice none 0 0] 33)).alloc (.cells #[] 26) = W6 at HK0 ⊢
          generalize wr.heap.size = sb at HK0 ⊢
          clear HX
          have HYL := Hid.intro' hYL
          clear hYL
          go_loopw [7, 16, 17, 19, 20, 21] (fun bv p fo _ _ _ wq => ∃ (pre rest lf : List Nat) (F : List Fr) (n : Nat) (u : Value), p = .int .i64 (n : Int) ∧ Hid (Y = pre ++ rest) ∧ Hid (Kx w wq sb u bv fo pre rest lf F n)) (fun bv _ _ _ _ _ _ => lenV bv)
          case atStart => exact ⟨[], Y, [], [], 0, _, rfl, (by show Y = [] ++ Y; simp), HK0⟩
          case round =>
            obtain ⟨pre, rest, lf, F, n, u, rfl, HP, HK⟩ := hrel
            clear HK0
            obtain ⟨a, cap, rfl, hc, hm, ha⟩ := HK.out.rd.form
            have hrl : rest.length ≤ 500 := by have := HYL.out; rw [HP.out, List.length_append] at this; omega
            have hpl : pre.length ≤ 500 := by have := HYL.out; rw [HP.out, List.length_append] at this; omega
            have hcnt := HK.out.eq.count
            have hnz : (n : Int) ≤ 500 := by omega
            have HCN : Hid (F.length ≤ 500 ∧ n ≤ 500) := ⟨by omega, by omega⟩
            clear hpl hcnt
            rcases Nat.eq_zero_or_pos rest.length with h0 | h0
            · have hrz : ¬ (0 : Int) < (rest.length : Int) := by omega
              have hr0 : rest = [] := List.length_eq_zero_iff.1 h0
              have HE : Hid (F3 Y F n lf) := by
                have := HP.out
                rw [hr0, List.append_nil] at this
                rw [this]; exact HK.out.eq
              obtain ⟨fa, fc, rfl⟩ := HK.out.own.slice
              by_cases hL0 : L = []
              · have hL1 : ((L.length : Int) == 0) = true := by rw [hL0]; rfl
                have hA : Y = A := by rw [HY.out, hL0]; simp [FC.ens]
                have hf := FC.fd_lone HAN.out
                have he := HE.out.eq
                rw [hA] at he
                rw [he] at hf
                simp only at hf
                have hF0 : ((F.length : Int) == 0) = true := by rw [hf.1]; rfl
                have HN9 := Hid.intro' hf.2
                have hn9 := hf.2
                clear hf he hA hL0 hr0
                by_cases h9 : A.length ≤ 9
                · have z1 : ¬ (0 : Int) < (A.length : Int) - 9 := by omega
                  have z2 : ((n : Int) == 0) = true := by simp; omega
                  have z3 : (A.length : Int) - 9 ≤ 0 := by omega
                  clear hn9
                  go_wp2
                  all_goals
                    go_ret
                    refine ⟨?_, HK.out.bel⟩
                    have := HN9.out
                    first
                    | rfl
                    | (rw [show ((n : Int) == (A.length : Int) - 9) = true by simp; omega]; rfl)
                · have z1 : (0 : Int) < (A.length : Int) - 9 := by omega
                  have z2 : ((n : Int) == (A.length : Int) - 9) = true := by simp; omega
                  clear hn9
                  go_wp2
                  go_ret
                  exact ⟨rfl, HK.out.bel⟩
              · have hL1 : ((L.length : Int) == 0) = false := by
                  have : L.length ≠ 0 := fun e => hL0 (List.length_eq_zero_iff.1 e)
                  simp; exact hL0
                have hf := FC.fd_found HAN.out HM.out hL0
                have he := HE.out.eq
                rw [HY.out, hf] at he
                simp only [Prod.mk.injEq] at he
                obtain ⟨e1, e2, e3⟩ := he
                clear e3
                have z2 : ((n : Int) == (A.length : Int)) = true := by simp; omega
                have HF : RF wr (.slice fa F.length fc) L := by rw [e1]; exact HK.out.own.rf
                have hsm := sames_any (.slice fa F.length fc) (.slice la L.length lc) L wr HF (HL.out.below' HK.out.bel) (by omega)
                clear hf e1 e2 hL0 hr0 HF
                go_wp2_with fail
                refine hsm.mono ?_
                rintro e W7 ⟨rfl, hb7⟩
                have HB7 := Hid.intro' (below_class HK.out.bel hb7)
                clear hb7 hsm
                go_wp2
                go_ret
                exact ⟨rfl, HB7.out⟩
            · have hrz : (0 : Int) < (rest.length : Int) := by omega
              rcases ha with hn | ⟨g, o, rfl, hg⟩
              · exfalso; rw [hn] at h0; simp at h0
              by_cases hmm : rest.length < K + 1
              · have hz5 : (rest.length : Int) < (K : Int) + 1 := by omega
                have hz6 : (rest.length : Int) ≤ (cap : Int) := by omega
                obtain ⟨F', n', lf', E3⟩ : ∃ F' n' lf', F3 (lf ++ rest.take (rest.length)) F' n' lf' := ⟨_, _, _, ⟨rfl⟩⟩
                have hcn' := E3.count
                have hll := HK.out.eq.left
                rw [List.length_append, List.length_take] at hcn'
                have hn' : (n' : Int) ≤ 600 := by omega
                have HCF : Hid (F'.length ≤ 600) := by show F'.length ≤ 600; omega
                have HBL : Hid (FC.Bs lf') := by
                  have := FC.fd_Bs (HK.out.ru.bs.append (HK.out.rd.bs.take (rest.length)))
                  rwa [E3.eq] at this
                have hfeed := feed_any sb u (.slice (some ⟨g, o, none⟩) (rest.length) cap) lf (rest.take (rest.length)) wr HK.out.sbh HK.out.ru (HK.out.rd.take (rest.length) (by omega)) (by omega) (by rw [List.length_take]; omega)
                rw [E3.eq] at hfeed
                clear hcn' hll
                go_wp2_with fail
                refine hfeed.mono ?_
                rintro e W7 ⟨l7, un, rfl, hf7, hs7, hu7, hk7⟩
                have HF7 := Hid.intro' hf7
                have HS7 := Hid.intro' hs7
                have HU7 := Hid.intro' hu7
                have HK7 := Hid.intro' hk7
                clear hfeed hf7 hs7 hu7 hk7
                go_wp2_with (at_builtin; refine wpList_appendFR rfl _ _ rfl w.heap.size wr.heap.size _ _ F F' rfl (HK.out.own4 HK7.out) rfl HF7.out ?qg1 ?qg2 ?_)
                case qg1 => have := HCN.out.1; have := HCF.out; omega
                case qg2 => exact (HK.out.bel4 HK7.out).size
                intro fo8 W8 ho8 hg8 hl8
                have HO8 := Hid.intro' ho8
                have HG8 := Hid.intro' hg8
                have HL8 := Hid.intro' hl8
                clear ho8 hg8 hl8
                go_wp2
                go_roundw
                case rel => exact ⟨pre ++ rest.take (rest.length), rest.drop (rest.length), lf', F ++ F', n + n', un, by go_num, (by show Y = _; rw [List.append_assoc, List.take_append_drop]; exact HP.out), (by have h := HK.out.step (a' := if cap = rest.length then some ⟨g, o, none⟩ else some ⟨g, o + rest.length, none⟩) (m := rest.length) (Nat.le_refl _) (fun hlt => absurd hlt (Nat.lt_irrefl _)) (by split <;> (intro e; cases e; done)) HS7.out HU7.out HK7.out E3 HBL.out HO8.out HG8.out HL8.out; rw [Nat.sub_self] at h; exact h)⟩
                case measure => show 0 < rest.length; omega
              · have hz5 : ¬ (rest.length : Int) < (K : Int) + 1 := by omega
                have hz6 : (K : Int) + 1 ≤ (cap : Int) := by omega
                obtain ⟨F', n', lf', E3⟩ : ∃ F' n' lf', F3 (lf ++ rest.take (K + 1)) F' n' lf' := ⟨_, _, _, ⟨rfl⟩⟩
                have hcn' := E3.count
                have hll := HK.out.eq.left
                rw [List.length_append, List.length_take] at hcn'
                have hn' : (n' : Int) ≤ 600 := by omega
                have HCF : Hid (F'.length ≤ 600) := by show F'.length ≤ 600; omega
                have HBL : Hid (FC.Bs lf') := by
                  have := FC.fd_Bs (HK.out.ru.bs.append (HK.out.rd.bs.take (K + 1)))
                  rwa [E3.eq] at this
                have hfeed := feed_any sb u (.slice (some ⟨g, o, none⟩) (K + 1) cap) lf (rest.take (K + 1)) wr HK.out.sbh HK.out.ru (HK.out.rd.take (K + 1) (by omega)) (by omega) (by rw [List.length_take]; omega)
                rw [E3.eq] at hfeed
                clear hcn' hll
                go_wp2_with fail
                refine hfeed.mono ?_
                rintro e W7 ⟨l7, un, rfl, hf7, hs7, hu7, hk7⟩
                have HF7 := Hid.intro' hf7
                have HS7 := Hid.intro' hs7
                have HU7 := Hid.intro' hu7
                have HK7 := Hid.intro' hk7
                clear hfeed hf7 hs7 hu7 hk7
                go_wp2_with (at_builtin; refine wpList_appendFR rfl _ _ rfl w.heap.size wr.heap.size _ _ F F' rfl (HK.out.own4 HK7.out) rfl HF7.out ?qg1 ?qg2 ?_)
                case qg1 => have := HCN.out.1; have := HCF.out; omega
                case qg2 => exact (HK.out.bel4 HK7.out).size
                intro fo8 W8 ho8 hg8 hl8
                have HO8 := Hid.intro' ho8
                have HG8 := Hid.intro' hg8
                have HL8 := Hid.intro' hl8
                clear ho8 hg8 hl8
                go_wp2
                go_roundw
                case rel => exact ⟨pre ++ rest.take (K + 1), rest.drop (K + 1), lf', F ++ F', n + n', un, by go_num, (by show Y = _; rw [List.append_assoc, List.take_append_drop]; exact HP.out), HK.out.step (by omega) (fun hlt => by first | rfl | exact if_neg (by omega)) (by first | (intro e; cases e; done) | (split <;> (intro e; cases e; done))) HS7.out HU7.out HK7.out E3 HBL.out HO8.out HG8.out HL8.out⟩
                case measure => show rest.length - (K + 1) < rest.length; omega

end Go.Proofs.Ytkbfljacjfaamae
