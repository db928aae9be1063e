/- The walk of the law SiteWays. -/
import Derived.Test.YtdkhobhffdgliabSiteK
import Derived.Test.YtdkhobhffdgliabSiteN
namespace Go.Proofs.Ytdkhobhffdgliab
open Go.RowKit

theorem travel_zero (s : St) (r : SM.Rt s) (a b : Int) (w : World) (h : a < 0 ∨ b < 0 ∨ s.fl ≤ a ∨ s.fl ≤ b ∨ a = b) :
    Calls Try.prog 11 #[.agg (sv s).toArray, .int .i64 a, .int .i64 b] w fun e w' => e = .returned (.int .i64 0) ∧ Below w.heap.size w w' := by
  have := travel_any s r a b w
  rwa [SM.trav_out h] at this

theorem wpList_load23g {ops : Array Oper} {rest : List Oper} {op : Oper} {a : Act} {w : World} {Q : Exit → Act → World → Prop} (hgd : Region.wanted op (yielded ops a.tmps) = true) (x : Operand) (ho : op.op = .load 23 x)
    (b : Nat) (s : St) (hx : a.eval x = .pointer (some ⟨b, 0, none⟩)) (hr : SB w b s)
    (h : wpList Try.prog ops Q rest (a.put op.dst (.agg (sv s).toArray)) w) : wpList Try.prog ops Q (op :: rest) a w :=
  wpList_step fun _ hK => by
    rw [if_pos hgd]
    unfold Oper.wp execOp
    simp only [ho, Sem.run_bind, Sem.run_pure, Result.andThen_ok, hx, load23 w b s hr.range]
    exact hK _ _ h
/-- the greater one of a number and the next -/
def hmax (h : Int) : Int := if h < IntKind.i64.wrap (h + 1) then IntKind.i64.wrap (h + 1) else h
theorem hmax_le (h : Int) : h ≤ hmax h := by unfold hmax; split <;> omega
theorem SM.bne_f {a b : Int} (h : a = b) : (a != b) = false := by subst h; simp
theorem SM.zero_iff {s : St} (r : SM.Rt s) {a b : Int} (h1 : 0 ≤ a) (h2 : 0 ≤ b) (h3 : a < s.fl) (h4 : b < s.fl) : ((SM.trav s a b == 0) == (a == b)) = true := by
  by_cases h : a = b
  · rw [SM.trav_out (by omega), h]; simp
  · have := SM.trav_pos r h1 h2 h3 h4 h
    have e1 : (SM.trav s a b == 0) = false := by simp; omega
    have e2 : (a == b) = false := by simp [h]
    rw [e1, e2]; rfl

set_option maxRecDepth 100000 in
set_option maxHeartbeats 2000000 in
theorem ways_of (s : St) (a b c h : Int) (w : World) :
    Calls Try.prog 4 #[.agg (sv s).toArray, .int .i64 a, .int .i64 b, .int .i64 c, .int .i64 h] w fun e w' => e = .returned (.bool true) ∧ Below w.heap.size w w' := by
  have HB : Hid (Below w.heap.size w (w.alloc (.cells (sv s).toArray 23))) := Hid.intro' ((Below.refl _ w).alloc (Nat.le_refl _) _)
  have HN := Hid.intro' (SB.new w s)
  go_enter Try.func4, Try.ntmps4
  go_wp2_with fail
  obtain ⟨B, hB⟩ : ∃ B, w.heap.size = B := ⟨_, rfl⟩
  rw [show Value.pointer (some ⟨w.heap.size, 0, none⟩) = Value.pointer (some ⟨B, 0, none⟩) by rw [hB]]
  rw [hB] at HN
  refine (speaks_any _).mono ?_
  rintro e W1 ⟨rfl, hb⟩
  have HS1 := Hid.intro' (SB.below' HN.out hb)
  have HB1 := Hid.intro' (below_class HB.out hb)
  clear hb HN HB
  by_cases hr : SM.Rt s
  · go_wp2_with (first | (refine wpList_load23 rfl _ rfl B s rfl HS1.out ?_) | (go_at_call 8; refine (rright_t s hr _).mono ?_; rintro e W2 ⟨rfl, hb⟩))
    have HB2 := Hid.intro' (below_class HB1.out hb)
    have HS3 := Hid.intro' ((SB.below' HS1.out hb).alloc (.cells #[.int .i64 a, .int .i64 b, .int .i64 c] 3))
    have HB3 := Hid.intro' (HB2.out.alloc HB2.out.size (.cells #[.int .i64 a, .int .i64 b, .int .i64 c] 3))
    have hl : (W2.alloc (.cells #[.int .i64 a, .int .i64 b, .int .i64 c] 3)).heap[W2.heap.size]? = some (.cells #[.int .i64 a, .int .i64 b, .int .i64 c] 3) := World.alloc_heap_new W2 _
    clear hb HB1 HS1 HB2
    generalize W2.alloc (.cells #[.int .i64 a, .int .i64 b, .int .i64 c] 3) = W3 at HS3 HB3 hl ⊢
    generalize W2.heap.size = M at hl ⊢
    have HLc : Hid (∀ (k : Nat) (f : Int), [a, b, c][k]? = some f → W3.cell? ⟨M, k, none⟩ = some (.int .i64 f)) := Hid.intro' (fun k f hk => by
      match k, hk with
      | 0, hk => cases hk; simp [World.cell?, hl]
      | 1, hk => cases hk; simp [World.cell?, hl]
      | 2, hk => cases hk; simp [World.cell?, hl])
    clear hl
    have hc0 : W3.cell? ⟨B, 0, none⟩ = some (.int .i64 s.fl) := HS3.out.c0
    go_loop [24] (fun i => ∃ k : Nat, k ≤ 3 ∧ i = .int .i64 k ∧ Hid (∀ j : Nat, j < k → ∀ f, [a, b, c][j]? = some f → 0 ≤ f ∧ f < s.fl)) (fun i => 3 - (intOf i).toNat)
    case atStart => exact ⟨0, by omega, rfl, Hid.intro' (fun j hj => by omega)⟩
    case round =>
      obtain ⟨k, hk, rfl, HI⟩ := hrel
      by_cases hlt : k < 3
      · obtain ⟨f, hf⟩ : ∃ f, [a, b, c][k]? = some f := ⟨_, List.getElem?_eq_getElem (show k < [a, b, c].length from hlt)⟩
        have hcf := HLc.out k f hf
        have hkI : (k : Int) < 3 := by omega
        have HF := Hid.intro' hf
        clear hf
        by_cases hout : f < 0 ∨ s.fl ≤ f
        · have HO := Hid.intro' hout
          clear hout
          have key : decide (f < 0) = true ∨ (decide (f < 0) = false ∧ decide (s.fl ≤ f) = true) := by
            have := HO.out
            by_cases h1 : f < 0
            · left; simpa using h1
            · right; exact ⟨by simpa using h1, by simp; omega⟩
          rcases key with k1 | ⟨k1, k2⟩
          · go_wp2_with (refine wpList_load23 rfl _ rfl B s rfl HS3.out ?_)
            refine (travel_zero s hr _ _ _ (by have := HO.out; omega)).mono ?_
            rintro e W4 ⟨rfl, hb⟩
            have HS4 := Hid.intro' (SB.below' HS3.out hb)
            have HB4 := Hid.intro' (below_class HB3.out hb)
            clear hb
            go_wp2_with (refine wpList_load23g rfl _ rfl B s rfl HS4.out ?_)
            refine (travel_zero s hr _ _ _ (by have := HO.out; omega)).mono ?_
            rintro e W5 ⟨rfl, hb⟩
            have HB5 := Hid.intro' (below_class HB4.out hb)
            clear hb HB4
            go_wp2
            go_ret
            exact ⟨rfl, HB5.out⟩
          · go_wp2_with (refine wpList_load23 rfl _ rfl B s rfl HS3.out ?_)
            refine (travel_zero s hr _ _ _ (by have := HO.out; omega)).mono ?_
            rintro e W4 ⟨rfl, hb⟩
            have HS4 := Hid.intro' (SB.below' HS3.out hb)
            have HB4 := Hid.intro' (below_class HB3.out hb)
            clear hb
            go_wp2_with (refine wpList_load23g rfl _ rfl B s rfl HS4.out ?_)
            refine (travel_zero s hr _ _ _ (by have := HO.out; omega)).mono ?_
            rintro e W5 ⟨rfl, hb⟩
            have HB5 := Hid.intro' (below_class HB4.out hb)
            clear hb HB4
            go_wp2
            go_ret
            exact ⟨rfl, HB5.out⟩
        · have h1 : 0 ≤ f := by omega
          have h2 : f < s.fl := by omega
          have HN2 : Hid (∀ j : Nat, j < k + 1 → ∀ f, [a, b, c][j]? = some f → 0 ≤ f ∧ f < s.fl) := Hid.intro' (fun j hj g hg => by
            by_cases h : j < k
            · exact HI.out j h g hg
            · obtain rfl : j = k := by omega
              rw [HF.out] at hg
              cases hg
              exact ⟨h1, h2⟩)
          clear hout
          go_wp2
          go_round
          case rel => exact ⟨k + 1, by omega, by go_num, HN2⟩
          case measure => simp [intOf]; omega
      · obtain rfl : k = 3 := by omega
        have a1 := HI.out 0 (by omega) a rfl
        have a2 := HI.out 1 (by omega) b rfl
        have a3 := HI.out 2 (by omega) c rfl
        obtain ⟨p1, p2⟩ := a1
        obtain ⟨p3, p4⟩ := a2
        obtain ⟨p5, p6⟩ := a3
        clear HI HLc
        go_wp2_with (first | (refine wpList_load23 rfl _ rfl B s rfl HS3.out ?_) | (go_at_call 11; refine (travel_any s hr _ _ _).mono ?_; rintro e W4 ⟨rfl, hb⟩))
        have HS4 := Hid.intro' (SB.below' HS3.out hb)
        have HB4 := Hid.intro' (below_class HB3.out hb)
        clear hb HS3 HB3 hc0
        have hs : ∀ w', Below W4.heap.size W4 w' → SB w' B s := fun w' h' => HS4.out.below' h'
        have t1 := SM.bne_f (SM.trav_comm s a b)
        have t2 : decide (SM.trav s a b < 0) = false := by have := (SM.trav_bd hr a b).1; simp; omega
        have t3 := SM.zero_iff hr p1 p3 p2 p4
        have t4 : decide (IntKind.i64.wrap (SM.trav s a b + SM.trav s b c) < SM.trav s a c) = false := by
          have := SM.trav_tri hr p1 p3 p5 p2 p4 p6
          have u1 := SM.trav_bd hr a b
          have u2 := SM.trav_bd hr b c
          rw [IntWalk.i64_in _ ⟨by omega, by omega⟩]; simp; omega
        refine wp_region_quiet (C := fun w' => Below W4.heap.size W4 w') (by kernel_rfl) (by kernel_rfl) ((Below.refl _ W4).drew) ?_
        simp only []
        refine wpQuiet_step (fun K hK => ?_)
        go_simp
        refine ⟨_, fun _ _ => rfl, hK _ ?_⟩
        clear hK K
        refine wpQuiet_load23 _ B s rfl rfl rfl hs ?_
        refine wpQuiet_step (fun K hK => ?_)
        go_simp
        refine ⟨_, fun _ _ => rfl, hK _ ?_⟩
        clear hK K
        refine wpQuiet_step (fun K hK => ?_)
        go_simp
        refine ⟨_, fun _ _ => rfl, hK _ ?_⟩
        clear hK K
        refine wpQuiet_step (fun K hK => ?_)
        go_simp
        refine ⟨_, fun w' hw => (travel_any s hr _ _ w').mono fun e w'' hh => ⟨hh.1, below_class hw hh.2⟩, hK _ ?_⟩
        clear hK K
        refine wpQuiet_step (fun K hK => ?_)
        go_simp
        refine ⟨_, fun _ _ => rfl, hK _ ?_⟩
        clear hK K
        refine wpQuiet_step (fun K hK => ?_)
        go_simp
        refine ⟨_, fun _ _ => rfl, hK _ ?_⟩
        clear hK K
        refine wpQuiet_step (fun K hK => ?_)
        go_simp
        refine ⟨_, fun _ _ => rfl, hK _ ?_⟩
        clear hK K
        refine wpQuiet_step (fun K hK => ?_)
        go_simp
        refine ⟨_, fun _ _ => rfl, hK _ ?_⟩
        clear hK K
        refine wpQuiet_step (fun K hK => ?_)
        go_simp
        refine ⟨_, fun _ _ => rfl, hK _ ?_⟩
        clear hK K
        refine wpQuiet_step (fun K hK => ?_)
        go_simp
        refine ⟨_, fun _ _ => rfl, hK _ ?_⟩
        clear hK K
        refine wpQuiet_step (fun K hK => ?_)
        go_simp
        refine ⟨_, fun _ _ => rfl, hK _ ?_⟩
        clear hK K
        refine wpQuiet_step (fun K hK => ?_)
        go_simp
        refine ⟨_, fun _ _ => rfl, hK _ ?_⟩
        clear hK K
        refine wpQuiet_step (fun K hK => ?_)
        go_simp
        refine ⟨_, fun _ _ => rfl, hK _ ?_⟩
        clear hK K
        refine wpQuiet_step (fun K hK => ?_)
        go_simp
        refine ⟨_, fun _ _ => rfl, hK _ ?_⟩
        clear hK K
        refine wpQuiet_step (fun K hK => ?_)
        go_simp
        refine ⟨_, fun _ _ => rfl, hK _ ?_⟩
        clear hK K
        refine wpQuiet_step (fun K hK => ?_)
        go_simp
        refine ⟨_, fun _ _ => rfl, hK _ ?_⟩
        clear hK K
        refine wpQuiet_step (fun K hK => ?_)
        go_simp
        refine ⟨_, fun _ _ => rfl, hK _ ?_⟩
        clear hK K
        refine wpQuiet_step (fun K hK => ?_)
        go_simp
        refine ⟨_, fun _ _ => rfl, hK _ ?_⟩
        clear hK K
        refine wpQuiet_load23 _ B s rfl rfl rfl hs ?_
        refine wpQuiet_step (fun K hK => ?_)
        go_simp
        refine ⟨_, fun _ _ => rfl, hK _ ?_⟩
        clear hK K
        refine wpQuiet_step (fun K hK => ?_)
        go_simp
        refine ⟨_, fun _ _ => rfl, hK _ ?_⟩
        clear hK K
        refine wpQuiet_step (fun K hK => ?_)
        go_simp
        refine ⟨_, fun w' hw => (travel_any s hr _ _ w').mono fun e w'' hh => ⟨hh.1, below_class hw hh.2⟩, hK _ ?_⟩
        clear hK K
        refine wpQuiet_step (fun K hK => ?_)
        go_simp
        refine ⟨_, fun _ _ => rfl, hK _ ?_⟩
        clear hK K
        refine wpQuiet_load23 _ B s rfl rfl rfl hs ?_
        refine wpQuiet_step (fun K hK => ?_)
        go_simp
        refine ⟨_, fun _ _ => rfl, hK _ ?_⟩
        clear hK K
        refine wpQuiet_step (fun K hK => ?_)
        go_simp
        refine ⟨_, fun _ _ => rfl, hK _ ?_⟩
        clear hK K
        refine wpQuiet_step (fun K hK => ?_)
        go_simp
        refine ⟨_, fun w' hw => (travel_any s hr _ _ w').mono fun e w'' hh => ⟨hh.1, below_class hw hh.2⟩, hK _ ?_⟩
        clear hK K
        refine wpQuiet_step (fun K hK => ?_)
        go_simp
        refine ⟨_, fun _ _ => rfl, hK _ ?_⟩
        clear hK K
        refine wpQuiet_step (fun K hK => ?_)
        go_simp
        refine ⟨_, fun _ _ => rfl, hK _ ?_⟩
        clear hK K
        refine wpQuiet_step (fun K hK => ?_)
        go_simp
        refine ⟨_, fun _ _ => rfl, hK _ ?_⟩
        clear hK K
        refine wpQuiet_nil ?_
        intro W5 hb
        have HS5 := Hid.intro' (SB.below' HS4.out hb)
        have HB5 := Hid.intro' (below_class HB4.out hb)
        clear hb HS4 HB4 hs
        go_wp2_with fail
        have hs : ∀ w', Below W5.heap.size W5 w' → SB w' B s := fun w' h' => HS5.out.below' h'
        have t5 : decide (SM.trav s a b < SM.ser s h) = true := by have := SM.trav_lt_ser hr a b h; simpa using this
        have t6 : decide (SM.ser s h < SM.bou s h) = true := by have := SM.ser_lt_bou hr h; simpa using this
        have t8 : decide (SM.ser s h ≤ SM.ser s (hmax h)) = true := by have := SM.ser_mono hr (hmax_le h); simpa using this
        have t7 : decide (SM.bou s h < 1099511627776) = true := by have := (SM.bou_bd hr h).2; simp; omega
        refine wp_region_quiet (C := fun w' => Below W5.heap.size W5 w') (by kernel_rfl) (by kernel_rfl) ((Below.refl _ W5).drew) ?_
        simp only []
        refine wpQuiet_step (fun K hK => ?_)
        go_simp
        refine ⟨_, fun _ _ => rfl, hK _ ?_⟩
        clear hK K
        refine wpQuiet_load23 _ B s rfl rfl rfl hs ?_
        refine wpQuiet_step (fun K hK => ?_)
        go_simp
        refine ⟨_, fun _ _ => rfl, hK _ ?_⟩
        clear hK K
        refine wpQuiet_step (fun K hK => ?_)
        go_simp
        refine ⟨_, fun w' hw => (service_any s hr _ w').mono fun e w'' hh => ⟨hh.1, below_class hw hh.2⟩, hK _ ?_⟩
        clear hK K
        refine wpQuiet_step (fun K hK => ?_)
        go_simp
        refine ⟨_, fun _ _ => rfl, hK _ ?_⟩
        clear hK K
        refine wpQuiet_step (fun K hK => ?_)
        go_simp
        refine ⟨_, fun _ _ => rfl, hK _ ?_⟩
        clear hK K
        refine wpQuiet_load23 _ B s rfl rfl rfl hs ?_
        refine wpQuiet_step (fun K hK => ?_)
        go_simp
        refine ⟨_, fun _ _ => rfl, hK _ ?_⟩
        clear hK K
        refine wpQuiet_step (fun K hK => ?_)
        go_simp
        refine ⟨_, fun w' hw => (service_any s hr _ w').mono fun e w'' hh => ⟨hh.1, below_class hw hh.2⟩, hK _ ?_⟩
        clear hK K
        refine wpQuiet_load23 _ B s rfl rfl rfl hs ?_
        refine wpQuiet_step (fun K hK => ?_)
        go_simp
        refine ⟨_, fun _ _ => rfl, hK _ ?_⟩
        clear hK K
        refine wpQuiet_step (fun K hK => ?_)
        go_simp
        refine ⟨_, fun w' hw => (bound_any s hr _ w').mono fun e w'' hh => ⟨hh.1, below_class hw hh.2⟩, hK _ ?_⟩
        clear hK K
        refine wpQuiet_step (fun K hK => ?_)
        go_simp
        refine ⟨_, fun _ _ => rfl, hK _ ?_⟩
        clear hK K
        refine wpQuiet_step (fun K hK => ?_)
        go_simp
        refine ⟨_, fun _ _ => rfl, hK _ ?_⟩
        clear hK K
        refine wpQuiet_step (fun K hK => ?_)
        go_simp
        refine ⟨_, fun _ _ => rfl, hK _ ?_⟩
        clear hK K
        refine wpQuiet_load23 _ B s rfl rfl rfl hs ?_
        refine wpQuiet_step (fun K hK => ?_)
        go_simp
        refine ⟨_, fun _ _ => rfl, hK _ ?_⟩
        clear hK K
        refine wpQuiet_step (fun K hK => ?_)
        go_simp
        refine ⟨_, fun w' hw => (bound_any s hr _ w').mono fun e w'' hh => ⟨hh.1, below_class hw hh.2⟩, hK _ ?_⟩
        clear hK K
        refine wpQuiet_step (fun K hK => ?_)
        go_simp
        refine ⟨_, fun _ _ => rfl, hK _ ?_⟩
        clear hK K
        refine wpQuiet_step (fun K hK => ?_)
        go_simp
        refine ⟨_, fun _ _ => rfl, hK _ ?_⟩
        clear hK K
        refine wpQuiet_step (fun K hK => ?_)
        go_simp
        refine ⟨_, fun _ _ => rfl, hK _ ?_⟩
        clear hK K
        refine wpQuiet_load23 _ B s rfl rfl rfl hs ?_
        refine wpQuiet_step (fun K hK => ?_)
        go_simp
        refine ⟨_, fun _ _ => rfl, hK _ ?_⟩
        clear hK K
        refine wpQuiet_step (fun K hK => ?_)
        go_simp
        refine ⟨_, fun w' hw => (service_any s hr _ w').mono fun e w'' hh => ⟨hh.1, below_class hw hh.2⟩, hK _ ?_⟩
        clear hK K
        refine wpQuiet_load23 _ B s rfl rfl rfl hs ?_
        refine wpQuiet_step (fun K hK => ?_)
        go_simp
        refine ⟨_, fun _ _ => rfl, hK _ ?_⟩
        clear hK K
        refine wpQuiet_step (fun K hK => ?_)
        go_simp
        refine ⟨_, fun _ _ => rfl, hK _ ?_⟩
        clear hK K
        refine wpQuiet_step (fun K hK => ?_)
        go_simp
        refine ⟨_, fun _ _ => rfl, hK _ ?_⟩
        clear hK K
        refine wpQuiet_step (fun K hK => ?_)
        go_simp
        refine ⟨.int .i64 (hmax h), fun _ _ => rfl, hK _ ?_⟩
        clear hK K
        refine wpQuiet_step (fun K hK => ?_)
        go_simp
        refine ⟨_, fun w' hw => (service_any s hr _ w').mono fun e w'' hh => ⟨hh.1, below_class hw hh.2⟩, hK _ ?_⟩
        clear hK K
        refine wpQuiet_step (fun K hK => ?_)
        go_simp
        refine ⟨_, fun _ _ => rfl, hK _ ?_⟩
        clear hK K
        refine wpQuiet_step (fun K hK => ?_)
        go_simp
        refine ⟨_, fun _ _ => rfl, hK _ ?_⟩
        clear hK K
        refine wpQuiet_step (fun K hK => ?_)
        go_simp
        refine ⟨_, fun _ _ => rfl, hK _ ?_⟩
        clear hK K
        refine wpQuiet_nil ?_
        intro W6 hb
        have HB6 := Hid.intro' (below_class HB5.out hb)
        clear hb HS5 HB5 hs
        go_wp2
        go_ret
        exact ⟨rfl, HB6.out⟩
  · go_wp2_with (first | (refine wpList_load23 rfl _ rfl B s rfl HS1.out ?_) | (go_at_call 8; refine (rright_f s hr _).mono ?_; rintro e W2 ⟨rfl, hb⟩))
    go_ret
    exact ⟨rfl, below_class HB1.out hb⟩

end Go.Proofs.Ytdkhobhffdgliab
