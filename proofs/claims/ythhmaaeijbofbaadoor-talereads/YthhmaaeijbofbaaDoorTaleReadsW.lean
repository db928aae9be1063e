/- What any text tells is an event whose line is that text, or it tells none. -/
import Derived.Test.YthhmaaeijbofbaaDoorTlR
import Derived.Test.YthhmaaeijbofbaaDoorTaleOneW
namespace Go.Proofs.YthhmaaeijbofbaaDoor
open Go.RowKit

set_option maxRecDepth 100000 in
set_option maxHeartbeats 4000000 in
theorem TaleReads_any (b : ByteArray) (w : World) (hp : Pw w) : Calls Tryd.prog 4 #[.string b] w fun r w' => r = .returned (.bool true) ∧ Below w.heap.size w w' := by
  obtain ⟨s, rfl⟩ : ∃ s, b = sb s := ⟨b.data.toList, by simp [sb]⟩
  have HSP := Hid.mk' (speaks18_any w hp.pt)
  have HPW := Hid.mk' hp
  clear hp
  have hss : (sb s).size = s.length := sb_size s
  have htl : ∀ l, (sb l).toList = l := sb_toList
  go_enter Tryd.func4, Tryd.ntmps4
  go_wp2_with fail
  refine HSP.out.mono ?_
  rintro r W1 ⟨rfl, hb1⟩
  have HB1 := Hid.mk' hb1
  have HP1 := Hid.mk' (HPW.out.below hb1)
  clear hb1 HSP HPW
  by_cases hlen : (1000 : Int) < (s.length : Int)
  · go_wp2
    go_ret
    exact ⟨rfl, HB1.out⟩
  · go_wp2_with fail
    refine (read_any s (by omega) _ HP1.out).mono ?_
    rintro r W2 ⟨x, c, rfl, hRP, hb2⟩
    have HB2 := Hid.mk' (below_cl HB1.out HB1.out.size hb2)
    clear hb2 HB1 HP1
    rcases hRP with ⟨rfl, hk, ok, hl, ht⟩ | ⟨rfl, rfl, _⟩
    · simp only [ev]
      have hsq : (s == [63]) = false := by rw [← hl]; simpa using TM.line_yes hk
      have HEB := Hid.mk' (EB.new W2 x)
      have HB3 := Hid.mk' (HB2.out.alloc HB2.out.size (.cells #[.int .i64 x.ki, .int .i64 x.a, .int .i64 x.b, .bool x.on, .int .i64 x.fl, .int .i64 x.ca, .int .i64 x.ag, .bool x.up] 25))
      have HLN : Hid (∀ w', Calls Tryd.prog 9 #[.agg #[.int .i64 x.ki, .int .i64 x.a, .int .i64 x.b, .bool x.on, .int .i64 x.fl, .int .i64 x.ca, .int .i64 x.ag, .bool x.up]] w' fun r w'' => r = .returned (.string (sb s)) ∧ Below w'.heap.size w' w'') := fun w' => by rw [← hl]; exact rline_any x ok w'
      have HTD : Hid (∀ w', Calls Tryd.prog 10 #[.agg #[.int .i64 x.ki, .int .i64 x.a, .int .i64 x.b, .bool x.on, .int .i64 x.fl, .int .i64 x.ca, .int .i64 x.ag, .bool x.up]] w' fun r w'' => r = .returned (.agg (ev x)) ∧ Below w'.heap.size w' w'') := fun w' => by have := rtold_any x w'; rwa [ht] at this
      have heq : eeq x x = true := eeq_iff.2 rfl
      clear hk ok hl ht HB2
      go_upto_region 8 with fail
      generalize W2.alloc (.cells #[.int .i64 x.ki, .int .i64 x.a, .int .i64 x.b, .bool x.on, .int .i64 x.fl, .int .i64 x.ca, .int .i64 x.ag, .bool x.up] 25) = V at HEB HB3 ⊢
      generalize W2.heap.size = b3 at HEB ⊢
      have H1 : Hid (∀ w', Below V.heap.size V w' → EB w' b3 x) := fun w' hw => HEB.out.below' hw
      refine wp_region_quiet (C := fun w' => Below V.heap.size V w') (by kernel_rfl) (by kernel_rfl) ((Below.refl _ _).drew) ?_
      simp only []
      unfold wpQuiet
      generalize hK : wpQuiet Tryd.prog _ _ _ _ = K
      go_simp
      refine ⟨_, fun _ _ => rfl, ?_⟩
      subst hK
      unfold wpQuiet
      generalize hK : wpQuiet Tryd.prog _ _ _ _ = K
      go_simp
      refine ⟨_, fun _ _ => rfl, ?_⟩
      subst hK
      unfold wpQuiet
      generalize hK : wpQuiet Tryd.prog _ _ _ _ = K
      go_simp
      refine ⟨_, fun _ _ => rfl, ?_⟩
      subst hK
      unfold wpQuiet
      generalize hK : wpQuiet Tryd.prog _ _ _ _ = K
      rw [if_pos (by go_simp)]
      refine quiet_loadE _ _ rfl rfl H1.out ?_
      go_simp
      subst hK
      unfold wpQuiet
      generalize hK : wpQuiet Tryd.prog _ _ _ _ = K
      go_simp
      refine ⟨_, fun w' hw => (HLN.out w').mono fun e w'' hh => ⟨hh.1, below_class hw hh.2⟩, ?_⟩
      subst hK
      unfold wpQuiet
      generalize hK : wpQuiet Tryd.prog _ _ _ _ = K
      go_simp
      refine ⟨_, fun _ _ => rfl, ?_⟩
      subst hK
      unfold wpQuiet
      generalize hK : wpQuiet Tryd.prog _ _ _ _ = K
      go_simp
      refine ⟨_, fun _ _ => rfl, ?_⟩
      subst hK
      unfold wpQuiet
      generalize hK : wpQuiet Tryd.prog _ _ _ _ = K
      go_simp
      refine ⟨_, fun _ _ => rfl, ?_⟩
      subst hK
      unfold wpQuiet
      generalize hK : wpQuiet Tryd.prog _ _ _ _ = K
      go_simp
      refine ⟨_, fun _ _ => rfl, ?_⟩
      subst hK
      unfold wpQuiet
      generalize hK : wpQuiet Tryd.prog _ _ _ _ = K
      rw [if_pos (by go_simp)]
      refine quiet_loadE _ _ rfl rfl H1.out ?_
      go_simp
      subst hK
      unfold wpQuiet
      generalize hK : wpQuiet Tryd.prog _ _ _ _ = K
      rw [if_pos (by go_simp)]
      refine quiet_loadE _ _ rfl rfl H1.out ?_
      go_simp
      subst hK
      unfold wpQuiet
      generalize hK : wpQuiet Tryd.prog _ _ _ _ = K
      go_simp
      refine ⟨_, fun w' hw => (HTD.out w').mono fun e w'' hh => ⟨hh.1, below_class hw hh.2⟩, ?_⟩
      subst hK
      unfold wpQuiet
      generalize hK : wpQuiet Tryd.prog _ _ _ _ = K
      rw [if_pos (by go_simp)]
      refine quiet_eqE _ _ rfl rfl rfl heq ?_
      go_simp
      subst hK
      unfold wpQuiet
      generalize hK : wpQuiet Tryd.prog _ _ _ _ = K
      go_simp
      refine ⟨_, fun _ _ => rfl, ?_⟩
      subst hK
      unfold wpQuiet
      generalize hK : wpQuiet Tryd.prog _ _ _ _ = K
      go_simp
      refine ⟨_, fun _ _ => rfl, ?_⟩
      subst hK
      refine wpQuiet_nil ?_
      intro W7 hb7
      have HB7 := Hid.mk' (below_cl HB3.out HB3.out.size hb7)
      clear hb7 H1 HLN HTD HB3 HEB
      go_wp2
      go_ret
      exact ⟨rfl, HB7.out⟩
    · simp only [ev, ez]
      have HB3 := Hid.mk' (HB2.out.alloc HB2.out.size (.cells #[.int .i64 0, .int .i64 0, .int .i64 0, .bool false, .int .i64 0, .int .i64 0, .int .i64 0, .bool false] 25))
      clear HB2
      go_wp2
      go_ret
      exact ⟨rfl, HB3.out⟩

end Go.Proofs.YthhmaaeijbofbaaDoor
