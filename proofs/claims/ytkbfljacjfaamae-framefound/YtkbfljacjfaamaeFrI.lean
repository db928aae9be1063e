/- The document's example of frames. -/
import Derived.Test.YtkbfljacjfaamaeFrH
namespace Go.Proofs.Ytkbfljacjfaamae
open Go.RowKit

def exF : Fr := ⟨1, 0, 258, 0, 0, 0⟩
theorem exF_may : FC.May exF := by constructor <;> decide
theorem exF_3 : (FC.en exF)[3]? = some 1 := by unfold FC.en; generalize FC.crc (FC.h8 exF) = n; rfl
theorem exF_4 : (FC.en exF)[4]? = some 2 := by unfold FC.en; generalize FC.crc (FC.h8 exF) = n; rfl
theorem crc_nil : FC.crc [] = 65535 := by unfold FC.crc; rw [FC.cs_nil]

set_option maxHeartbeats 1000000 in
theorem speaks_any (w : World) : Calls Try.prog 5 #[] w fun e w' => e = .returned (.bool true) ∧ Below w.heap.size w w' := by
  go_enter Try.func5, Try.ntmps5
  go_wp2_with fail
  refine (encode_yes exF w exF_may).mono ?_
  rintro e W1 ⟨v, rfl, ho, hb⟩
  have HB1 := Hid.intro' hb
  rcases ho.form with ⟨_, h⟩ | ⟨g, cap, rfl, _, _, hc, hm⟩
  · have := congrArg List.length h
    rw [FC.en_length] at this
    cases this
  have hl := FC.en_length exF
  rw [hl] at ho hc ⊢
  have k3 := ho.cell exF_3
  have k4 := ho.cell exF_4
  clear ho hb
  go_wp2_with fail
  have hs := sum_any (.slice none 0 0) [] W1 (RD.nil _)
  rw [crc_nil] at hs
  refine hs.mono ?_
  rintro e W2 ⟨rfl, hW⟩
  subst hW
  go_wp2
  go_ret
  exact ⟨rfl, HB1.out⟩

end Go.Proofs.Ytkbfljacjfaamae
