/- Whether bytes are the same; the document's bytes of a frame. -/
import Derived.Test.YtkbfljacjfaamaeFrE
namespace Go.Proofs.Ytkbfljacjfaamae
open Go.RowKit

theorem nums_get (l : List Nat) (i : Nat) (h : i < l.length) : ∃ x, l[i]? = some x ∧ (l.map fun (n : Nat) => (n : Int)).getD i 0 = (x : Int) := by
  refine ⟨l[i], List.getElem?_eq_getElem h, ?_⟩
  simp [List.getD, h]
theorem str_inj {l m : List Nat} (hl : FC.Bs l) (hm : FC.Bs m) : (strOfNums (l.map fun (n : Nat) => (n : Int)) = strOfNums (m.map fun (n : Nat) => (n : Int))) ↔ l = m := by
  constructor
  · intro e
    have e1 := congrArg (fun s => s.data.toList) e
    simp only [strOfNums_data, List.map_map] at e1
    apply List.ext_getElem?
    intro i
    have e2 := congrArg (fun s => s[i]?) e1
    simp only [List.getElem?_map] at e2
    cases h1 : l[i]? with
    | none =>
      cases h2 : m[i]? with
      | none => rfl
      | some y => rw [h1, h2] at e2; simp at e2
    | some x =>
      cases h2 : m[i]? with
      | none => rw [h1, h2] at e2; simp at e2
      | some y =>
        rw [h1, h2] at e2
        have hx := hl.get h1
        have hy := hm.get h2
        simp at e2
        have e3 := congrArg UInt8.toNat e2
        simp at e3
        rw [Nat.mod_eq_of_lt hx, Nat.mod_eq_of_lt hy] at e3
        rw [e3]
  · rintro rfl; rfl
theorem conv_any (w : World) (g o n cap : Nat) (l : List Nat) (h : RD w (.slice (some ⟨g, o, none⟩) n cap) l) : (convert 23 9 (.slice (some ⟨g, o, none⟩) n cap)).run Try.prog w = .ok (.string (strOfNums (l.map fun (n : Nat) => (n : Int)))) w := by
  have hn := h.len.1
  subst hn
  refine run_convert_bytes_arg (P := Try.prog) w 23 5 Try.underlying23 Try.underlying5 g o l.length cap _ (by simp) (fun i hi => ?_) 9 Try.underlying9
  obtain ⟨x, hx, e⟩ := nums_get l i hi
  rw [e]
  exact h.cell hx

end Go.Proofs.Ytkbfljacjfaamae
