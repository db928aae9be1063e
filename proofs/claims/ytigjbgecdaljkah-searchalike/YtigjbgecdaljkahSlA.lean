/- The example that each law on searches begins with. -/
import Derived.Test.YtigjbgecdaljkahSlO
import Derived.Test.YtigjbgecdaljkahRtX
namespace Go.Proofs.Ytigjbgecdaljkah
open Go.RowKit Go.Shelf

theorem nums_get (l : List Nat) (i : Nat) (h : i < l.length) : ∃ x, l[i]? = some x ∧ (l.map fun (n : Nat) => (n : Int)).getD i 0 = (x : Int) := by
  refine ⟨l[i], List.getElem?_eq_getElem h, ?_⟩
  simp [List.getD, h]
/-- bytes as a string -/
def stv (l : List Nat) : Value := .string (strOfNums (l.map fun (n : Nat) => (n : Int)))
theorem convY {w : World} {B g n cap : Nat} {l : List Nat} (h : OY w B (.slice (some ⟨g, 0, none⟩) n cap) l) : (convert 33 9 (.slice (some ⟨g, 0, none⟩) n cap)).run Try.prog w = .ok (stv l) w := by
  have hn := h.len
  subst hn
  refine run_convert_bytes_arg (P := Try.prog) w 33 5 Try.underlying33 Try.underlying5 g 0 l.length cap _ (by simp) (fun i hi => ?_) 9 Try.underlying9
  obtain ⟨x, hx, e⟩ := nums_get l i hi
  rw [e, Nat.zero_add]
  exact h.cell hx
theorem OY.some {w : World} {B : Nat} {v : Value} {l : List Nat} (h : OY w B v l) (hl : l ≠ []) : ∃ g cap, v = .slice (some ⟨g, 0, none⟩) l.length cap := by
  rcases h.form with ⟨_, e⟩ | ⟨g, cap, e, _⟩
  · exact absurd e hl
  · exact ⟨g, cap, e⟩
/-- the example -/
def exNn : Sn := ⟨exSt, [(0, 4)], []⟩
theorem exn_rgt : rgt exNn = true := by decide
theorem exn_fnd : fnd exNn 1 = ⟨1, false, [[]], 0, [2]⟩ := by rfl
theorem exn_prf : prf ⟨1, false, [[]], 0, [2]⟩ = [1, 0, 0, 0, 0, 0, 0, 0, 0, 0, 2] := by decide
theorem exn_str : stv [1, 0, 0, 0, 0, 0, 0, 0, 0, 0, 2] = .string ⟨#[1, 0, 0, 0, 0, 0, 0, 0, 0, 0, 2]⟩ := by rfl

set_option maxRecDepth 100000 in
set_option maxHeartbeats 4000000 in
theorem speaks12_any (w : World) : Calls Try.prog 4 #[] w fun e w' => e = .returned (.bool true) ∧ Below w.heap.size w w' := by
  go_enter Try.func4, Try.ntmps4
  go_wp2_with fail
  have hX : Below w.heap.size w ((w.alloc (.cells #[.int .i64 0, .int .i64 4] 40)).alloc (.cells (nv exSt (.slice (some ⟨w.heap.size, 0, none⟩) 1 1) (.slice none 0 0)).toArray 27)) := ((Below.refl _ w).alloc (Nat.le_refl _) _).alloc (by simp) _
  have hc : R2 (fun _ => True) ((w.alloc (.cells #[.int .i64 0, .int .i64 4] 40)).alloc (.cells (nv exSt (.slice (some ⟨w.heap.size, 0, none⟩) 1 1) (.slice none 0 0)).toArray 27)) (.slice (some ⟨w.heap.size, 0, none⟩) 1 1) exNn.cs := R2.lit1 _ _ _ _ (0, 4) trivial (by simp; omega) (Nat.le_refl _) (by go_simp) (by go_simp)
  have hw : R2 (fun _ => True) ((w.alloc (.cells #[.int .i64 0, .int .i64 4] 40)).alloc (.cells (nv exSt (.slice (some ⟨w.heap.size, 0, none⟩) 1 1) (.slice none 0 0)).toArray 27)) (.slice none 0 0) exNn.ws := ⟨none, 0, rfl, Nat.le_refl _, fun _ => rfl, .inl rfl⟩
  have hn : NB ((w.alloc (.cells #[.int .i64 0, .int .i64 4] 40)).alloc (.cells (nv exSt (.slice (some ⟨w.heap.size, 0, none⟩) 1 1) (.slice none 0 0)).toArray 27)) (w.heap.size + 1) exSt (.slice (some ⟨w.heap.size, 0, none⟩) 1 1) (.slice none 0 0) := by
    have h1 := NB.new (w.alloc (.cells #[.int .i64 0, .int .i64 4] 40)) exSt (.slice (some ⟨w.heap.size, 0, none⟩) 1 1) (.slice none 0 0)
    rwa [World.size_alloc] at h1
  refine (find_yes (s := exNn) (B := 1) hc hw exn_rgt (Nat.le_refl _) (by omega)).mono ?_
  rw [exn_fnd, exn_prf]
  rintro e W2 ⟨vp, vf, rfl, hrl, hoy, hb2⟩
  obtain ⟨g, cap, rfl⟩ := hoy.some (by simp)
  obtain ⟨ap, kp, rfl, _, _⟩ := hrl.form
  have HB2 := Hid.intro' (below_class hX hb2)
  have HN2 := Hid.intro' (hn.below' hb2)
  have HO2 := Hid.intro' hoy
  clear hX hc hw hn hb2 hrl hoy
  generalize Value.slice (some ⟨w.heap.size, 0, none⟩) 1 1 = vc at HN2 ⊢
  have HZ := Hid.intro' (GB.new W2 (.slice none 0 0) 0 false 0 (.slice none 0 0))
  have HSZ : Hid (w.heap.size ≤ W2.heap.size) := HB2.out.size
  go_wp2_with (refine wpList_storeG rfl _ _ rfl W2.heap.size rfl rfl HZ.out ?_)
  intro W3 hk3 hg3
  have hb3 : Below W2.heap.size W2 W3 := hk3.below ((Below.refl W2.heap.size W2).alloc (Nat.le_refl _) _) (by simp) (fun i hi e => by omega)
  have HB3 := Hid.intro' (below_class HB2.out hb3)
  have HN3 := Hid.intro' (HN2.out.below' hb3)
  have HO3 := Hid.intro' (HO2.out.below' hb3)
  have HG3 := Hid.intro' hg3
  clear hk3 hb3 hg3 HZ HB2 HN2 HO2
  generalize W2.heap.size = rb at HG3 ⊢
  go_wp2_with (refine wpList_load27g rfl _ rfl (w.heap.size + 1) exSt _ _ rfl HN3.out ?_)
  refine (find_arg (s := exNn) (B := 0) (.inl (by omega))).mono ?_
  rintro e W4 ⟨rfl, hb4⟩
  have HB4 := Hid.intro' (below_class HB3.out hb4)
  have HO4 := Hid.intro' (HO3.out.below' hb4)
  have HG4 := Hid.intro' (HG3.out.below' hb4)
  clear hb4 HB3 HN3 HO3 HG3
  have HZ := Hid.intro' (GB.new W4 (.slice none 0 0) 0 false 0 (.slice none 0 0))
  go_wp2_with (refine wpList_storeG rfl _ _ rfl W4.heap.size rfl rfl HZ.out ?_)
  intro W5 hk5 hg5
  have hb5 : Below W4.heap.size W4 W5 := hk5.below ((Below.refl W4.heap.size W4).alloc (Nat.le_refl _) _) (by simp) (fun i hi e => by omega)
  have HB5 := Hid.intro' (below_class HB4.out hb5)
  have hO5 := HO4.out.below' hb5
  have hG5 := HG4.out.below' hb5
  have c1 : W5.cell? ⟨rb, 1, none⟩ = some (.int .i64 0) := hG5.cell 1
  have c2 : W5.cell? ⟨rb, 2, none⟩ = some (.bool true) := hG5.cell 2
  have c3 : W5.cell? ⟨rb, 3, none⟩ = some (.int .i64 1) := hG5.cell 3
  have c4 : W5.cell? ⟨rb, 4, none⟩ = some (.slice (some ⟨g, 0, none⟩) 11 cap) := hG5.cell 4
  have hcv : (convert 33 9 (.slice (some ⟨g, 0, none⟩) 11 cap)).run Try.prog W5 = .ok (.string ⟨#[1, 0, 0, 0, 0, 0, 0, 0, 0, 0, 2]⟩) W5 := by
    have h := convY hO5
    rw [exn_str] at h
    exact h
  clear hk5 hg5 hb5 hO5 hG5 HZ HB4 HO4 HG4
  go_wp2
  go_ret
  exact ⟨rfl, HB5.out⟩

end Go.Proofs.Ytigjbgecdaljkah
