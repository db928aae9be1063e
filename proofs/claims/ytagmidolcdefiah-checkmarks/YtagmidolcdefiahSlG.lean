/- The least time of a want that one of some cars serves first of all. -/
import Derived.Test.YtagmidolcdefiahSlT
import Derived.Test.YtagmidolcdefiahBdP
import Derived.Test.YtagmidolcdefiahPk8
namespace Go.Proofs.Ytagmidolcdefiah
open Go.RowKit Go.Shelf
set_option maxRecDepth 100000 in
set_option maxHeartbeats 4000000 in
theorem leastAlone_any (s : Sn) (D : Nat → Prop) (vc vw : Value) (k : Nat) (y1 y2 : Int) (W : World) (hc : R2 D W vc s.cs) (hr : rgt s = true) (hy : (y1, y2) ∈ s.ws) :
    Calls Try.prog 44 #[.agg (nv s.st vc vw).toArray, .int .i64 (k : Int), .agg #[.int .i64 y1, .int .i64 y2]] W fun e W' => e = .returned (.int .i64 (alo s k (y1, y2))) ∧ Below W.heap.size W W' := by
  obtain ⟨n8, hrs⟩ := rgt_rs hr
  have hcl : s.cs.length ≤ 8 := by have := hrs.cl; have := hrs.n8; omega
  have HC : Hid (R2 (fun g => g < W.heap.size) W vc s.cs) := hc.mono fun g _ h _ => h
  obtain ⟨ac, kc, rfl, _, _⟩ := hc.form
  have hmk := mkL s.cs.length (by omega)
  have HHR := Hid.intro' hr
  have HHY := Hid.intro' hy
  clear hc hr hy hrs
  go_enter Try.func44, Try.ntmps44
  go_wp2_with fail
  have HV : Hid (NB (((W.alloc (.cells ((nv s.st (.slice ac s.cs.length kc) vw).set 14 (.slice (some ⟨W.heap.size + 1 + 1, 0, none⟩) 1 1)).toArray 27)).alloc (.cells #[.int .i64 y1, .int .i64 y2] 58)).alloc (.cells #[.int .i64 y1, .int .i64 y2] 58)) W.heap.size s.st (.slice ac s.cs.length kc) (.slice (some ⟨W.heap.size + 1 + 1, 0, none⟩) 1 1) ∧ Below W.heap.size W (((W.alloc (.cells ((nv s.st (.slice ac s.cs.length kc) vw).set 14 (.slice (some ⟨W.heap.size + 1 + 1, 0, none⟩) 1 1)).toArray 27)).alloc (.cells #[.int .i64 y1, .int .i64 y2] 58)).alloc (.cells #[.int .i64 y1, .int .i64 y2] 58)) ∧ R2 (fun g => g = W.heap.size + 1 + 1) (((W.alloc (.cells ((nv s.st (.slice ac s.cs.length kc) vw).set 14 (.slice (some ⟨W.heap.size + 1 + 1, 0, none⟩) 1 1)).toArray 27)).alloc (.cells #[.int .i64 y1, .int .i64 y2] 58)).alloc (.cells #[.int .i64 y1, .int .i64 y2] 58)) (.slice (some ⟨W.heap.size + 1 + 1, 0, none⟩) 1 1) [(y1, y2)]) := by
    have hb1 := (Below.refl W.heap.size W).alloc (Nat.le_refl _) (.cells ((nv s.st (.slice ac s.cs.length kc) vw).set 14 (.slice (some ⟨W.heap.size + 1 + 1, 0, none⟩) 1 1)).toArray 27)
    have hb2 := hb1.alloc (by simp) (.cells #[.int .i64 y1, .int .i64 y2] 58)
    have hb3 := hb2.alloc (by simp <;> omega) (.cells #[.int .i64 y1, .int .i64 y2] 58)
    have h3 := World.alloc_heap_new ((W.alloc (.cells ((nv s.st (.slice ac s.cs.length kc) vw).set 14 (.slice (some ⟨W.heap.size + 1 + 1, 0, none⟩) 1 1)).toArray 27)).alloc (.cells #[.int .i64 y1, .int .i64 y2] 58)) (.cells #[.int .i64 y1, .int .i64 y2] 58)
    rw [World.size_alloc, World.size_alloc] at h3
    refine ⟨(Below.heap_alloc _ _ _ (by simp <;> omega)).trans ((Below.heap_alloc _ _ _ (by simp)).trans (World.alloc_heap_new W _)), hb3, some ⟨W.heap.size + 1 + 1, 0, none⟩, 1, rfl, Nat.le_refl _, (fun e => by cases e), .inr ⟨W.heap.size + 1 + 1, 0, rfl, rfl, (Array.getElem?_eq_some_iff.1 h3).1, fun i z hz => ?_⟩⟩
    cases i with
    | zero =>
      simp at hz
      subst hz
      exact ⟨by rw [cell_of_row _ _ _ _ _ _ h3]; rfl, by rw [cell_of_row _ _ _ _ _ _ h3]; rfl⟩
    | succ i => simp at hz
  generalize (((W.alloc (.cells ((nv s.st (.slice ac s.cs.length kc) vw).set 14 (.slice (some ⟨W.heap.size + 1 + 1, 0, none⟩) 1 1)).toArray 27)).alloc (.cells #[.int .i64 y1, .int .i64 y2] 58)).alloc (.cells #[.int .i64 y1, .int .i64 y2] 58)) = V at HV ⊢
  have hdr := (Below.refl V.heap.size V).drew
  have hal := hdr.alloc (Nat.le_refl _) (.cells (Array.replicate s.cs.length (Value.slice none 0 0)) 55)
  have HND := Hid.intro' (HV.out.1.below' hdr)
  have HNA := Hid.intro' (HV.out.1.below' hal)
  have e0 : V.drew.cell? ⟨W.heap.size, 0, none⟩ = some (.int .i64 s.st.fl) := HND.out.cell 0
  have ex0 : V.cell? ⟨W.heap.size, 0, none⟩ = some (.int .i64 s.st.fl) := e0
  have f0 : (V.drew.alloc (.cells (Array.replicate s.cs.length (Value.slice none 0 0)) 55)).cell? ⟨W.heap.size, 0, none⟩ = some (.int .i64 s.st.fl) := HNA.out.cell 0
  have fx0 : (V.alloc (.cells (Array.replicate s.cs.length (Value.slice none 0 0)) 55)).cell? ⟨W.heap.size, 0, none⟩ = some (.int .i64 s.st.fl) := f0
  have e1 : V.drew.cell? ⟨W.heap.size, 1, none⟩ = some (.int .i64 s.st.ca) := HND.out.cell 1
  have ex1 : V.cell? ⟨W.heap.size, 1, none⟩ = some (.int .i64 s.st.ca) := e1
  have f1 : (V.drew.alloc (.cells (Array.replicate s.cs.length (Value.slice none 0 0)) 55)).cell? ⟨W.heap.size, 1, none⟩ = some (.int .i64 s.st.ca) := HNA.out.cell 1
  have fx1 : (V.alloc (.cells (Array.replicate s.cs.length (Value.slice none 0 0)) 55)).cell? ⟨W.heap.size, 1, none⟩ = some (.int .i64 s.st.ca) := f1
  have e2 : V.drew.cell? ⟨W.heap.size, 2, none⟩ = some (.int .i64 s.st.sta) := HND.out.cell 2
  have ex2 : V.cell? ⟨W.heap.size, 2, none⟩ = some (.int .i64 s.st.sta) := e2
  have f2 : (V.drew.alloc (.cells (Array.replicate s.cs.length (Value.slice none 0 0)) 55)).cell? ⟨W.heap.size, 2, none⟩ = some (.int .i64 s.st.sta) := HNA.out.cell 2
  have fx2 : (V.alloc (.cells (Array.replicate s.cs.length (Value.slice none 0 0)) 55)).cell? ⟨W.heap.size, 2, none⟩ = some (.int .i64 s.st.sta) := f2
  have e3 : V.drew.cell? ⟨W.heap.size, 3, none⟩ = some (.int .i64 s.st.ste) := HND.out.cell 3
  have ex3 : V.cell? ⟨W.heap.size, 3, none⟩ = some (.int .i64 s.st.ste) := e3
  have f3 : (V.drew.alloc (.cells (Array.replicate s.cs.length (Value.slice none 0 0)) 55)).cell? ⟨W.heap.size, 3, none⟩ = some (.int .i64 s.st.ste) := HNA.out.cell 3
  have fx3 : (V.alloc (.cells (Array.replicate s.cs.length (Value.slice none 0 0)) 55)).cell? ⟨W.heap.size, 3, none⟩ = some (.int .i64 s.st.ste) := f3
  have e4 : V.drew.cell? ⟨W.heap.size, 4, none⟩ = some (.int .i64 s.st.sto) := HND.out.cell 4
  have ex4 : V.cell? ⟨W.heap.size, 4, none⟩ = some (.int .i64 s.st.sto) := e4
  have f4 : (V.drew.alloc (.cells (Array.replicate s.cs.length (Value.slice none 0 0)) 55)).cell? ⟨W.heap.size, 4, none⟩ = some (.int .i64 s.st.sto) := HNA.out.cell 4
  have fx4 : (V.alloc (.cells (Array.replicate s.cs.length (Value.slice none 0 0)) 55)).cell? ⟨W.heap.size, 4, none⟩ = some (.int .i64 s.st.sto) := f4
  have e5 : V.drew.cell? ⟨W.heap.size, 5, none⟩ = some (.int .i64 s.st.opn) := HND.out.cell 5
  have ex5 : V.cell? ⟨W.heap.size, 5, none⟩ = some (.int .i64 s.st.opn) := e5
  have f5 : (V.drew.alloc (.cells (Array.replicate s.cs.length (Value.slice none 0 0)) 55)).cell? ⟨W.heap.size, 5, none⟩ = some (.int .i64 s.st.opn) := HNA.out.cell 5
  have fx5 : (V.alloc (.cells (Array.replicate s.cs.length (Value.slice none 0 0)) 55)).cell? ⟨W.heap.size, 5, none⟩ = some (.int .i64 s.st.opn) := f5
  have e6 : V.drew.cell? ⟨W.heap.size, 6, none⟩ = some (.int .i64 s.st.wai) := HND.out.cell 6
  have ex6 : V.cell? ⟨W.heap.size, 6, none⟩ = some (.int .i64 s.st.wai) := e6
  have f6 : (V.drew.alloc (.cells (Array.replicate s.cs.length (Value.slice none 0 0)) 55)).cell? ⟨W.heap.size, 6, none⟩ = some (.int .i64 s.st.wai) := HNA.out.cell 6
  have fx6 : (V.alloc (.cells (Array.replicate s.cs.length (Value.slice none 0 0)) 55)).cell? ⟨W.heap.size, 6, none⟩ = some (.int .i64 s.st.wai) := f6
  have e7 : V.drew.cell? ⟨W.heap.size, 7, none⟩ = some (.int .i64 s.st.clo) := HND.out.cell 7
  have ex7 : V.cell? ⟨W.heap.size, 7, none⟩ = some (.int .i64 s.st.clo) := e7
  have f7 : (V.drew.alloc (.cells (Array.replicate s.cs.length (Value.slice none 0 0)) 55)).cell? ⟨W.heap.size, 7, none⟩ = some (.int .i64 s.st.clo) := HNA.out.cell 7
  have fx7 : (V.alloc (.cells (Array.replicate s.cs.length (Value.slice none 0 0)) 55)).cell? ⟨W.heap.size, 7, none⟩ = some (.int .i64 s.st.clo) := f7
  have e8 : V.drew.cell? ⟨W.heap.size, 8, none⟩ = some (.int .i64 s.st.nud) := HND.out.cell 8
  have ex8 : V.cell? ⟨W.heap.size, 8, none⟩ = some (.int .i64 s.st.nud) := e8
  have f8 : (V.drew.alloc (.cells (Array.replicate s.cs.length (Value.slice none 0 0)) 55)).cell? ⟨W.heap.size, 8, none⟩ = some (.int .i64 s.st.nud) := HNA.out.cell 8
  have fx8 : (V.alloc (.cells (Array.replicate s.cs.length (Value.slice none 0 0)) 55)).cell? ⟨W.heap.size, 8, none⟩ = some (.int .i64 s.st.nud) := f8
  have e9 : V.drew.cell? ⟨W.heap.size, 9, none⟩ = some (.int .i64 s.st.age) := HND.out.cell 9
  have ex9 : V.cell? ⟨W.heap.size, 9, none⟩ = some (.int .i64 s.st.age) := e9
  have f9 : (V.drew.alloc (.cells (Array.replicate s.cs.length (Value.slice none 0 0)) 55)).cell? ⟨W.heap.size, 9, none⟩ = some (.int .i64 s.st.age) := HNA.out.cell 9
  have fx9 : (V.alloc (.cells (Array.replicate s.cs.length (Value.slice none 0 0)) 55)).cell? ⟨W.heap.size, 9, none⟩ = some (.int .i64 s.st.age) := f9
  have e10 : V.drew.cell? ⟨W.heap.size, 10, none⟩ = some (.int .i64 s.st.sil) := HND.out.cell 10
  have ex10 : V.cell? ⟨W.heap.size, 10, none⟩ = some (.int .i64 s.st.sil) := e10
  have f10 : (V.drew.alloc (.cells (Array.replicate s.cs.length (Value.slice none 0 0)) 55)).cell? ⟨W.heap.size, 10, none⟩ = some (.int .i64 s.st.sil) := HNA.out.cell 10
  have fx10 : (V.alloc (.cells (Array.replicate s.cs.length (Value.slice none 0 0)) 55)).cell? ⟨W.heap.size, 10, none⟩ = some (.int .i64 s.st.sil) := f10
  have e11 : V.drew.cell? ⟨W.heap.size, 11, none⟩ = some (.int .i64 s.st.bud) := HND.out.cell 11
  have ex11 : V.cell? ⟨W.heap.size, 11, none⟩ = some (.int .i64 s.st.bud) := e11
  have f11 : (V.drew.alloc (.cells (Array.replicate s.cs.length (Value.slice none 0 0)) 55)).cell? ⟨W.heap.size, 11, none⟩ = some (.int .i64 s.st.bud) := HNA.out.cell 11
  have fx11 : (V.alloc (.cells (Array.replicate s.cs.length (Value.slice none 0 0)) 55)).cell? ⟨W.heap.size, 11, none⟩ = some (.int .i64 s.st.bud) := f11
  have e12 : V.drew.cell? ⟨W.heap.size, 12, none⟩ = some (.int .i64 s.st.per) := HND.out.cell 12
  have ex12 : V.cell? ⟨W.heap.size, 12, none⟩ = some (.int .i64 s.st.per) := e12
  have f12 : (V.drew.alloc (.cells (Array.replicate s.cs.length (Value.slice none 0 0)) 55)).cell? ⟨W.heap.size, 12, none⟩ = some (.int .i64 s.st.per) := HNA.out.cell 12
  have fx12 : (V.alloc (.cells (Array.replicate s.cs.length (Value.slice none 0 0)) 55)).cell? ⟨W.heap.size, 12, none⟩ = some (.int .i64 s.st.per) := f12
  have e13 : V.drew.cell? ⟨W.heap.size, 13, none⟩ = some (.slice ac s.cs.length kc) := HND.out.cell 13
  have ex13 : V.cell? ⟨W.heap.size, 13, none⟩ = some (.slice ac s.cs.length kc) := e13
  have f13 : (V.drew.alloc (.cells (Array.replicate s.cs.length (Value.slice none 0 0)) 55)).cell? ⟨W.heap.size, 13, none⟩ = some (.slice ac s.cs.length kc) := HNA.out.cell 13
  have fx13 : (V.alloc (.cells (Array.replicate s.cs.length (Value.slice none 0 0)) 55)).cell? ⟨W.heap.size, 13, none⟩ = some (.slice ac s.cs.length kc) := f13
  have e14 : V.drew.cell? ⟨W.heap.size, 14, none⟩ = some (.slice (some ⟨W.heap.size + 1 + 1, 0, none⟩) 1 1) := HND.out.cell 14
  have ex14 : V.cell? ⟨W.heap.size, 14, none⟩ = some (.slice (some ⟨W.heap.size + 1 + 1, 0, none⟩) 1 1) := e14
  have f14 : (V.drew.alloc (.cells (Array.replicate s.cs.length (Value.slice none 0 0)) 55)).cell? ⟨W.heap.size, 14, none⟩ = some (.slice (some ⟨W.heap.size + 1 + 1, 0, none⟩) 1 1) := HNA.out.cell 14
  have fx14 : (V.alloc (.cells (Array.replicate s.cs.length (Value.slice none 0 0)) 55)).cell? ⟨W.heap.size, 14, none⟩ = some (.slice (some ⟨W.heap.size + 1 + 1, 0, none⟩) 1 1) := f14
  have HBA := Hid.intro' (below_class HV.out.2.1 hal)
  have HRL : Hid (RL (fun _ => True) (V.drew.alloc (.cells (Array.replicate s.cs.length (Value.slice none 0 0)) 55)) (.slice (some ⟨V.drew.heap.size, 0, none⟩) s.cs.length s.cs.length) (List.replicate s.cs.length [])) := by
    have := (OW.make (B := 0) V.drew s.cs.length (Nat.zero_le _)).rl (D := fun _ => True) (fun _ _ => trivial)
    rwa [List.length_replicate, List.toArray_replicate] at this
  have HLE : Hid (∃ r1 r2 : Int, (if r2 = 0 then r1 else 1099511627776) = alo s k (y1, y2) ∧ Calls Try.prog 72 #[.agg (nv s.st (.slice ac s.cs.length kc) (.slice (some ⟨W.heap.size + 1 + 1, 0, none⟩) 1 1)).toArray, .int .i64 (k : Int), .slice (some ⟨V.drew.heap.size, 0, none⟩) s.cs.length s.cs.length] (V.drew.alloc (.cells (Array.replicate s.cs.length (Value.slice none 0 0)) 55)) fun e w' => e = .returned (.tuple #[.int .i64 r1, .int .i64 r2]) ∧ Below (V.drew.alloc (.cells (Array.replicate s.cs.length (Value.slice none 0 0)) 55)).heap.size (V.drew.alloc (.cells (Array.replicate s.cs.length (Value.slice none 0 0)) 55)) w') := by
    have h1 := (HC.out.below' HBA.out).mono (D' := fun _ => True) fun _ _ _ _ => trivial
    have h2 := (HV.out.2.2.below' hal).mono (D' := fun _ => True) fun _ _ _ _ => trivial
    by_cases hk : k < s.cs.length
    · refine ⟨lsv (one1 s (y1, y2)) k (List.replicate s.cs.length []) [false], 0, by unfold alo; rw [if_pos hk, if_pos rfl], ?_⟩
      exact least_yes (one1 s (y1, y2)) (fun _ => True) _ _ _ k (List.replicate s.cs.length []) [false] _ h1 h2 HRL.out (one1_bgn HHR.out HHY.out hk) (by simp; omega) (fun l hl => by rw [List.eq_of_mem_replicate hl]; simp)
    · refine ⟨0, 9, by unfold alo; rw [if_neg hk, if_neg (by omega)], ?_⟩
      exact least_no (one1 s (y1, y2)) (fun _ => True) _ _ _ (k : Int) (List.replicate s.cs.length []) _ h1 h2 HRL.out (one1_none hk) (by simp; omega) (fun l hl => by rw [List.eq_of_mem_replicate hl]; simp)
  obtain ⟨r1, r2, hre, hcall⟩ := HLE.out
  have HCA := Hid.intro' hcall
  have HRE := Hid.intro' hre
  clear hcall hre HLE hdr hal HRL HV HND HNA HHR HHY HC
  go_region_with ((go_at_call 72; refine HCA.out.mono ?_; rintro e' V5 ⟨rfl, hb5⟩))
  all_goals
    have HB5 := Hid.intro' (below_class HBA.out hb5)
    clear hb5 HBA HCA hmk e0 ex0 f0 fx0 e1 ex1 f1 fx1 e2 ex2 f2 fx2 e3 ex3 f3 fx3 e4 ex4 f4 fx4 e5 ex5 f5 fx5 e6 ex6 f6 fx6 e7 ex7 f7 fx7 e8 ex8 f8 fx8 e9 ex9 f9 fx9 e10 ex10 f10 fx10 e11 ex11 f11 fx11 e12 ex12 f12 fx12 e13 ex13 f13 fx13 e14 ex14 f14 fx14
    by_cases h0 : r2 = 0
    · subst h0
      have HV1 : Hid (r1 = alo s k (y1, y2)) := by show _ = _; rw [← HRE.out, if_pos rfl]
      clear HRE
      go_wp2
      go_ret
      exact ⟨ret_int HV1.out, HB5.out⟩
    · have HV1 : Hid (1099511627776 = alo s k (y1, y2)) := by show _ = _; rw [← HRE.out, if_neg h0]
      clear HRE
      go_wp2
      go_ret
      exact ⟨ret_int HV1.out, HB5.out⟩
end Go.Proofs.Ytagmidolcdefiah
