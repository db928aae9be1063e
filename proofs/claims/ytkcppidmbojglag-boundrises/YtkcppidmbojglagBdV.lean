/- A beginning on its way: a want is taken. -/
import Derived.Test.YtkcppidmbojglagBdT
namespace Go.Proofs.Ytkcppidmbojglag
open Go.RowKit

section
variable {W : World} {b eb mb : Nat} {s : St} {vc vw : Value} {es : List RM.Sp} {f : Int → Option (Int × Int)} {co : Int}
set_option maxHeartbeats 2000000 in
theorem take_none (h : Bg W b eb mb s vc vw es f co) (c : Nat) (x : Int) (hn : f x = none) :
    Calls Try.prog 21 #[.pointer (some ⟨b, 0, none⟩), .int .i64 (c : Int), .int .i64 x] W fun e w' => e = .returned (.bool false) ∧ Below W.heap.size W w' := by
  have hlk : (Instr.lookup 67 (.map (some mb)) (.int .i64 x) true).run Try.prog W = .ok (.tuple #[.agg #[.int .i64 0, .int .i64 0], .bool false]) W := by
    have := h.hm.look x
    rw [hn] at this
    exact this
  have c16 := h.c16
  have HB := Hid.intro' ((Below.refl W.heap.size W).alloc (Nat.le_refl _) (.cells #[.int .i64 0, .int .i64 0] 46))
  clear h hn
  go_enter Try.func21, Try.ntmps21
  go_wp2
  go_ret
  exact ⟨rfl, HB.out⟩
set_option maxHeartbeats 2000000 in
theorem take_not (h : Bg W b eb mb s vc vw es f co) (c : Nat) (hc : c ≤ 64) (x g : Int) (m : Nat) (hn : f x = some (g, (m : Int))) (hb : PM.bt m c = false) :
    Calls Try.prog 21 #[.pointer (some ⟨b, 0, none⟩), .int .i64 (c : Int), .int .i64 x] W fun e w' => e = .returned (.bool false) ∧ Below W.heap.size W w' := by
  have hlk : (Instr.lookup 67 (.map (some mb)) (.int .i64 x) true).run Try.prog W = .ok (.tuple #[.agg #[.int .i64 g, .int .i64 (m : Int)], .bool true]) W := by
    have := h.hm.look x
    rw [hn] at this
    exact this
  have c16 := h.c16
  have HB := Hid.intro' ((Below.refl W.heap.size W).alloc (Nat.le_refl _) (.cells #[.int .i64 g, .int .i64 (m : Int)] 46))
  have HH := Hid.intro' (has_any g m c hc)
  rw [hb] at HH
  clear h hn hb
  go_enter Try.func21, Try.ntmps21
  go_wp2_with fail
  refine (HH.out _).mono ?_
  rintro e W2 ⟨rfl, hb2⟩
  have HB2 := Hid.intro' (below_class HB.out hb2)
  clear hb2 HB HH c16 hlk
  go_wp2
  go_ret
  exact ⟨rfl, HB2.out⟩
set_option maxHeartbeats 4000000 in
theorem take_yes (h : Bg W b eb mb s vc vw es f co) (c : Nat) (hc : c ≤ 64) (a : RM.Sp) (hj : es[c]? = some a) (x g : Int) (m : Nat) (hn : f x = some (g, (m : Int))) (hb : PM.bt m c = true)
    (r : SM.Rt s) (ok : RM.Ok s a) (hle : a.le ≤ 100000000) (h0 : 0 ≤ g) (h1 : g < s.fl) (hc0 : 0 ≤ co) (hc1 : co ≤ 1000000000000) :
    Calls Try.prog 21 #[.pointer (some ⟨b, 0, none⟩), .int .i64 (c : Int), .int .i64 x] W fun e w' => e = .returned (.bool true) ∧
      Bg w' b eb mb s vc vw (es.set c (RM.nx s a g)) (fun j => if j = x then none else f j) (co + RM.ar s a g) ∧ Kp (bp b eb mb) W w' := by
  have hlk : (Instr.lookup 67 (.map (some mb)) (.int .i64 x) true).run Try.prog W = .ok (.tuple #[.agg #[.int .i64 g, .int .i64 (m : Int)], .bool true]) W := by
    have := h.hm.look x
    rw [hn] at this
    exact this
  have c16 := h.c16
  have HX := Hid.intro' (World.alloc_heap_new W (.cells #[.int .i64 g, .int .i64 (m : Int)] 46))
  have HB := Hid.intro' ((Below.refl W.heap.size W).alloc (Nat.le_refl _) (.cells #[.int .i64 g, .int .i64 (m : Int)] 46))
  have HG := Hid.intro' h
  have HH := Hid.intro' (has_any g m c hc)
  rw [hb] at HH
  have HF := Hid.intro' hn
  have HJ := Hid.intro' hj
  have hcl : c < es.length := (List.getElem?_eq_some_iff.1 hj).1
  have HNE := Hid.intro' (RM.nx_eq ok g)
  have HNX : Hid (∀ w', Calls Try.prog 36 #[.agg (sv s).toArray, .agg #[.int .i64 a.fl, .int .i64 a.he, .int .i64 a.le], .int .i64 g] w' fun e w'' => e = .returned (.agg #[.int .i64 g, .int .i64 (RM.ar s a g), .int .i64 (RM.ar s a g + RM.dw s)]) ∧ Below w'.heap.size w' w'') := fun w' => next_any s r a ok hle g h0 h1 w'
  have HAB := Hid.intro' (And.intro (RM.ar_nn r ok g) (RM.ar_le r ok g))
  have HAD : Hid (∀ w', Calls Try.prog 37 #[.int .i64 co, .int .i64 (RM.ar s a g)] w' fun e w'' => e = .returned (.int .i64 (co + RM.ar s a g)) ∧ Below w'.heap.size w' w'') := fun w' => (add_any co (RM.ar s a g) w').mono fun e w'' hh => by
    obtain ⟨he, rfl⟩ := hh
    refine ⟨?_, Below.refl _ _⟩
    rw [he, SM.addC hc0 HAB.out.1 (by have := HAB.out; omega)]
  clear h hn hb hj r ok hle h0 h1 hc0 hc1 HAB
  generalize RM.ar s a g = T at HNE HNX HAD ⊢
  generalize T + RM.dw s = L at HNE HNX
  generalize RM.nx s a g = n at HNE ⊢
  generalize co + T = co2 at HAD ⊢
  go_enter Try.func21, Try.ntmps21
  go_wp2_with fail
  refine (HH.out _).mono ?_
  rintro e W2 ⟨rfl, hb2⟩
  have HX2 : Hid (W2.heap[W.heap.size]? = some (.cells #[.int .i64 g, .int .i64 (m : Int)] 46 (0, 0))) := (hb2.block W.heap.size (by simp)).trans HX.out
  have hbb := below_class HB.out hb2
  have HG2 := Hid.intro' (HG.out.below' hbb)
  have HK2 := Hid.intro' (Kp.ofBelow (bp b eb mb) hbb)
  obtain ⟨W3, hdel, hm3, hk3⟩ := HG2.out.hm.drop HF.out
  have c16b := HG2.out.c16
  have HG3 : Hid (Bg W3 b eb mb s vc vw es (fun j => if j = x then none else f j) co) := ⟨(hk3.block b HG2.out.lb HG2.out.n2).trans HG2.out.hb, (hk3.block eb HG2.out.le HG2.out.n3).trans HG2.out.he, hm3, HG2.out.n1, HG2.out.n2, HG2.out.n3⟩
  have HK3 : Hid (Kp (bp b eb mb) W W3) := HK2.out.trans hk3 (fun i _ e => .inr (.inr e))
  have HX3 : Hid (W3.heap[W.heap.size]? = some (.cells #[.int .i64 g, .int .i64 (m : Int)] 46 (0, 0))) := (hk3.block W.heap.size (Array.getElem?_eq_some_iff.1 HX2.out).1 (fun e => by have := HG.out.hm.lt; omega)).trans HX2.out
  clear hbb hb2 HX HB HH c16 hlk hm3 hk3 HG2 HK2 HX2
  go_wp2_with fail
  clear hdel c16b
  have hGA : ∀ w', Below W3.drew.heap.size W3.drew w' → Bg w' b eb mb s vc vw es (fun j => if j = x then none else f j) co := fun w' hw => HG3.out.drew.below' hw
  have H15 : Hid (∀ w', Below W3.drew.heap.size W3.drew w' → w'.cell? ⟨b, 15, none⟩ = some (.slice (some ⟨eb, 0, none⟩) es.length es.length)) := fun w' hw => (hGA w' hw).c15
  have HST : Hid (∀ w', Below W3.drew.heap.size W3.drew w' → w'.rangeAt b 0 (sv s)) := fun w' hw => (hGA w' hw).site
  have HSP : Hid (∀ w', Below W3.drew.heap.size W3.drew w' → w'.rangeAt eb (c * 3) [.int .i64 a.fl, .int .i64 a.he, .int .i64 a.le]) := fun w' hw => (hGA w' hw).stop HJ.out
  have HXG : Hid (∀ w', Below W3.drew.heap.size W3.drew w' → w'.cell? ⟨W.heap.size, 0, none⟩ = some (.int .i64 g)) := fun w' hw => by
    rw [cell_of_row _ _ 0 _ _ _ ((hw.block W.heap.size (Array.getElem?_eq_some_iff.1 HX3.out).1).trans HX3.out)]; rfl
  clear hGA
  refine wp_region_tail 21 (by kernel_rfl) (by kernel_rfl) ?_
  simp only [List.take_succ_cons, List.take_zero, List.drop_succ_cons, List.drop_zero]
  unfold wpCalm
  generalize hK : wpCalm Try.prog _ _ _ _ = K
  unfold Oper.calm
  go_simp
  refine ⟨_, fun _ _ => rfl, ?_⟩
  subst hK
  unfold wpCalm
  generalize hK : wpCalm Try.prog _ _ _ _ = K
  unfold Oper.calm
  go_simp
  refine ⟨_, fun _ _ => rfl, ?_⟩
  subst hK
  unfold wpCalm
  generalize hK : wpCalm Try.prog _ _ _ _ = K
  unfold Oper.calm
  go_simp
  refine ⟨_, fun _ _ => rfl, ?_⟩
  subst hK
  unfold wpCalm
  generalize hK : wpCalm Try.prog _ _ _ _ = K
  rw [if_pos (by go_simp)]
  refine calm_loadSE _ _ _ rfl rfl H15.out ?_
  go_simp
  subst hK
  unfold wpCalm
  generalize hK : wpCalm Try.prog _ _ _ _ = K
  unfold Oper.calm
  go_simp
  refine ⟨_, fun _ _ => rfl, ?_⟩
  subst hK
  unfold wpCalm
  generalize hK : wpCalm Try.prog _ _ _ _ = K
  unfold Oper.calm
  go_simp
  refine ⟨_, fun _ _ => rfl, ?_⟩
  subst hK
  unfold wpCalm
  generalize hK : wpCalm Try.prog _ _ _ _ = K
  unfold Oper.calm
  go_simp
  refine ⟨_, fun _ _ => rfl, ?_⟩
  subst hK
  unfold wpCalm
  generalize hK : wpCalm Try.prog _ _ _ _ = K
  unfold Oper.calm
  go_simp
  refine ⟨_, fun _ _ => rfl, ?_⟩
  subst hK
  unfold wpCalm
  generalize hK : wpCalm Try.prog _ _ _ _ = K
  unfold Oper.calm
  go_simp
  refine ⟨_, fun _ _ => rfl, ?_⟩
  subst hK
  unfold wpCalm
  generalize hK : wpCalm Try.prog _ _ _ _ = K
  rw [if_pos (by go_simp)]
  refine calm_load23b _ b s rfl rfl HST.out ?_
  go_simp
  subst hK
  unfold wpCalm
  generalize hK : wpCalm Try.prog _ _ _ _ = K
  unfold Oper.calm
  go_simp
  refine ⟨_, fun _ _ => rfl, ?_⟩
  subst hK
  unfold wpCalm
  generalize hK : wpCalm Try.prog _ _ _ _ = K
  unfold Oper.calm
  go_simp
  refine ⟨_, fun _ _ => rfl, ?_⟩
  subst hK
  unfold wpCalm
  generalize hK : wpCalm Try.prog _ _ _ _ = K
  unfold Oper.calm
  go_simp
  refine ⟨_, fun _ _ => rfl, ?_⟩
  subst hK
  unfold wpCalm
  generalize hK : wpCalm Try.prog _ _ _ _ = K
  rw [if_pos (by go_simp)]
  refine calm_loadSE _ _ _ rfl rfl H15.out ?_
  go_simp
  subst hK
  unfold wpCalm
  generalize hK : wpCalm Try.prog _ _ _ _ = K
  unfold Oper.calm
  go_simp
  refine ⟨_, fun _ _ => rfl, ?_⟩
  subst hK
  unfold wpCalm
  generalize hK : wpCalm Try.prog _ _ _ _ = K
  rw [if_pos (by go_simp)]
  refine calm_ixE _ _ rfl rfl rfl hcl ?_
  go_simp
  subst hK
  unfold wpCalm
  generalize hK : wpCalm Try.prog _ _ _ _ = K
  rw [if_pos (by go_simp)]
  refine calm_loadE _ _ _ a rfl rfl HSP.out ?_
  go_simp
  subst hK
  unfold wpCalm
  generalize hK : wpCalm Try.prog _ _ _ _ = K
  unfold Oper.calm
  go_simp
  refine ⟨_, fun _ _ => rfl, ?_⟩
  subst hK
  unfold wpCalm
  generalize hK : wpCalm Try.prog _ _ _ _ = K
  rw [if_pos (by go_simp)]
  refine calm_load3 _ _ _ rfl rfl HXG.out ?_
  go_simp
  subst hK
  unfold wpCalm
  generalize hK : wpCalm Try.prog _ _ _ _ = K
  unfold Oper.calm
  go_simp
  refine ⟨_, fun w' hw => HNX.out w', ?_⟩
  subst hK
  unfold wpCalm
  generalize hK : wpCalm Try.prog _ _ _ _ = K
  rw [if_pos (by go_simp)]
  refine calm_ixE _ _ rfl rfl rfl hcl ?_
  go_simp
  subst hK
  refine wpCalm_nil ?_
  intro W4 hb4
  have hbd := (Below.refl W3.heap.size W3).drew.trans hb4
  have HG4 := Hid.intro' (HG3.out.below' hbd)
  have HK4 := Hid.intro' (HK3.out.thenBelow hbd)
  clear hbd hb4 H15 HST HSP HXG HG3 HK3 HX3 HNX
  go_wp2_with (refine wpList_storeE rfl _ _ rfl HG4.out HJ.out ⟨g, T, L⟩ rfl rfl ?_)
  intro W5 hk5 hg5
  have HG5 := Hid.intro' hg5
  have HK5 : Hid (Kp (bp b eb mb) W W5) := HK4.out.trans hk5 (fun i _ e => .inr (.inl e))
  have HJ5 : Hid ((es.set c (⟨g, T, L⟩ : RM.Sp))[c]? = some ⟨g, T, L⟩) := List.getElem?_set_self hcl
  rw [← HNE.out] at HG5 HJ5
  clear hk5 hg5 HG4 HK4 HJ
  go_wp2_with fail
  have hGA : ∀ w', Below W5.drew.heap.size W5.drew w' → Bg w' b eb mb s vc vw (es.set c n) (fun j => if j = x then none else f j) co := fun w' hw => HG5.out.drew.below' hw
  have H15 : Hid (∀ w', Below W5.drew.heap.size W5.drew w' → w'.cell? ⟨b, 15, none⟩ = some (.slice (some ⟨eb, 0, none⟩) es.length es.length)) := fun w' hw => by have := (hGA w' hw).c15; rwa [List.length_set] at this
  have H17 : Hid (∀ w', Below W5.drew.heap.size W5.drew w' → w'.cell? ⟨b, 17, none⟩ = some (.int .i64 co)) := fun w' hw => (hGA w' hw).c17
  have HHE : Hid (∀ w', Below W5.drew.heap.size W5.drew w' → w'.cell? ⟨eb, c * 3 + 1, none⟩ = some (.int .i64 T)) := fun w' hw => by have := (hGA w' hw).stop HJ5.out 1 _ rfl; rw [HNE.out] at this; exact this
  clear hGA
  refine wp_region_tail 16 (by kernel_rfl) (by kernel_rfl) ?_
  simp only [List.take_succ_cons, List.take_zero, List.drop_succ_cons, List.drop_zero]
  unfold wpCalm
  generalize hK : wpCalm Try.prog _ _ _ _ = K
  unfold Oper.calm
  go_simp
  refine ⟨_, fun _ _ => rfl, ?_⟩
  subst hK
  unfold wpCalm
  generalize hK : wpCalm Try.prog _ _ _ _ = K
  unfold Oper.calm
  go_simp
  refine ⟨_, fun _ _ => rfl, ?_⟩
  subst hK
  unfold wpCalm
  generalize hK : wpCalm Try.prog _ _ _ _ = K
  unfold Oper.calm
  go_simp
  refine ⟨_, fun _ _ => rfl, ?_⟩
  subst hK
  unfold wpCalm
  generalize hK : wpCalm Try.prog _ _ _ _ = K
  unfold Oper.calm
  go_simp
  refine ⟨_, fun _ _ => rfl, ?_⟩
  subst hK
  unfold wpCalm
  generalize hK : wpCalm Try.prog _ _ _ _ = K
  rw [if_pos (by go_simp)]
  refine calm_load3 _ _ _ rfl rfl H17.out ?_
  go_simp
  subst hK
  unfold wpCalm
  generalize hK : wpCalm Try.prog _ _ _ _ = K
  unfold Oper.calm
  go_simp
  refine ⟨_, fun _ _ => rfl, ?_⟩
  subst hK
  unfold wpCalm
  generalize hK : wpCalm Try.prog _ _ _ _ = K
  unfold Oper.calm
  go_simp
  refine ⟨_, fun _ _ => rfl, ?_⟩
  subst hK
  unfold wpCalm
  generalize hK : wpCalm Try.prog _ _ _ _ = K
  unfold Oper.calm
  go_simp
  refine ⟨_, fun _ _ => rfl, ?_⟩
  subst hK
  unfold wpCalm
  generalize hK : wpCalm Try.prog _ _ _ _ = K
  rw [if_pos (by go_simp)]
  refine calm_loadSE _ _ _ rfl rfl H15.out ?_
  go_simp
  subst hK
  unfold wpCalm
  generalize hK : wpCalm Try.prog _ _ _ _ = K
  unfold Oper.calm
  go_simp
  refine ⟨_, fun _ _ => rfl, ?_⟩
  subst hK
  unfold wpCalm
  generalize hK : wpCalm Try.prog _ _ _ _ = K
  rw [if_pos (by go_simp)]
  refine calm_ixE _ _ rfl rfl rfl hcl ?_
  go_simp
  subst hK
  unfold wpCalm
  generalize hK : wpCalm Try.prog _ _ _ _ = K
  unfold Oper.calm
  go_simp
  refine ⟨_, fun _ _ => rfl, ?_⟩
  subst hK
  unfold wpCalm
  generalize hK : wpCalm Try.prog _ _ _ _ = K
  rw [if_pos (by go_simp)]
  refine calm_load3 _ _ _ rfl rfl HHE.out ?_
  go_simp
  subst hK
  unfold wpCalm
  generalize hK : wpCalm Try.prog _ _ _ _ = K
  unfold Oper.calm
  go_simp
  refine ⟨_, fun w' hw => HAD.out w', ?_⟩
  subst hK
  unfold wpCalm
  generalize hK : wpCalm Try.prog _ _ _ _ = K
  unfold Oper.calm
  go_simp
  refine ⟨_, fun _ _ => rfl, ?_⟩
  subst hK
  unfold wpCalm
  generalize hK : wpCalm Try.prog _ _ _ _ = K
  unfold Oper.calm
  go_simp
  refine ⟨_, fun _ _ => rfl, ?_⟩
  subst hK
  refine wpCalm_nil ?_
  intro W6 hb6
  have hbd := (Below.refl W5.heap.size W5).drew.trans hb6
  have HG6 := Hid.intro' (HG5.out.below' hbd)
  have HK6 := Hid.intro' (HK5.out.thenBelow hbd)
  have c17 := HG6.out.c17
  have f17 := HG6.out.fr 17
  have HE : Hid (Bg (W6.setCell ⟨b, 17, none⟩ (.int .i64 co2)) b eb mb s vc vw (es.set c n) (fun j => if j = x then none else f j) co2 ∧ Kp (bp b eb mb) W (W6.setCell ⟨b, 17, none⟩ (.int .i64 co2))) := ⟨HG6.out.put17 co2, HK6.out.set b 17 _ (fun _ => .inl rfl)⟩
  clear hbd hb6 H15 H17 HHE HG5 HK5 HAD HG6 HK6
  go_wp2
  go_ret
  exact ⟨rfl, HE.out.1, HE.out.2⟩
end

end Go.Proofs.Ytkcppidmbojglag
