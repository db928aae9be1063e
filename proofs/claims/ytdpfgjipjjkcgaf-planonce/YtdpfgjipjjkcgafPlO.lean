/- All: the sequence of all plans, as a function that is ranged over. -/
import Derived.Test.YtdpfgjipjjkcgafPlL
namespace Go.Proofs.Ytdpfgjipjjkcgaf
open Go.RowKit Go.Shelf
attribute [local go_sem] Oper.semAt_some

/-- what the inner sequence hands out: lists of its own -/
def EB (p : List (List Int)) (F : Nat → Prop) (W : World) (args : Array Value) : Prop := ∃ v, args = #[v] ∧ RL F W v p ∧ Sm p
/-- what All's sequence hands out: lists that are nobody's else -/
def EA (M : Nat) (p : List (List Int)) (F : Nat → Prop) (W : World) (args : Array Value) : Prop := ∃ v, args = #[v] ∧ RL (fun g => ¬ F g ∧ M ≤ g) W v p ∧ Sm p
theorem eb_mono (x : List (List Int)) (F F' : Nat → Prop) (W W' : World) (args : Array Value) (h : EB x F W args) (hz : W.heap.size ≤ W'.heap.size) (h1 : ∀ k, F k → F' k) (h2 : ∀ k, k < W.heap.size → (∃ o : Obj, W.heap[k]? = some o ∧ o.isCells = true) → W'.heap[k]? = W.heap[k]?) : EB x F' W' args := by
  obtain ⟨v, rfl, hr, hs⟩ := h
  refine ⟨v, rfl, RL.keep (W := W) (hr.mono (D' := fun g => F' g ∧ ∃ o : Obj, W.heap[g]? = some o ∧ o.isCells = true) fun g hg _ ho => ⟨h1 g hg, ho⟩) hz (fun g hg hlt => h2 g hlt hg.2) |>.mono fun g hg _ _ => hg.1, hs⟩
theorem ea_mono (M : Nat) (x : List (List Int)) (F F' : Nat → Prop) (W W' : World) (args : Array Value) (h : EA M x F W args) (hz : W.heap.size ≤ W'.heap.size) (h1 : ∀ k, F' k → F k ∨ ∃ o : Obj, W.heap[k]? = some o ∧ o.isCells = false) (h2 : ∀ k, k < W.heap.size → (∃ o : Obj, W.heap[k]? = some o ∧ o.isCells = true) → W'.heap[k]? = W.heap[k]?) : EA M x F' W' args := by
  obtain ⟨v, rfl, hr, hs⟩ := h
  refine ⟨v, rfl, RL.keep (W := W) (hr.mono (D' := fun g => (¬ F' g ∧ M ≤ g) ∧ ∃ o : Obj, W.heap[g]? = some o ∧ o.isCells = true) fun g hg _ ho => ⟨⟨fun hf => ?_, hg.2⟩, ho⟩) hz (fun g hg hlt => h2 g hlt hg.2) |>.mono fun g hg _ _ => hg.1, hs⟩
  rcases h1 g hf with e | ⟨o, e1, e2⟩
  · exact hg.1 e
  · obtain ⟨o', e3, e4⟩ := ho
    rw [e1] at e3
    cases e3
    rw [e2] at e4
    cases e4

theorem plans_any (b : Nat) (w : World) :
    Calls Try.prog 20 #[.pointer (some ⟨b, 0, none⟩)] w fun e w' => e = .returned (.func (.func 34) #[] #[.pointer (some ⟨w.heap.size, 0, none⟩)]) ∧ w' = w.alloc (.cells #[.pointer (some ⟨b, 0, none⟩)] 48) := by
  have hmf : ∀ (fn : Fn) (first cap : Array Value) (w : World), (Instr.makeFunc fn first cap).run Try.prog w = .ok (.func fn first cap) w := fun _ _ _ _ => rfl
  go_enter Try.func20, Try.ntmps20
  go_wp2
  go_ret
  exact ⟨rfl, rfl⟩

/-- all plans of n cars and these wants -/
def plansOf (n : Nat) (ms : List Nat) : List (List (List Int)) := PM.gen n ms (n + ms.length) 0 (List.replicate ms.length false) (List.replicate n [])
theorem lf_rep (m : Nat) : PM.lf (List.replicate m false) = m := by unfold PM.lf; rw [List.count_replicate]; simp

set_option maxHeartbeats 2000000 in
theorem plans1_seq (n : Nat) (hn : 1 ≤ n) (ms : List Nat) (ws : List (Int × Int)) (hz : Gz n ms ws) (B b sb lb bx : Nat) (vw : Value) (vs : List Value) (G : Nat → Prop) (w : World) (hd : Dq w B b sb lb vw vs G ws (List.replicate ms.length false) (List.replicate n [])) (hBW : B ≤ w.heap.size)
    (hbx : w.cell? ⟨bx, 0, none⟩ = some (.pointer (some ⟨b, 0, none⟩))) (hlt : bx < w.heap.size) :
    SeqF Try.prog 34 #[.pointer (some ⟨bx, 0, none⟩)] EB (fp b sb lb vs) G (fun xs => xs = plansOf n ms) (fun pre => pre <+: plansOf n ms) w := by
  intro nn l J Jx W hW hJ _ hY h0
  have hgo := goOn_in l n ms ws hz B b sb lb vw G J Jx hJ (fun m pre p F W1 v hj hr hs => hY m pre p F W1 #[v] hj ⟨v, rfl, hr, hs⟩) (n + ms.length) (nn - 1) 0 (List.replicate ms.length false) (List.replicate n []) [] vs W
    (by rw [lf_rep]; omega) (PM.Iv.zero n (by omega) ms) (fun d l hd => by
      rw [List.getElem?_replicate] at hd
      split at hd
      · cases hd
        rw [lf_rep]
        have := hz.wl
        have := hz.mm.len
        simp
        omega
      · cases hd) (hd.below' hW) (Nat.le_trans hBW hW.size) h0
  have hc := (hW.cell (p := ⟨bx, 0, none⟩) hlt).trans hbx
  show CallsIn Fence.wide nn Try.prog 34 #[.func (.yield l) #[] #[], .pointer (some ⟨bx, 0, none⟩)] W _
  refine callsIn_of_wp Try.func34 rfl trivial ?_ rfl
  simp only [Try.ntmps34, List.size_toArray, List.length_cons, List.length_nil, Nat.reduceAdd, Nat.reduceSub, Array.replicate_succ, Array.replicate_zero, List.push_toArray, List.append_toArray, List.nil_append, List.cons_append]
  have hwf : ∀ k, Fence.wide.fn k := fun _ => trivial
  have hdd : ∀ k : Nat, (Fence.wide.depth.isSome = true → 1 ≤ k) := fun k h => by cases h
  clear hd hY h0 hW hbx
  gi_wp2_with fail
  refine ⟨hdd _, hgo.mono ?_⟩
  rintro e W3 (⟨rfl, vs3, hd3, hJ3⟩ | ⟨rfl, q, F, hq, hx⟩)
  · clear hgo hd3
    gi_wp2
    go_end0
    exact ⟨⟨_, rfl⟩, .inl ⟨_, _, rfl, hJ3⟩⟩
  · clear hgo
    gi_wp2
    go_end0
    exact ⟨⟨_, rfl⟩, .inr ⟨q, F, hq, hx⟩⟩

end Go.Proofs.Ytdpfgjipjjkcgaf
