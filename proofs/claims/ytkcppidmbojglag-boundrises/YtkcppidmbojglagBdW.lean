/- A beginning: the earliest time of a want, and the least cost. -/
import Derived.Test.YtkcppidmbojglagBdV
namespace Go.Proofs.Ytkcppidmbojglag
open Go.RowKit

/-- the least of these times, or the limit -/
def eml (l : List Int) : Int := l.foldl min 1099511627776
theorem eml_snoc (l : List Int) (t : Int) : eml (l ++ [t]) = min (eml l) t := by unfold eml; rw [List.foldl_append]; rfl
theorem eml_nil : eml [] = 1099511627776 := rfl
theorem eml_low {l : List Int} (h : ∀ t ∈ l, t ≤ 1099511627776) (hn : l ≠ []) : eml l = RM.low l := by
  cases l with
  | nil => exact absurd rfl hn
  | cons a l =>
    unfold eml RM.low RM.lo
    rw [List.foldl_cons, show min 1099511627776 a = a by have := h a (by simp); omega]; rfl
theorem eml_bd {l : List Int} (h : ∀ t ∈ l, 0 ≤ t) : 0 ≤ eml l ∧ eml l ≤ 1099511627776 := by
  have := RM.fold_min (l := l) (a := 1099511627776)
  refine ⟨?_, this.2.1⟩
  show 0 ≤ l.foldl min 1099511627776
  rcases this.1 with e | e
  · rw [e]; decide
  · exact h _ e

section
variable {W0 : World} {K : Act → Prop} {o : Oper} {a : Act}
theorem calm_fieldT (x : Operand) {f h l : Int} (ho : o.op = .field 71 x 1) (hx : a.eval x = .agg #[.int .i64 f, .int .i64 h, .int .i64 l])
    (hK : K (a.put o.dst (.int .i64 h))) : Oper.calm Try.prog W0 o a K :=
  calm_val _ (fun w hw => by
    have hf : (Instr.field 71 (.agg #[.int .i64 f, .int .i64 h, .int .i64 l]) 1).run Try.prog w = .ok (.int .i64 h) w := by kernel_rfl
    unfold execOp
    simp only [ho, hx, Sem.run_bind, Sem.run_pure, Result.andThen_ok, hf]) hK
theorem calm_min (x y : Operand) {ats : Array TypeId} {t T : Int} (ho : o.op = .call { callee := .builtin .min, args := #[x, y], argTypes := ats }) (hx : a.eval x = .int .i64 t) (hy : a.eval y = .int .i64 T)
    (hK : K (a.put o.dst (.int .i64 (min t T)))) : Oper.calm Try.prog W0 o a K :=
  calm_val _ (fun w hw => by
    have hm : (Builtin.min_ ats o.type #[.int .i64 t, .int .i64 T]).run Try.prog w = .ok (.int .i64 (min t T)) w := by
      have e : min t T = if T < t then T else t := by split <;> omega
      rw [e]; rfl
    unfold execOp
    simp [ho, resolve, invoke, hx, hy, builtin, hm, Result.andThen]) hK
end
section
variable {W : World} {b eb mb : Nat} {s : Sn} {vc vw : Value} {f : Int → Option (Int × Int)} {co : Int} {p : List (List Int)}
set_option maxHeartbeats 4000000 in
theorem earliest_any (h : Bg W b eb mb s.st vc vw (asp s s.cs p) f co) (z : RM.Rz s.st s.ws s.cs) (hcp : s.cs.length = p.length) (hc8 : s.cs.length ≤ 8) (haf : ∀ r ∈ s.cs, r.2 ≤ 1000000) (hpr : ∀ x ∈ p.flatten, 0 ≤ x ∧ x < s.ws.length) (hll : ∀ l ∈ p, l.length ≤ 1000)
    (k m : Nat) (hk : k ≤ s.cs.length) (g : Int) (h0 : 0 ≤ g) (h1 : g < s.st.fl) :
    Calls Try.prog 38 #[.pointer (some ⟨b, 0, none⟩), .int .i64 (k : Int), .agg #[.int .i64 g, .int .i64 (m : Int)]] W fun e w' => e = .returned (.int .i64 (eml (RM.opk s.st s.ws s.cs p g m k s.cs.length))) ∧ Below W.heap.size W w' := by
  have hel : (asp s s.cs p).length = s.cs.length := asp_length hcp
  have hb0 := (Below.refl W.heap.size W).alloc (Nat.le_refl _) (.cells #[.int .i64 g, .int .i64 (m : Int)] 46)
  have HG0 : Hid (Bg (W.alloc (.cells #[.int .i64 g, .int .i64 (m : Int)] 46)) b eb mb s.st vc vw (asp s s.cs p) f co ∧ (W.alloc (.cells #[.int .i64 g, .int .i64 (m : Int)] 46)).heap[W.heap.size]? = some (.cells #[.int .i64 g, .int .i64 (m : Int)] 46 (0, 0)) ∧ Below W.heap.size W (W.alloc (.cells #[.int .i64 g, .int .i64 (m : Int)] 46))) := ⟨h.below' hb0, World.alloc_heap_new W _, hb0⟩
  have HZ := Hid.intro' z
  have HX := Hid.intro' (And.intro haf (And.intro hpr (And.intro hll (And.intro h0 h1))))
  have HCP := Hid.intro' hcp
  have HBD : Hid (∀ c, ∀ t ∈ RM.opk s.st s.ws s.cs p g m k c, 0 ≤ t ∧ t ≤ 80000000) := fun c => RM.ops_bd z hpr haf hll
  clear h hb0 z hcp haf hpr hll h0 h1
  go_enter Try.func38, Try.ntmps38
  go_wp2_with fail
  generalize W.alloc (.cells #[.int .i64 g, .int .i64 (m : Int)] 46) = W1 at HG0 ⊢
  go_loopw [7, 8] (fun tv cv wr => ∃ (c : Nat) (t : Int), k ≤ c ∧ c ≤ s.cs.length ∧ tv = .int .i64 t ∧ cv = .int .i64 (c : Int) ∧ Hid (t = eml (RM.opk s.st s.ws s.cs p g m k c)) ∧ Hid (Bg wr b eb mb s.st vc vw (asp s s.cs p) f co ∧ wr.heap[W.heap.size]? = some (.cells #[.int .i64 g, .int .i64 (m : Int)] 46 (0, 0)) ∧ Below W.heap.size W wr)) (fun _ cv _ => s.cs.length - (intOf cv).toNat)
  case atStart => exact ⟨k, _, Nat.le_refl _, hk, rfl, rfl, by show _ = _; rw [RM.opk_start]; rfl, HG0⟩
  case round =>
    clear HG0
    obtain ⟨c, t, hkc, hcn, rfl, rfl, HT, HG⟩ := hrel
    have c15 := HG.out.1.c15
    rw [hel] at c15
    by_cases hlt : c < s.cs.length
    · have hcz : (c : Int) < (s.cs.length : Int) := by omega
      have w0 : wr.cell? ⟨W.heap.size, 0, none⟩ = some (.int .i64 g) := by rw [cell_of_row _ _ 0 _ _ _ HG.out.2.1]; rfl
      have w1 : wr.cell? ⟨W.heap.size, 1, none⟩ = some (.int .i64 (m : Int)) := by rw [cell_of_row _ _ 1 _ _ _ HG.out.2.1]; rfl
      obtain ⟨r, hr⟩ : ∃ r, s.cs[c]? = some r := ⟨_, List.getElem?_eq_getElem hlt⟩
      obtain ⟨l, hl⟩ : ∃ l, p[c]? = some l := ⟨_, List.getElem?_eq_getElem (by have := HCP.out; omega)⟩
      have HOS := Hid.intro' (RM.opk_succ (s := s.st) (ws := s.ws) (f := g) (m := m) HCP.out hkc hr hl)
      have HH := Hid.intro' (has_any g m c (by omega))
      have HRL := Hid.intro' (And.intro hr hl)
      clear hr hl
      go_wp2_with fail
      refine (HH.out wr).mono ?_
      rintro e W2 ⟨rfl, hb2⟩
      have HG2 : Hid (Bg W2 b eb mb s.st vc vw (asp s s.cs p) f co ∧ W2.heap[W.heap.size]? = some (.cells #[.int .i64 g, .int .i64 (m : Int)] 46 (0, 0)) ∧ Below W.heap.size W W2) := ⟨HG.out.1.below' hb2, (hb2.block _ (Array.getElem?_eq_some_iff.1 HG.out.2.1).1).trans HG.out.2.1, below_class HG.out.2.2 hb2⟩
      clear hb2 HG HH w0 w1 c15
      cases hbt : PM.bt m c with
      | false =>
        have HT2 : Hid (t = eml (RM.opk s.st s.ws s.cs p g m k (c + 1))) := by
          show _ = _
          rw [HOS.out, hbt, if_neg (by simp), List.append_nil, HT.out]
        clear hbt HOS
        go_wp2
        go_roundw
        case rel => exact ⟨c + 1, t, by omega, by omega, rfl, by go_num, HT2, HG2⟩
        case measure => simp [intOf]; omega
      | true =>
        have hall : ∀ x ∈ l, 0 ≤ x ∧ x < s.ws.length := fun x hx => HX.out.2.1 x (List.mem_flatten.2 ⟨l, List.mem_of_getElem? HRL.out.2, hx⟩)
        have hin := HZ.out.inn (l := l) hall
        have ok0 := HZ.out.cr r (List.mem_of_getElem? HRL.out.1)
        have hok := RM.go_ok HZ.out.rt ok0 hin
        have hle : (RM.go s.st (RM.bg r) (l.map (RM.wf s.ws))).le ≤ 100000000 := by
          have g3 := RM.go_le HZ.out.rt ok0 hin
          rw [List.length_map] at g3
          have g7 : (RM.bg r).le = r.2 := rfl
          have := HX.out.1 r (List.mem_of_getElem? HRL.out.1)
          have := HX.out.2.2.1 l (List.mem_of_getElem? HRL.out.2)
          omega
        have HJ := Hid.intro' (asp_get (s := s) HRL.out.1 HRL.out.2)
        have HNX : Hid (∀ w', Calls Try.prog 36 #[.agg (sv s.st).toArray, .agg #[.int .i64 (RM.go s.st (RM.bg r) (l.map (RM.wf s.ws))).fl, .int .i64 (RM.go s.st (RM.bg r) (l.map (RM.wf s.ws))).he, .int .i64 (RM.go s.st (RM.bg r) (l.map (RM.wf s.ws))).le], .int .i64 g] w' fun e w'' => e = .returned (.agg #[.int .i64 g, .int .i64 (RM.ar s.st (RM.go s.st (RM.bg r) (l.map (RM.wf s.ws))) g), .int .i64 (RM.ar s.st (RM.go s.st (RM.bg r) (l.map (RM.wf s.ws))) g + RM.dw s.st)]) ∧ Below w'.heap.size w' w'') := fun w' => next_any s.st HZ.out.rt _ hok hle g HX.out.2.2.2.1 HX.out.2.2.2.2 w'
        rw [hbt, if_pos rfl] at HOS
        have HT2 : Hid (eml (RM.opk s.st s.ws s.cs p g m k (c + 1)) = min t (RM.ar s.st (RM.go s.st (RM.bg r) (l.map (RM.wf s.ws))) g)) := by
          show _ = _
          rw [HOS.out, eml_snoc, ← HT.out]
        clear hbt HOS hall hin ok0 hok hle
        generalize RM.go s.st (RM.bg r) (l.map (RM.wf s.ws)) = a at HJ HNX HT2
        generalize RM.ar s.st a g = T at HNX HT2
        generalize T + RM.dw s.st = L at HNX
        have hcl : c < s.cs.length := hlt
        go_wp2_with fail
        have H15 : Hid (∀ w', Below W2.drew.heap.size W2.drew w' → w'.cell? ⟨b, 15, none⟩ = some (.slice (some ⟨eb, 0, none⟩) s.cs.length s.cs.length)) := fun w' hw => by have := (HG2.out.1.drew.below' hw).c15; rwa [hel] at this
        have HST : Hid (∀ w', Below W2.drew.heap.size W2.drew w' → w'.rangeAt b 0 (sv s.st)) := fun w' hw => (HG2.out.1.drew.below' hw).site
        have HSP : Hid (∀ w', Below W2.drew.heap.size W2.drew w' → w'.rangeAt eb (c * 3) [.int .i64 a.fl, .int .i64 a.he, .int .i64 a.le]) := fun w' hw => (HG2.out.1.drew.below' hw).stop HJ.out
        have HXG : Hid (∀ w', Below W2.drew.heap.size W2.drew w' → w'.cell? ⟨W.heap.size, 0, none⟩ = some (.int .i64 g)) := fun w' hw => by
          rw [cell_of_row _ _ 0 _ _ _ ((hw.block W.heap.size (Array.getElem?_eq_some_iff.1 HG2.out.2.1).1).trans HG2.out.2.1)]; rfl
        refine wp_region_tail 18 (by kernel_rfl) (by kernel_rfl) ?_
        simp only [List.take_succ_cons, List.take_zero, List.drop_succ_cons, List.drop_zero]
        unfold wpCalm
        generalize hK : wpCalm Try.prog _ _ _ _ = K
        unfold Oper.calm
        go_simp
        refine ⟨_, fun _ _ => rfl, ?_⟩
        subst hK
        unfold wpCalm
        generalize hK : wpCalm Try.prog _ _ _ _ = K
        unfold Oper.calm
        go_simp
        refine ⟨_, fun _ _ => rfl, ?_⟩
        subst hK
        unfold wpCalm
        generalize hK : wpCalm Try.prog _ _ _ _ = K
        unfold Oper.calm
        go_simp
        refine ⟨_, fun _ _ => rfl, ?_⟩
        subst hK
        unfold wpCalm
        generalize hK : wpCalm Try.prog _ _ _ _ = K
        unfold Oper.calm
        go_simp
        refine ⟨_, fun _ _ => rfl, ?_⟩
        subst hK
        unfold wpCalm
        generalize hK : wpCalm Try.prog _ _ _ _ = K
        unfold Oper.calm
        go_simp
        refine ⟨_, fun _ _ => rfl, ?_⟩
        subst hK
        unfold wpCalm
        generalize hK : wpCalm Try.prog _ _ _ _ = K
        rw [if_pos (by go_simp)]
        refine calm_load23b _ b s.st rfl rfl HST.out ?_
        go_simp
        subst hK
        unfold wpCalm
        generalize hK : wpCalm Try.prog _ _ _ _ = K
        unfold Oper.calm
        go_simp
        refine ⟨_, fun _ _ => rfl, ?_⟩
        subst hK
        unfold wpCalm
        generalize hK : wpCalm Try.prog _ _ _ _ = K
        unfold Oper.calm
        go_simp
        refine ⟨_, fun _ _ => rfl, ?_⟩
        subst hK
        unfold wpCalm
        generalize hK : wpCalm Try.prog _ _ _ _ = K
        unfold Oper.calm
        go_simp
        refine ⟨_, fun _ _ => rfl, ?_⟩
        subst hK
        unfold wpCalm
        generalize hK : wpCalm Try.prog _ _ _ _ = K
        rw [if_pos (by go_simp)]
        refine calm_loadSE _ _ _ rfl rfl H15.out ?_
        go_simp
        subst hK
        unfold wpCalm
        generalize hK : wpCalm Try.prog _ _ _ _ = K
        unfold Oper.calm
        go_simp
        refine ⟨_, fun _ _ => rfl, ?_⟩
        subst hK
        unfold wpCalm
        generalize hK : wpCalm Try.prog _ _ _ _ = K
        rw [if_pos (by go_simp)]
        refine calm_ixE _ _ rfl rfl rfl hcl ?_
        go_simp
        subst hK
        unfold wpCalm
        generalize hK : wpCalm Try.prog _ _ _ _ = K
        rw [if_pos (by go_simp)]
        refine calm_loadE _ _ _ a rfl rfl HSP.out ?_
        go_simp
        subst hK
        unfold wpCalm
        generalize hK : wpCalm Try.prog _ _ _ _ = K
        unfold Oper.calm
        go_simp
        refine ⟨_, fun _ _ => rfl, ?_⟩
        subst hK
        unfold wpCalm
        generalize hK : wpCalm Try.prog _ _ _ _ = K
        rw [if_pos (by go_simp)]
        refine calm_load3 _ _ _ rfl rfl HXG.out ?_
        go_simp
        subst hK
        unfold wpCalm
        generalize hK : wpCalm Try.prog _ _ _ _ = K
        unfold Oper.calm
        go_simp
        refine ⟨_, fun w' hw => HNX.out w', ?_⟩
        subst hK
        unfold wpCalm
        generalize hK : wpCalm Try.prog _ _ _ _ = K
        rw [if_pos (by go_simp)]
        refine calm_fieldT _ rfl rfl ?_
        go_simp
        subst hK
        unfold wpCalm
        generalize hK : wpCalm Try.prog _ _ _ _ = K
        rw [if_pos (by go_simp)]
        refine calm_min _ _ rfl rfl rfl ?_
        go_simp
        subst hK
        refine wpCalm_nil ?_
        rw [← HT2.out]
        have HT3 : Hid (eml (RM.opk s.st s.ws s.cs p g m k (c + 1)) = eml (RM.opk s.st s.ws s.cs p g m k (c + 1))) := rfl
        generalize hu : eml (RM.opk s.st s.ws s.cs p g m k (c + 1)) = u at HT3 ⊢
        have HU := Hid.intro' hu.symm
        clear hu HT3 HT2
        intro W3 hb3
        have hbd := (Below.refl W2.heap.size W2).drew.trans hb3
        have HG3 : Hid (Bg W3 b eb mb s.st vc vw (asp s s.cs p) f co ∧ W3.heap[W.heap.size]? = some (.cells #[.int .i64 g, .int .i64 (m : Int)] 46 (0, 0)) ∧ Below W.heap.size W W3) := ⟨HG2.out.1.below' hbd, (hbd.block _ (Array.getElem?_eq_some_iff.1 HG2.out.2.1).1).trans HG2.out.2.1, below_class HG2.out.2.2 hbd⟩
        clear hbd hb3 H15 HST HSP HXG HNX HG2
        go_wp2
        go_roundw
        case rel => exact ⟨c + 1, u, by omega, by omega, rfl, by go_num, HU, HG3⟩
        case measure => simp [intOf]; omega
    · have hcz : ¬ (c : Int) < (s.cs.length : Int) := by omega
      have HE : Hid (t = eml (RM.opk s.st s.ws s.cs p g m k s.cs.length)) := by
        show _ = _
        rw [HT.out, show c = s.cs.length by omega]
      go_wp2
      go_ret
      exact ⟨ret_int HE.out, HG.out.2.2⟩
end

end Go.Proofs.Ytkcppidmbojglag
