/- Several texts in one, each with its own head. -/
import Derived.Test.YtagmidolcdefiahPk7
import Derived.Test.YtagmidolcdefiahPk6
/- A beginning: the earliest time of a want, and the least cost. -/
namespace Go.Proofs.Ytagmidolcdefiah
open Go.RowKit
/-- the least of these times, or the limit -/
def eml (l : List Int) : Int := l.foldl min 1099511627776
theorem eml_snoc (l : List Int) (t : Int) : eml (l ++ [t]) = min (eml l) t := by unfold eml; rw [List.foldl_append]; rfl
theorem eml_nil : eml [] = 1099511627776 := rfl
theorem eml_low {l : List Int} (h : ∀ t ∈ l, t ≤ 1099511627776) (hn : l ≠ []) : eml l = RM.low l := by
  cases l with
  | nil => exact absurd rfl hn
  | cons a l =>
    unfold eml RM.low RM.lo
    rw [List.foldl_cons, show min 1099511627776 a = a by have := h a (by simp); omega]; rfl
theorem eml_bd {l : List Int} (h : ∀ t ∈ l, 0 ≤ t) : 0 ≤ eml l ∧ eml l ≤ 1099511627776 := by
  have := RM.fold_min (l := l) (a := 1099511627776)
  refine ⟨?_, this.2.1⟩
  show 0 ≤ l.foldl min 1099511627776
  rcases this.1 with e | e
  · rw [e]; decide
  · exact h _ e
section
variable {W0 : World} {K : Act → Prop} {o : Oper} {a : Act}
theorem calm_fieldT (x : Operand) {f h l : Int} (ho : o.op = .field 86 x 1) (hx : a.eval x = .agg #[.int .i64 f, .int .i64 h, .int .i64 l])
    (hK : K (a.put o.dst (.int .i64 h))) : Oper.calm Try.prog W0 o a K :=
  calm_val _ (fun w hw => by
    have hf : (Instr.field 86 (.agg #[.int .i64 f, .int .i64 h, .int .i64 l]) 1).run Try.prog w = .ok (.int .i64 h) w := by kernel_rfl
    unfold execOp
    simp only [ho, hx, Sem.run_bind, Sem.run_pure, Result.andThen_ok, hf]) hK
theorem calm_min (x y : Operand) {ats : Array TypeId} {t T : Int} (ho : o.op = .call { callee := .builtin .min, args := #[x, y], argTypes := ats }) (hx : a.eval x = .int .i64 t) (hy : a.eval y = .int .i64 T)
    (hK : K (a.put o.dst (.int .i64 (min t T)))) : Oper.calm Try.prog W0 o a K :=
  calm_val _ (fun w hw => by
    have hm : (Builtin.min_ ats o.type #[.int .i64 t, .int .i64 T]).run Try.prog w = .ok (.int .i64 (min t T)) w := by
      have e : min t T = if T < t then T else t := by split <;> omega
      rw [e]; rfl
    unfold execOp
    simp [ho, resolve, invoke, hx, hy, builtin, hm, Result.andThen]) hK
end
section
variable {W : World} {b eb mb : Nat} {s : Sn} {vc vw : Value} {f : Int → Option (Int × Int)} {co : Int} {p : List (List Int)}
set_option maxHeartbeats 4000000 in
theorem earliest_any (h : Bg W b eb mb s.st vc vw (asp s s.cs p) f co) (z : RM.Rz s.st s.ws s.cs) (hcp : s.cs.length = p.length) (hc8 : s.cs.length ≤ 8) (haf : ∀ r ∈ s.cs, r.2 ≤ 1000000) (hpr : ∀ x ∈ p.flatten, 0 ≤ x ∧ x < s.ws.length) (hll : ∀ l ∈ p, l.length ≤ 1000)
    (k m : Nat) (hk : k ≤ s.cs.length) (g : Int) (h0 : 0 ≤ g) (h1 : g < s.st.fl) :
    Calls Try.prog 98 #[.pointer (some ⟨b, 0, none⟩), .int .i64 (k : Int), .agg #[.int .i64 g, .int .i64 (m : Int)]] W fun e w' => e = .returned (.int .i64 (eml (RM.opk s.st s.ws s.cs p g m k s.cs.length))) ∧ Below W.heap.size W w' := by
  have hel : (asp s s.cs p).length = s.cs.length := asp_length hcp
  have hb0 := (Below.refl W.heap.size W).alloc (Nat.le_refl _) (.cells #[.int .i64 g, .int .i64 (m : Int)] 58)
  have HG0 : Hid (Bg (W.alloc (.cells #[.int .i64 g, .int .i64 (m : Int)] 58)) b eb mb s.st vc vw (asp s s.cs p) f co ∧ (W.alloc (.cells #[.int .i64 g, .int .i64 (m : Int)] 58)).heap[W.heap.size]? = some (.cells #[.int .i64 g, .int .i64 (m : Int)] 58 (0, 0)) ∧ Below W.heap.size W (W.alloc (.cells #[.int .i64 g, .int .i64 (m : Int)] 58))) := ⟨h.below' hb0, World.alloc_heap_new W _, hb0⟩
  have HZ := Hid.intro' z
  have HX := Hid.intro' (And.intro haf (And.intro hpr (And.intro hll (And.intro h0 h1))))
  have HCP := Hid.intro' hcp
  have HBD : Hid (∀ c, ∀ t ∈ RM.opk s.st s.ws s.cs p g m k c, 0 ≤ t ∧ t ≤ 80000000) := fun c => RM.ops_bd z hpr haf hll
  clear h hb0 z hcp haf hpr hll h0 h1
  go_enter Try.func98, Try.ntmps98
  go_wp2_with fail
  generalize W.alloc (.cells #[.int .i64 g, .int .i64 (m : Int)] 58) = W1 at HG0 ⊢
  go_loopw [7, 8] (fun tv cv wr => ∃ (c : Nat) (t : Int), k ≤ c ∧ c ≤ s.cs.length ∧ tv = .int .i64 t ∧ cv = .int .i64 (c : Int) ∧ Hid (t = eml (RM.opk s.st s.ws s.cs p g m k c)) ∧ Hid (Bg wr b eb mb s.st vc vw (asp s s.cs p) f co ∧ wr.heap[W.heap.size]? = some (.cells #[.int .i64 g, .int .i64 (m : Int)] 58 (0, 0)) ∧ Below W.heap.size W wr)) (fun _ cv _ => s.cs.length - (intOf cv).toNat)
  case atStart => exact ⟨k, _, Nat.le_refl _, hk, rfl, rfl, by show _ = _; rw [RM.opk_start]; rfl, HG0⟩
  case round =>
    clear HG0
    obtain ⟨c, t, hkc, hcn, rfl, rfl, HT, HG⟩ := hrel
    have c15 := HG.out.1.c15
    rw [hel] at c15
    by_cases hlt : c < s.cs.length
    · have hcz : (c : Int) < (s.cs.length : Int) := by omega
      have w0 : wr.cell? ⟨W.heap.size, 0, none⟩ = some (.int .i64 g) := by rw [cell_of_row _ _ 0 _ _ _ HG.out.2.1]; rfl
      have w1 : wr.cell? ⟨W.heap.size, 1, none⟩ = some (.int .i64 (m : Int)) := by rw [cell_of_row _ _ 1 _ _ _ HG.out.2.1]; rfl
      obtain ⟨r, hr⟩ : ∃ r, s.cs[c]? = some r := ⟨_, List.getElem?_eq_getElem hlt⟩
      obtain ⟨l, hl⟩ : ∃ l, p[c]? = some l := ⟨_, List.getElem?_eq_getElem (by have := HCP.out; omega)⟩
      have HOS := Hid.intro' (RM.opk_succ (s := s.st) (ws := s.ws) (f := g) (m := m) HCP.out hkc hr hl)
      have HH := Hid.intro' (has_any g m c (by omega))
      have HRL := Hid.intro' (And.intro hr hl)
      clear hr hl
      go_wp2_with fail
      refine (HH.out wr).mono ?_
      rintro e W2 ⟨rfl, hb2⟩
      have HG2 : Hid (Bg W2 b eb mb s.st vc vw (asp s s.cs p) f co ∧ W2.heap[W.heap.size]? = some (.cells #[.int .i64 g, .int .i64 (m : Int)] 58 (0, 0)) ∧ Below W.heap.size W W2) := ⟨HG.out.1.below' hb2, (hb2.block _ (Array.getElem?_eq_some_iff.1 HG.out.2.1).1).trans HG.out.2.1, below_class HG.out.2.2 hb2⟩
      clear hb2 HG HH w0 w1 c15
      cases hbt : PM.bt m c with
      | false =>
        have HT2 : Hid (t = eml (RM.opk s.st s.ws s.cs p g m k (c + 1))) := by
          show _ = _
          rw [HOS.out, hbt, if_neg (by simp), List.append_nil, HT.out]
        clear hbt HOS
        go_wp2
        go_roundw
        case rel => exact ⟨c + 1, t, by omega, by omega, rfl, by go_num, HT2, HG2⟩
        case measure => simp [intOf]; omega
      | true =>
        have hall : ∀ x ∈ l, 0 ≤ x ∧ x < s.ws.length := fun x hx => HX.out.2.1 x (List.mem_flatten.2 ⟨l, List.mem_of_getElem? HRL.out.2, hx⟩)
        have hin := HZ.out.inn (l := l) hall
        have ok0 := HZ.out.cr r (List.mem_of_getElem? HRL.out.1)
        have hok := RM.go_ok HZ.out.rt ok0 hin
        have hle : (RM.go s.st (RM.bg r) (l.map (RM.wf s.ws))).le ≤ 100000000 := by
          have g3 := RM.go_le HZ.out.rt ok0 hin
          rw [List.length_map] at g3
          have g7 : (RM.bg r).le = r.2 := rfl
          have := HX.out.1 r (List.mem_of_getElem? HRL.out.1)
          have := HX.out.2.2.1 l (List.mem_of_getElem? HRL.out.2)
          omega
        have HJ := Hid.intro' (asp_get (s := s) HRL.out.1 HRL.out.2)
        have HNX : Hid (∀ w', Calls Try.prog 66 #[.agg (sv s.st).toArray, .agg #[.int .i64 (RM.go s.st (RM.bg r) (l.map (RM.wf s.ws))).fl, .int .i64 (RM.go s.st (RM.bg r) (l.map (RM.wf s.ws))).he, .int .i64 (RM.go s.st (RM.bg r) (l.map (RM.wf s.ws))).le], .int .i64 g] w' fun e w'' => e = .returned (.agg #[.int .i64 g, .int .i64 (RM.ar s.st (RM.go s.st (RM.bg r) (l.map (RM.wf s.ws))) g), .int .i64 (RM.ar s.st (RM.go s.st (RM.bg r) (l.map (RM.wf s.ws))) g + RM.dw s.st)]) ∧ Below w'.heap.size w' w'') := fun w' => next_any s.st HZ.out.rt _ hok hle g HX.out.2.2.2.1 HX.out.2.2.2.2 w'
        rw [hbt, if_pos rfl] at HOS
        have HT2 : Hid (eml (RM.opk s.st s.ws s.cs p g m k (c + 1)) = min t (RM.ar s.st (RM.go s.st (RM.bg r) (l.map (RM.wf s.ws))) g)) := by
          show _ = _
          rw [HOS.out, eml_snoc, ← HT.out]
        clear hbt HOS hall hin ok0 hok hle
        generalize RM.go s.st (RM.bg r) (l.map (RM.wf s.ws)) = a at HJ HNX HT2
        generalize RM.ar s.st a g = T at HNX HT2
        generalize T + RM.dw s.st = L at HNX
        have hcl : c < s.cs.length := hlt
        go_wp2_with fail
        have H15 : Hid (∀ w', Below W2.drew.heap.size W2.drew w' → w'.cell? ⟨b, 15, none⟩ = some (.slice (some ⟨eb, 0, none⟩) s.cs.length s.cs.length)) := fun w' hw => by have := (HG2.out.1.drew.below' hw).c15; rwa [hel] at this
        have HST : Hid (∀ w', Below W2.drew.heap.size W2.drew w' → w'.rangeAt b 0 (sv s.st)) := fun w' hw => (HG2.out.1.drew.below' hw).site
        have HSP : Hid (∀ w', Below W2.drew.heap.size W2.drew w' → w'.rangeAt eb (c * 3) [.int .i64 a.fl, .int .i64 a.he, .int .i64 a.le]) := fun w' hw => (HG2.out.1.drew.below' hw).stop HJ.out
        have HXG : Hid (∀ w', Below W2.drew.heap.size W2.drew w' → w'.cell? ⟨W.heap.size, 0, none⟩ = some (.int .i64 g)) := fun w' hw => by
          rw [cell_of_row _ _ 0 _ _ _ ((hw.block W.heap.size (Array.getElem?_eq_some_iff.1 HG2.out.2.1).1).trans HG2.out.2.1)]; rfl
        refine wp_region_tail 18 (by kernel_rfl) (by kernel_rfl) ?_
        simp only [List.take_succ_cons, List.take_zero, List.drop_succ_cons, List.drop_zero]
        unfold wpCalm
        generalize hK : wpCalm Try.prog _ _ _ _ = K
        unfold Oper.calm
        go_simp
        refine ⟨_, fun _ _ => rfl, ?_⟩
        subst hK
        unfold wpCalm
        generalize hK : wpCalm Try.prog _ _ _ _ = K
        unfold Oper.calm
        go_simp
        refine ⟨_, fun _ _ => rfl, ?_⟩
        subst hK
        unfold wpCalm
        generalize hK : wpCalm Try.prog _ _ _ _ = K
        unfold Oper.calm
        go_simp
        refine ⟨_, fun _ _ => rfl, ?_⟩
        subst hK
        unfold wpCalm
        generalize hK : wpCalm Try.prog _ _ _ _ = K
        unfold Oper.calm
        go_simp
        refine ⟨_, fun _ _ => rfl, ?_⟩
        subst hK
        unfold wpCalm
        generalize hK : wpCalm Try.prog _ _ _ _ = K
        unfold Oper.calm
        go_simp
        refine ⟨_, fun _ _ => rfl, ?_⟩
        subst hK
        unfold wpCalm
        generalize hK : wpCalm Try.prog _ _ _ _ = K
        rw [if_pos (by go_simp)]
        refine calm_load23b _ b s.st rfl rfl HST.out ?_
        go_simp
        subst hK
        unfold wpCalm
        generalize hK : wpCalm Try.prog _ _ _ _ = K
        unfold Oper.calm
        go_simp
        refine ⟨_, fun _ _ => rfl, ?_⟩
        subst hK
        unfold wpCalm
        generalize hK : wpCalm Try.prog _ _ _ _ = K
        unfold Oper.calm
        go_simp
        refine ⟨_, fun _ _ => rfl, ?_⟩
        subst hK
        unfold wpCalm
        generalize hK : wpCalm Try.prog _ _ _ _ = K
        unfold Oper.calm
        go_simp
        refine ⟨_, fun _ _ => rfl, ?_⟩
        subst hK
        unfold wpCalm
        generalize hK : wpCalm Try.prog _ _ _ _ = K
        rw [if_pos (by go_simp)]
        refine calm_loadSE _ _ _ rfl rfl H15.out ?_
        go_simp
        subst hK
        unfold wpCalm
        generalize hK : wpCalm Try.prog _ _ _ _ = K
        unfold Oper.calm
        go_simp
        refine ⟨_, fun _ _ => rfl, ?_⟩
        subst hK
        unfold wpCalm
        generalize hK : wpCalm Try.prog _ _ _ _ = K
        rw [if_pos (by go_simp)]
        refine calm_ixE _ _ rfl rfl rfl hcl ?_
        go_simp
        subst hK
        unfold wpCalm
        generalize hK : wpCalm Try.prog _ _ _ _ = K
        rw [if_pos (by go_simp)]
        refine calm_loadE _ _ _ a rfl rfl HSP.out ?_
        go_simp
        subst hK
        unfold wpCalm
        generalize hK : wpCalm Try.prog _ _ _ _ = K
        unfold Oper.calm
        go_simp
        refine ⟨_, fun _ _ => rfl, ?_⟩
        subst hK
        unfold wpCalm
        generalize hK : wpCalm Try.prog _ _ _ _ = K
        rw [if_pos (by go_simp)]
        refine calm_load3 _ _ _ rfl rfl HXG.out ?_
        go_simp
        subst hK
        unfold wpCalm
        generalize hK : wpCalm Try.prog _ _ _ _ = K
        unfold Oper.calm
        go_simp
        refine ⟨_, fun w' hw => HNX.out w', ?_⟩
        subst hK
        unfold wpCalm
        generalize hK : wpCalm Try.prog _ _ _ _ = K
        rw [if_pos (by go_simp)]
        refine calm_fieldT _ rfl rfl ?_
        go_simp
        subst hK
        unfold wpCalm
        generalize hK : wpCalm Try.prog _ _ _ _ = K
        rw [if_pos (by go_simp)]
        refine calm_min _ _ rfl rfl rfl ?_
        go_simp
        subst hK
        refine wpCalm_nil ?_
        rw [← HT2.out]
        have HT3 : Hid (eml (RM.opk s.st s.ws s.cs p g m k (c + 1)) = eml (RM.opk s.st s.ws s.cs p g m k (c + 1))) := rfl
        generalize hu : eml (RM.opk s.st s.ws s.cs p g m k (c + 1)) = u at HT3 ⊢
        have HU := Hid.intro' hu.symm
        clear hu HT3 HT2
        intro W3 hb3
        have hbd := (Below.refl W2.heap.size W2).drew.trans hb3
        have HG3 : Hid (Bg W3 b eb mb s.st vc vw (asp s s.cs p) f co ∧ W3.heap[W.heap.size]? = some (.cells #[.int .i64 g, .int .i64 (m : Int)] 58 (0, 0)) ∧ Below W.heap.size W W3) := ⟨HG2.out.1.below' hbd, (hbd.block _ (Array.getElem?_eq_some_iff.1 HG2.out.2.1).1).trans HG2.out.2.1, below_class HG2.out.2.2 hbd⟩
        clear hbd hb3 H15 HST HSP HXG HNX HG2
        go_wp2
        go_roundw
        case rel => exact ⟨c + 1, u, by omega, by omega, rfl, by go_num, HU, HG3⟩
        case measure => simp [intOf]; omega
    · have hcz : ¬ (c : Int) < (s.cs.length : Int) := by omega
      have HE : Hid (t = eml (RM.opk s.st s.ws s.cs p g m k s.cs.length)) := by
        show _ = _
        rw [HT.out, show c = s.cs.length by omega]
      go_wp2
      go_ret
      exact ⟨ret_int HE.out, HG.out.2.2⟩
end
end Go.Proofs.Ytagmidolcdefiah

/- A beginning: what the plans cost at least that begin so, as the program reckons it. -/
namespace Go.Proofs.Ytagmidolcdefiah
open Go.RowKit
/-- the wants that are left -/
def lfm (s : Sn) (st : List Bool) (j : Int) : Option (Int × Int) := if 0 ≤ j ∧ st[j.toNat]? = some false then s.ws[j.toNat]? else none
/-- the least cost, as far as the first j wants are looked at -/
def lsk (s : Sn) (k : Nat) (p : List (List Int)) (st : List Bool) (j : Nat) : Int :=
  if ((lfk st j).all fun x => !(optw s k p x.toNat).isEmpty) = true then RM.cst s.st s.ws s.cs p + ((lfk st j).map fun x => RM.low (optw s k p x.toNat)).sum else 1099511627776
section
variable {s : Sn} {k : Nat} {p : List (List Int)} {st : List Bool}
theorem lsk_zero : lsk s k p st 0 = RM.cst s.st s.ws s.cs p := by unfold lsk lfk; simp
theorem lsk_end : lsk s k p st s.ws.length = lsv s k p st := rfl
theorem lsk_same {j : Nat} (h : st[j]? ≠ some false) : lsk s k p st (j + 1) = lsk s k p st j := by unfold lsk; rw [lfk_succ, if_neg h, List.append_nil]
theorem optw_bd (h : Bs s k p st) (hll : ∀ l ∈ p, l.length ≤ 1000) (w : Nat) : ∀ t ∈ optw s k p w, 0 ≤ t ∧ t ≤ 80000000 := by
  have e : optw s k p w = RM.opk s.st s.ws s.cs p (RM.wf s.ws (w : Int)) ((msk s)[w]?.getD 0) k s.cs.length := by
    unfold optw RM.opt
    rw [RM.opk_end (Nat.le_refl _) (by have := h.pc; omega)]
  rw [e]
  exact RM.ops_bd h.rz h.fr h.af hll
theorem cst_bd (h : Bs s k p st) (hll : ∀ l ∈ p, l.length ≤ 1000) : 0 ≤ RM.cst s.st s.ws s.cs p ∧ RM.cst s.st s.ws s.cs p ≤ 800000000000 := by
  obtain ⟨l, hl⟩ : ∃ l, p[k]? = some l := ⟨_, List.getElem?_eq_getElem h.kl⟩
  obtain ⟨r, hr⟩ : ∃ r, s.cs[k]? = some r := ⟨_, List.getElem?_eq_getElem (by have := h.pc; have := h.kl; omega)⟩
  have := sm2_bd h hll (j := l.length) hr hl
  rw [sm2_end hr hl, sm1_end h] at this
  exact this
theorem lsk_bd (h : Bs s k p st) (hll : ∀ l ∈ p, l.length ≤ 1000) (j : Nat) (hj : j ≤ 128) : 0 ≤ lsk s k p st j ∧ lsk s k p st j ≤ 1099511627776 ∧ (((lfk st j).all fun x => !(optw s k p x.toNat).isEmpty) = true → lsk s k p st j ≤ 900000000000) := by
  have h1 := cst_bd h hll
  unfold lsk
  split
  · rename_i ha
    have h2 := RM.sum_bd (B := 80000000) (l := (lfk st j).map fun x => RM.low (optw s k p x.toNat)) fun t ht => by
      obtain ⟨x, hx, rfl⟩ := List.mem_map.1 ht
      have hne : optw s k p x.toNat ≠ [] := by
        have := List.all_eq_true.1 ha x hx
        intro e
        rw [e] at this
        simp at this
      exact optw_bd h hll _ _ (RM.low_mem hne).1
    rw [List.length_map] at h2
    have h3 := lfk_length st j
    omega
  · rename_i ha
    exact ⟨by decide, by decide, fun g => absurd g ha⟩
theorem lsk_more (h : Bs s k p st) (hll : ∀ l ∈ p, l.length ≤ 1000) {j : Nat} (hj : j < 128) (hs : st[j]? = some false) : NumM.cl (NumM.cl (lsk s k p st j) + NumM.cl (eml (optw s k p j))) = lsk s k p st (j + 1) := by
  have hb := lsk_bd h hll j (by omega)
  have ho := optw_bd h hll j
  have he := eml_bd fun t ht => (ho t ht).1
  rw [NumM.cl_in (a := lsk s k p st j) (by omega) (by omega), NumM.cl_in (a := eml _) (by omega) (by omega)]
  have e1 : lfk st (j + 1) = lfk st j ++ [(j : Int)] := by rw [lfk_succ, if_pos hs]
  by_cases ha : ((lfk st j).all fun x => !(optw s k p x.toNat).isEmpty) = true
  · by_cases hn : optw s k p j = []
    · rw [hn, eml_nil, NumM.cl_ge (by omega)]
      unfold lsk
      rw [e1, if_neg]
      rw [List.all_append]
      simp [hn]
    · have hl := eml_low (fun t ht => by have := (ho t ht).2; omega) hn
      have hlb := ho _ (RM.low_mem hn).1
      rw [hl, NumM.cl_in (by have := hb.2.2 ha; omega) (by have := hb.2.2 ha; omega)]
      unfold lsk
      have ha2 : ((lfk st (j + 1)).all fun x => !(optw s k p x.toNat).isEmpty) = true := by
        rw [e1, List.all_append, ha]
        simp [hn]
      rw [if_pos ha, if_pos ha2, e1, List.map_append, List.sum_append]
      simp
      omega
  · have h1 : lsk s k p st j = 1099511627776 := by unfold lsk; rw [if_neg ha]
    have h2 : lsk s k p st (j + 1) = 1099511627776 := by
      unfold lsk
      rw [e1, if_neg]
      rw [List.all_append]
      simp [ha]
    rw [h1, h2, NumM.cl_ge (by omega)]
end
section
variable {W : World} {b eb mb : Nat} {s : Sn} {vc vw : Value} {p : List (List Int)} {st : List Bool}
set_option maxHeartbeats 4000000 in
theorem leastm_any (k : Nat) (hB : Bs s k p st) (aw : Option Addr) (kw : Nat) (h : Bg W b eb mb s.st vc (.slice aw s.ws.length kw) (asp s s.cs p) (lfm s st) (RM.cst s.st s.ws s.cs p)) (hll : ∀ l ∈ p, l.length ≤ 1000) :
    Calls Try.prog 90 #[.pointer (some ⟨b, 0, none⟩), .int .i64 (k : Int)] W fun e w' => e = .returned (.int .i64 (lsv s k p st)) ∧ Below W.heap.size W w' := by
  have c17 := h.c17
  have c14 := h.c14
  have HG0 : Hid (Bg W b eb mb s.st vc (.slice aw s.ws.length kw) (asp s s.cs p) (lfm s st) (RM.cst s.st s.ws s.cs p) ∧ Below W.heap.size W W) := ⟨h, Below.refl _ _⟩
  have HB := Hid.intro' hB
  have HLL := Hid.intro' hll
  have hwl : s.ws.length ≤ 128 := hB.wl
  generalize hT : lsv s k p st = T
  have HTT := Hid.intro' hT
  obtain ⟨ct, HCT⟩ : ∃ ct, Hid (RM.cst s.st s.ws s.cs p = ct) := ⟨_, Hid.intro' rfl⟩
  rw [HCT.out] at c17 HG0
  clear h hB hll hT
  go_enter Try.func90, Try.ntmps90
  go_wp2_with fail
  clear c17 c14
  go_loopw [5, 19] (fun tv jv wr => ∃ (j : Nat) (t : Int), j ≤ s.ws.length ∧ tv = .int .i64 t ∧ jv = .int .i64 (j : Int) ∧ Hid (t = lsk s k p st j) ∧ Hid (Bg wr b eb mb s.st vc (.slice aw s.ws.length kw) (asp s s.cs p) (lfm s st) ct ∧ Below W.heap.size W wr)) (fun _ jv _ => s.ws.length - (intOf jv).toNat)
  case atStart => exact ⟨0, ct, Nat.zero_le _, rfl, rfl, by show _ = _; rw [lsk_zero, HCT.out], HG0⟩
  case round =>
    clear HG0
    obtain ⟨j, t, hj, rfl, rfl, HT, HG⟩ := hrel
    by_cases hlt : j < s.ws.length
    · have hjz : (j : Int) < (s.ws.length : Int) := by omega
      have c16 := HG.out.1.c16
      obtain ⟨y, hy⟩ : ∃ y, s.ws[j]? = some y := ⟨_, List.getElem?_eq_getElem hlt⟩
      obtain ⟨q, hq⟩ : ∃ q, st[j]? = some q := ⟨_, List.getElem?_eq_getElem (by have := HB.out.sl; omega)⟩
      have hlk := HG.out.1.hm.look (j : Int)
      cases q with
      | true =>
        rw [show lfm s st (j : Int) = none by unfold lfm; rw [if_neg]; rw [Int.toNat_natCast, hq]; simp] at hlk
        have hlk2 : (Instr.lookup 174 (.map (some mb)) (.int .i64 (j : Int)) true).run Try.prog wr = .ok (.tuple #[.agg #[.int .i64 0, .int .i64 0], .bool false]) wr := hlk
        have HT2 : Hid (t = lsk s k p st (j + 1)) := by
          show _ = _
          rw [lsk_same (by rw [hq]; simp), HT.out]
        have hba := (Below.refl wr.heap.size wr).alloc (Nat.le_refl _) (.cells #[.int .i64 0, .int .i64 0] 58)
        have HG2 := Hid.intro' (And.intro (HG.out.1.below' hba) (below_class HG.out.2 hba))
        clear hlk hq hy hba HG
        go_wp2
        go_roundw
        case rel => exact ⟨j + 1, t, by omega, rfl, by go_num, HT2, HG2⟩
        case measure => simp [intOf]; omega
      | false =>
        rw [show lfm s st (j : Int) = some y by unfold lfm; rw [if_pos ⟨by omega, by rw [Int.toNat_natCast]; exact hq⟩, Int.toNat_natCast, hy]] at hlk
        obtain ⟨n8, hrs⟩ := rgt_rs HB.out.rg
        obtain ⟨m, hm, hym⟩ := hrs.mm.eq j y hy
        obtain ⟨g, y2⟩ := y
        simp only at hym
        subst hym
        have hlk2 : (Instr.lookup 174 (.map (some mb)) (.int .i64 (j : Int)) true).run Try.prog wr = .ok (.tuple #[.agg #[.int .i64 g, .int .i64 (m : Int)], .bool true]) wr := hlk
        have hba := (Below.refl wr.heap.size wr).alloc (Nat.le_refl _) (.cells #[.int .i64 g, .int .i64 (m : Int)] 58)
        have HG2 := Hid.intro' (And.intro (HG.out.1.below' hba) (below_class HG.out.2 hba))
        have HEA := Hid.intro' (earliest_any HG2.out.1 HB.out.rz HB.out.pc (by have := HB.out.pc; have := HB.out.p8; omega) HB.out.af HB.out.fr HLL.out k m (by have := HB.out.pc; have := HB.out.kl; omega) g (HB.out.rz.wr _ (List.mem_of_getElem? hy)).1 (HB.out.rz.wr _ (List.mem_of_getElem? hy)).2)
        have HOP : Hid (RM.opk s.st s.ws s.cs p g m k s.cs.length = optw s k p j) := by
          show _ = _
          unfold optw RM.opt
          rw [RM.opk_end (Nat.le_refl _) (by have := HB.out.pc; omega), RM.wf_get hy, hm]; rfl
        rw [HOP.out] at HEA
        have HMO := Hid.intro' (lsk_more HB.out HLL.out (by omega) hq)
        rw [← HT.out] at HMO
        obtain ⟨u, HU⟩ : ∃ u, Hid (u = lsk s k p st (j + 1)) := ⟨_, Hid.intro' rfl⟩
        rw [← HU.out] at HMO
        clear hlk hq hy hba HG hrs hm HOP
        generalize eml (optw s k p j) = e1 at HEA HMO
        have HAD : Hid (∀ w', Calls Try.prog 68 #[.int .i64 t, .int .i64 e1] w' fun e w'' => e = .returned (.int .i64 u) ∧ w'' = w') := fun w' => by have := add_any t e1 w'; rw [HMO.out] at this; exact this
        go_wp2_with fail
        refine HEA.out.mono ?_
        rintro e W2 ⟨rfl, hb2⟩
        have HG3 := Hid.intro' (And.intro (HG2.out.1.below' hb2) (below_class HG2.out.2 hb2))
        clear hb2 HG2 HEA c16 hlk2 HMO
        go_wp2_with (go_at_call 68; refine (HAD.out _).mono ?_; rintro e w' ⟨rfl, rfl⟩)
        go_roundw
        case rel => exact ⟨j + 1, u, by omega, rfl, by go_num, HU, HG3⟩
        case measure => simp [intOf]; omega
    · have hjz : ¬ (j : Int) < (s.ws.length : Int) := by omega
      have HE : Hid (t = T) := by
        show _ = _
        rw [← HTT.out, ← lsk_end, HT.out, show j = s.ws.length by omega]
      go_wp2
      go_ret
      exact ⟨ret_int HE.out, HG.out.2⟩
end
end Go.Proofs.Ytagmidolcdefiah

/- The search as the program goes about it, by nodes that wait: mathematics. -/
namespace Go.Proofs.Ytagmidolcdefiah
/-- a node -/
structure Nn where
  k : Nat
  b : List (List Int)
  st : List Bool
/-- how much is behind it at most -/
def Nn.m (n : Nn) : Nat := n.b.length - n.k + PM.lf n.st
/-- a node is visited, with all behind it -/
def vm (s : Sn) (B : Nat) (x : Sx) (n : Nn) : Sx := vis s B n.m n.k n.b n.st x
/-- with one want more; with the next car -/
def grw (n : Nn) (w : Nat) : Nn := ⟨n.k, PM.add n.b n.k (w : Int), n.st.set w true⟩
def nxc (n : Nn) : Nn := ⟨n.k + 1, n.b, n.st⟩
/-- its children in its own list, of the first j wants -/
def chk (s : Sn) (n : Nn) : Nat → List Nn
  | 0 => []
  | j + 1 => chk s n j ++ if n.st[j]? = some false ∧ mayk s n.k (j : Int) = true then [grw n j] else []
def chd (s : Sn) (n : Nn) : List Nn := chk s n s.ws.length ++ if n.k + 1 < n.b.length then [nxc n] else []
/-- what is right of a node -/
def Nn.ok (s : Sn) (n : Nn) : Prop := bgn s (n.k : Int) n.b = some n.st
section
variable {s : Sn} {B : Nat} {n : Nn} {x : Sx}
theorem Nn.ok.grw (h : n.ok s) {w : Nat} (hw : w < s.ws.length) (h1 : n.st[w]? = some false) (h2 : mayk s n.k (w : Int) = true) : (grw n w).ok s := bgn_add h hw h1 h2
theorem Nn.ok.nxc (h : n.ok s) (hk : n.k + 1 < n.b.length) : (nxc n).ok s := bgn_next h hk
theorem Nn.ok.kl (h : n.ok s) : n.k < n.b.length := (bgn_all h).2.2.1
theorem Nn.ok.bl (h : n.ok s) : n.b.length = s.cs.length := (bgn_all h).2.1
theorem Nn.ok.sl (h : n.ok s) : n.st.length = s.ws.length := by rw [(bgn_all h).2.2.2.2.2.1, msk_len]
theorem grw_m (n : Nn) {w : Nat} (h1 : n.st[w]? = some false) : (grw n w).m + 1 = n.m := by
  unfold Nn.m grw
  have := PM.lf_set h1
  have hl : (PM.add n.b n.k (w : Int)).length = n.b.length := by unfold PM.add; rw [List.length_set]
  simp only [hl]
  omega
theorem nxc_m (n : Nn) (h : n.k + 1 < n.b.length) : (nxc n).m + 1 = n.m := by
  unfold Nn.m nxc
  simp only
  omega
theorem kids_chk {f : Nat} (hf : f + 1 = n.m) : ∀ (j : Nat) (x : Sx), kids s (vis s B f) n.k n.b n.st (lfk n.st j) x = (chk s n j).foldl (vm s B) x
  | 0, x => rfl
  | j + 1, x => by
    rw [lfk_succ, kids_append, kids_chk hf j, chk, List.foldl_append]
    generalize (chk s n j).foldl (vm s B) x = y
    by_cases h1 : n.st[j]? = some false
    · rw [if_pos h1]
      by_cases h2 : mayk s n.k (j : Int) = true
      · rw [if_pos ⟨h1, h2⟩]
        show (if mayk s n.k (j : Int) = true then vis s B f n.k (PM.add n.b n.k (j : Int)) (n.st.set (j : Int).toNat true) y else y) = vm s B y (grw n j)
        rw [if_pos h2, Int.toNat_natCast]
        unfold vm
        have := grw_m n h1
        rw [show (grw n j).m = f by omega]; rfl
      · rw [if_neg (fun h => h2 h.2)]
        show (if mayk s n.k (j : Int) = true then vis s B f n.k (PM.add n.b n.k (j : Int)) (n.st.set (j : Int).toNat true) y else y) = y
        rw [if_neg h2]
    · rw [if_neg h1, if_neg (fun h => h1 h.1)]; rfl
theorem vm_ended (h : x.ended = true) (n : Nn) : vm s B x n = x := vis_ended _ _ _ _ _ h
theorem vms_ended (h : x.ended = true) : ∀ (l : List Nn), l.foldl (vm s B) x = x
  | [] => rfl
  | n :: l => by rw [List.foldl_cons, vm_ended h, vms_ended h l]
theorem vm_vst (h : n.ok s) : ∃ f, f + 1 = n.m ∧ vm s B x n = vst s B (vis s B f) n.k n.b n.st x := by
  have := h.kl
  obtain ⟨f, hf⟩ : ∃ f, f + 1 = n.m := ⟨n.m - 1, by unfold Nn.m; omega⟩
  refine ⟨f, hf, ?_⟩
  unfold vm
  rw [← hf]; rfl
theorem vm_full (h : n.ok s) (h1 : x.ended = false) (h2 : x.nodes = B) : vm s B x n = ⟨x.nodes, true, x.plan, x.cost, x.marks⟩ := by
  obtain ⟨f, _, e⟩ := vm_vst (B := B) (x := x) h
  rw [e]; unfold vst
  rw [if_neg (by rw [h1]; simp), if_pos h2]
theorem vm_better (h : n.ok s) (h1 : x.ended = false) (h2 : x.nodes ≠ B) (h3 : lfs s n.st = []) (h4 : RM.cst s.st s.ws s.cs n.b < x.cost) : vm s B x n = ⟨x.nodes + 1, false, n.b, RM.cst s.st s.ws s.cs n.b, x.marks ++ [2]⟩ := by
  obtain ⟨f, _, e⟩ := vm_vst (B := B) (x := x) h
  rw [e]; unfold vst
  rw [if_neg (by rw [h1]; simp), if_neg h2, if_pos h3, if_pos h4]
theorem vm_leaf (h : n.ok s) (h1 : x.ended = false) (h2 : x.nodes ≠ B) (h3 : lfs s n.st = []) (h4 : ¬ RM.cst s.st s.ws s.cs n.b < x.cost) : vm s B x n = ⟨x.nodes + 1, false, x.plan, x.cost, x.marks ++ [2]⟩ := by
  obtain ⟨f, _, e⟩ := vm_vst (B := B) (x := x) h
  rw [e]; unfold vst
  rw [if_neg (by rw [h1]; simp), if_neg h2, if_pos h3, if_neg h4]
theorem vm_cut (h : n.ok s) (h1 : x.ended = false) (h2 : x.nodes ≠ B) (h3 : lfs s n.st ≠ []) (h4 : x.cost ≤ lsv s n.k n.b n.st) : vm s B x n = ⟨x.nodes + 1, false, x.plan, x.cost, x.marks ++ [0]⟩ := by
  obtain ⟨f, _, e⟩ := vm_vst (B := B) (x := x) h
  rw [e]; unfold vst
  rw [if_neg (by rw [h1]; simp), if_neg h2, if_neg h3, if_pos h4]
theorem vm_branch (h : n.ok s) (h1 : x.ended = false) (h2 : x.nodes ≠ B) (h3 : lfs s n.st ≠ []) (h4 : ¬ x.cost ≤ lsv s n.k n.b n.st) : vm s B x n = (chd s n).foldl (vm s B) ⟨x.nodes + 1, false, x.plan, x.cost, x.marks ++ [1]⟩ := by
  obtain ⟨f, hf, e⟩ := vm_vst (B := B) (x := x) h
  rw [e]; unfold vst
  rw [if_neg (by rw [h1]; simp), if_neg h2, if_neg h3, if_neg h4]
  unfold lfs
  rw [kids_chk hf]
  unfold nxt chd
  rw [List.foldl_append]
  split
  · rename_i hk
    have := nxc_m n hk
    rw [List.foldl_cons, List.foldl_nil, vm, show (nxc n).m = f by omega]; rfl
  · rfl
/-- the first node -/
def nd0 (s : Sn) : Nn := ⟨0, List.replicate s.cs.length [], List.replicate s.ws.length false⟩
theorem nd0_ok (hr : rgt s = true) : (nd0 s).ok s := root_bgn hr
theorem fnd_vm : fnd s B = vm s B (root s) (nd0 s) := by
  unfold fnd vm
  have e : (nd0 s).m = s.cs.length + s.ws.length := by
    unfold Nn.m nd0 PM.lf
    simp
  rw [e]; rfl
/-- nothing is left -/
theorem left_nil (h : n.ok s) : lfs s n.st = [] ↔ PM.lf n.st = 0 := by
  rw [← lfs_length h.sl]
  exact List.length_eq_zero_iff.symm
/-- where the car is behind its list -/
def sat (s : Sn) (n : Nn) : RM.Sp := RM.go s.st (RM.bg (s.cs[n.k]?.getD (0, 0))) ((n.b[n.k]?.getD []).map (RM.wf s.ws))
theorem sat_eq {r : Int × Int} {l : List Int} (h1 : s.cs[n.k]? = some r) (h2 : n.b[n.k]? = some l) : sat s n = RM.go s.st (RM.bg r) (l.map (RM.wf s.ws)) := by unfold sat; rw [h1, h2]; rfl
theorem sat_grw (h : n.k < n.b.length) (w : Nat) : sat s (grw n w) = RM.nx s.st (sat s n) (RM.wf s.ws (w : Int)) := by
  unfold sat grw PM.add
  simp only
  rw [List.getElem?_set_self h, Option.getD_some, List.map_append, List.map_cons, List.map_nil, RM.go_snoc]
theorem sat_nxc (h : n.ok s) {r : Int × Int} (hr : s.cs[n.k + 1]? = some r) : sat s (nxc n) = RM.bg r := by
  have hk : n.k + 1 < n.b.length := by rw [h.bl]; exact (List.getElem?_eq_some_iff.1 hr).1
  have hl : n.b[n.k + 1]? = some [] := by
    have e := List.getElem?_eq_getElem hk
    rw [e, (bgn_all h).2.2.2.1 _ _ e (by omega)]
  unfold sat nxc
  simp only
  rw [hr, hl]; rfl
theorem sat_nd0 {r : Int × Int} (hr : s.cs[0]? = some r) : sat s (nd0 s) = RM.bg r := by
  have hk : 0 < s.cs.length := (List.getElem?_eq_some_iff.1 hr).1
  unfold sat nd0
  simp only
  rw [hr, List.getElem?_replicate, if_pos hk]; rfl
end
/- bounds -/
structure Nb (s : Sn) (n : Nn) : Prop where
  bs : Bs s n.k n.b n.st
  ll : ∀ l ∈ n.b, l.length ≤ 128
  sk : RM.Ok s.st (sat s n)
  sl : (sat s n).le ≤ 100000000
  c0 : 0 ≤ RM.cst s.st s.ws s.cs n.b
  c1 : RM.cst s.st s.ws s.cs n.b ≤ 800000000000
section
variable {s : Sn} {n : Nn}
theorem Nn.ok.ll (h : n.ok s) : ∀ l ∈ n.b, l.length ≤ 128 := fun l hl => by
  have ha := bgn_all h
  have hb := bgn_bs h
  obtain ⟨c, hc⟩ := List.getElem?_of_mem hl
  have hnd : l.Nodup := by
    rw [List.nodup_iff_count]
    intro a
    by_cases hm : a ∈ l
    · have hx := PM.okx_iff.1 (ha.2.2.2.2.1 c l hc a hm)
      have := ha.2.2.2.2.2.2 a.toNat (by omega)
      rw [Int.toNat_of_nonneg (by omega)] at this
      have h1 : PM.nb n.st a.toNat ≤ 1 := by unfold PM.nb; split <;> omega
      have h2 : l.count a ≤ n.b.flatten.count a := (List.sublist_flatten_of_mem hl).count_le a
      omega
    · rw [List.count_eq_zero_of_not_mem hm]; omega
  have hsum := RM.sum_sr (n := s.ws.length) (fun _ => 1) hnd (fun x hx => hb.fr x (List.mem_flatten.2 ⟨l, hl, hx⟩))
  have hle := RM.sr_le (n := s.ws.length) (f := fun w => if (w : Int) ∈ l then 1 else 0) (g := fun _ => 1) (fun i _ => by split <;> omega)
  have hone : ∀ m : Nat, RM.sr m (fun _ => 1) = (m : Int) := fun m => by
    induction m with
    | zero => rfl
    | succ m ih => rw [RM.sr, ih]; omega
  have hlen : ∀ m : List Int, (m.map fun _ => (1 : Int)).sum = (m.length : Int) := fun m => by
    induction m with
    | nil => rfl
    | cons a m ih => rw [List.map_cons, List.sum_cons, ih, List.length_cons]; omega
  rw [hlen] at hsum
  rw [hone] at hle
  have := hb.wl
  omega
theorem Nn.ok.nb (h : n.ok s) : Nb s n := by
  have hb := bgn_bs h
  have ll := h.ll
  have hll : ∀ l ∈ n.b, l.length ≤ 1000 := fun l hl => by have := ll l hl; omega
  have hc := cst_bd hb hll
  obtain ⟨l, hl⟩ : ∃ l, n.b[n.k]? = some l := ⟨_, List.getElem?_eq_getElem h.kl⟩
  obtain ⟨r, hr⟩ : ∃ r, s.cs[n.k]? = some r := ⟨_, List.getElem?_eq_getElem (by have := h.kl; have := h.bl; omega)⟩
  have hall : ∀ x ∈ l, 0 ≤ x ∧ x < s.ws.length := fun x hx => hb.fr x (List.mem_flatten.2 ⟨l, List.mem_of_getElem? hl, hx⟩)
  have hin := hb.rz.inn (l := l) hall
  have ok0 := hb.rz.cr r (List.mem_of_getElem? hr)
  refine ⟨hb, ll, ?_, ?_, hc.1, hc.2⟩
  · rw [sat_eq hr hl]; exact RM.go_ok hb.rz.rt ok0 hin
  · rw [sat_eq hr hl]
    have g3 := RM.go_le hb.rz.rt ok0 hin
    rw [List.length_map] at g3
    have g7 : (RM.bg r).le = r.2 := rfl
    have := hb.af r (List.mem_of_getElem? hr)
    have := ll l (List.mem_of_getElem? hl)
    omega
/-- one want more costs its time more -/
theorem cst_grw (h : n.ok s) (w : Nat) : RM.cst s.st s.ws s.cs (grw n w).b = RM.cst s.st s.ws s.cs n.b + RM.ar s.st (sat s n) (RM.wf s.ws (w : Int)) := by
  obtain ⟨l, hl⟩ : ∃ l, n.b[n.k]? = some l := ⟨_, List.getElem?_eq_getElem h.kl⟩
  obtain ⟨r, hr⟩ : ∃ r, s.cs[n.k]? = some r := ⟨_, List.getElem?_eq_getElem (by have := h.kl; have := h.bl; omega)⟩
  have e : (grw n w).b = n.b.set n.k (l ++ [(w : Int)]) := by unfold grw PM.add; simp only; rw [hl]; rfl
  have h1 := RM.cst_set (s := s.st) (ws := s.ws) (l ++ [(w : Int)]) hr hl
  rw [List.map_append, List.map_cons, List.map_nil, RM.tm_snoc, List.sum_append] at h1
  rw [e, sat_eq hr hl]
  simp only [List.sum_cons, List.sum_nil] at h1
  omega
theorem cst_nil0 (s : Sn) : ∀ (n : Nat) (cs : List (Int × Int)), RM.cst s.st s.ws cs (List.replicate n []) = 0
  | 0, cs => by rw [List.replicate_zero, RM.cst_nil]
  | n + 1, [] => rfl
  | n + 1, r :: cs => by rw [List.replicate_succ, RM.cst_cons, cst_nil0 s n cs]; rfl
end
/-- a want alone -/
def one1 (s : Sn) (y : Int × Int) : Sn := ⟨s.st, s.cs, [y]⟩
/-- the least time of a want that a car, or one behind it, serves first of all -/
def alo (s : Sn) (k : Nat) (y : Int × Int) : Int := if k < s.cs.length then lsv (one1 s y) k (List.replicate s.cs.length []) [false] else 1099511627776
section
variable {s : Sn} {n : Nn}
theorem one1_rgt (h : rgt s = true) {y : Int × Int} (hy : y ∈ s.ws) : rgt (one1 s y) = true := by
  unfold rgt one1 at *
  simp only [Bool.and_eq_true, decide_eq_true_eq, List.all_eq_true] at *
  obtain ⟨⟨⟨⟨h1, h2⟩, h3⟩, h4⟩, h5⟩ := h
  exact ⟨⟨⟨⟨h1, h2⟩, by simp⟩, h4⟩, fun x hx => by simp at hx; subst hx; exact h5 _ hy⟩
theorem one1_bgn (h : rgt s = true) {y : Int × Int} (hy : y ∈ s.ws) {k : Nat} (hk : k < s.cs.length) : bgn (one1 s y) (k : Int) (List.replicate s.cs.length []) = some [false] := by
  have h1 := one1_rgt h hy
  refine bgn_mk h1 (by simp [one1]) (by simpa using hk) (fun c l hl _ => ?_) (fun c l hl x hx => ?_) (by simp [msk, one1]) (fun w hw => ?_)
  · rw [List.getElem?_replicate] at hl; split at hl <;> simp_all
  · rw [List.getElem?_replicate] at hl; split at hl <;> simp_all
  · rw [flat_rep]
    simp [msk, one1] at hw
    subst hw; rfl
/-- where no car is behind it, there is no beginning -/
theorem one1_none {y : Int × Int} {k : Nat} (hk : ¬ k < s.cs.length) : bgn (one1 s y) (k : Int) (List.replicate s.cs.length []) = none := bgn_not fun h => by
  simp [one1] at h
  omega
theorem ops_empty {st : St} {ws ws' : List (Int × Int)} {f : Int} {m : Nat} : ∀ (cs : List (Int × Int)) (b b' : List (List Int)) (k : Nat), b.length = cs.length → b'.length = cs.length → (∀ l ∈ b, l = []) → (∀ l ∈ b', l = []) → RM.ops st ws f m k cs b = RM.ops st ws' f m k cs b'
  | [], b, b', k, h1, h2, _, _ => by
    have e1 : b = [] := List.eq_nil_of_length_eq_zero (by simpa using h1)
    have e2 : b' = [] := List.eq_nil_of_length_eq_zero (by simpa using h2)
    rw [e1, e2]; rfl
  | r :: cs, [], b', k, h1, _, _, _ => by simp at h1
  | r :: cs, l :: b, [], k, _, h2, _, _ => by simp at h2
  | r :: cs, l :: b, l' :: b', k, h1, h2, h3, h4 => by
    have e1 := h3 l (by simp)
    have e2 := h4 l' (by simp)
    subst e1 e2
    have ih := ops_empty (st := st) (ws := ws) (ws' := ws') (f := f) (m := m) cs b b' (k + 1) (by simpa using h1) (by simpa using h2) (fun l hl => h3 l (by simp [hl])) (fun l hl => h4 l (by simp [hl]))
    rw [RM.ops, RM.ops, ih]; rfl
theorem alo_eml (h : rgt s = true) {y : Int × Int} (hy : y ∈ s.ws) (k : Nat) : alo s k y = eml (RM.ops s.st [y] y.1 (y.2.toNat) k (s.cs.drop k) ((List.replicate s.cs.length []).drop k)) := by
  unfold alo
  by_cases hk : k < s.cs.length
  · rw [if_pos hk]
    have hb := bgn_bs (one1_bgn h hy hk)
    have hll : ∀ l ∈ List.replicate s.cs.length ([] : List Int), l.length ≤ 1000 := fun l hl => by rw [List.eq_of_mem_replicate hl]; simp
    have ho := optw_bd hb hll 0
    have hmore := lsk_more hb hll (j := 0) (by omega) rfl
    rw [lsk_zero] at hmore
    have e : optw (one1 s y) k (List.replicate s.cs.length []) 0 = RM.ops s.st [y] y.1 (y.2.toNat) k (s.cs.drop k) ((List.replicate s.cs.length []).drop k) := by
      unfold optw RM.opt msk one1
      rfl
    have he := eml_bd fun t ht => (ho t ht).1
    rw [show RM.cst (one1 s y).st (one1 s y).ws (one1 s y).cs (List.replicate s.cs.length []) = 0 from cst_nil0 (one1 s y) _ _, NumM.cl_in (a := 0) (by omega) (by omega), NumM.cl_in (a := eml _) (by omega) (by omega), NumM.cl_in (by omega) (by omega), Int.zero_add] at hmore
    rw [← e, hmore]; rfl
  · rw [if_neg hk, List.drop_eq_nil_of_le (by omega)]
    cases (List.replicate s.cs.length ([] : List Int)).drop k <;> rfl
theorem eml_cons (a : Int) (l : List Int) : eml (a :: l) = min (eml l) a := by
  unfold eml
  rw [List.foldl_cons]
  have key : ∀ (l : List Int) (x a : Int), l.foldl min (min x a) = min (l.foldl min x) a := fun l => by
    induction l with
    | nil => intro x a; rfl
    | cons c l ih =>
      intro x a
      rw [List.foldl_cons, List.foldl_cons, ← ih]
      congr 1
      omega
  exact key l _ a
/-- the least time of a want that is left: by the car, or by those behind it -/
theorem optw_split (h : n.ok s) {w : Nat} {y : Int × Int} (hy : s.ws[w]? = some y) : eml (optw s n.k n.b w) = if mayk s n.k (w : Int) = true then min (alo s (n.k + 1) y) (RM.ar s.st (sat s n) y.1) else alo s (n.k + 1) y := by
  have hb := bgn_bs h
  obtain ⟨l, hl⟩ : ∃ l, n.b[n.k]? = some l := ⟨_, List.getElem?_eq_getElem h.kl⟩
  have hkc : n.k < s.cs.length := by have := h.kl; have := h.bl; omega
  obtain ⟨r, hr⟩ : ∃ r, s.cs[n.k]? = some r := ⟨_, List.getElem?_eq_getElem hkc⟩
  have hm : (msk s)[w]?.getD 0 = y.2.toNat := by unfold msk; rw [List.getElem?_map, hy]; rfl
  have hmk : mayk s n.k (w : Int) = PM.bt y.2.toNat n.k := by unfold mayk; rw [Int.toNat_natCast, hm]
  have e1 : s.cs.drop n.k = r :: s.cs.drop (n.k + 1) := by rw [List.drop_eq_getElem_cons hkc]; rw [List.getElem?_eq_getElem hkc] at hr; cases hr; rfl
  have e2 : n.b.drop n.k = l :: n.b.drop (n.k + 1) := by rw [List.drop_eq_getElem_cons h.kl]; rw [List.getElem?_eq_getElem h.kl] at hl; cases hl; rfl
  have e3 : RM.ops s.st s.ws y.1 y.2.toNat (n.k + 1) (s.cs.drop (n.k + 1)) (n.b.drop (n.k + 1)) = RM.ops s.st [y] y.1 y.2.toNat (n.k + 1) (s.cs.drop (n.k + 1)) ((List.replicate s.cs.length []).drop (n.k + 1)) := by
    refine ops_empty _ _ _ _ (by rw [List.length_drop, List.length_drop, h.bl]) (by simp) (fun m hm => ?_) (fun m hm => List.eq_of_mem_replicate (List.mem_of_mem_drop hm))
    obtain ⟨i, hi⟩ := List.getElem?_of_mem hm
    rw [List.getElem?_drop] at hi
    exact hb.bh _ m hi (by omega)
  unfold optw RM.opt
  rw [RM.wf_get hy, hm, e1, e2, RM.ops, e3, alo_eml hb.rg (List.mem_of_getElem? hy), hmk, sat_eq hr hl]
  split
  · rw [eml_cons]
  · rfl
end
/-- the times behind each car -/
def bhd (s : Sn) : List (List Int) := (List.range s.cs.length).map fun k => s.ws.map fun y => alo s (k + 1) y
theorem bhd_get (s : Sn) {k : Nat} (hk : k < s.cs.length) : (bhd s)[k]? = some (s.ws.map fun y => alo s (k + 1) y) := by
  unfold bhd
  rw [List.getElem?_map, List.getElem?_range hk]; rfl
theorem bhd_length (s : Sn) : (bhd s).length = s.cs.length := by unfold bhd; simp
end Go.Proofs.Ytagmidolcdefiah

/- What a proof's marks show, node by node: mathematics. No program is named here. -/
namespace Go.Proofs.Ytagmidolcdefiah
/-- the marks of a node's children in its own list are looked at: what is left of them -/
def ckd (s : Sn) (go : Nat → List (List Int) → List Bool → List Nat → Option (List Nat)) (k : Nat) (b : List (List Int)) (st : List Bool) (l : List Int) (x : Option (List Nat)) : Option (List Nat) :=
  l.foldl (fun y w => if mayk s k w = true then y.bind (go k (PM.add b k w) (st.set w.toNat true)) else y) x
/-- and of the next car's -/
def cnx (go : Nat → List (List Int) → List Bool → List Nat → Option (List Nat)) (k : Nat) (b : List (List Int)) (st : List Bool) (x : Option (List Nat)) : Option (List Nat) := if k + 1 < b.length then x.bind (go (k + 1) b st) else x
/-- a node's mark is looked at -/
def cvs (s : Sn) (c : Int) (go : Nat → List (List Int) → List Bool → List Nat → Option (List Nat)) (k : Nat) (b : List (List Int)) (st : List Bool) : List Nat → Option (List Nat)
  | [] => none
  | m :: r =>
    if 2 < m ∨ (m = 1 ∧ lfs s st = []) ∨ (m = 2 ∧ lfs s st ≠ []) then none
    else if m ≠ 1 then (if c ≤ lsv s k b st then some r else none)
    else cnx go k b st (ckd s go k b st (lfs s st) (some r))
def cvi (s : Sn) (c : Int) : Nat → Nat → List (List Int) → List Bool → List Nat → Option (List Nat)
  | 0, _, _, _, _ => none
  | f + 1, k, b, st, r => cvs s c (cvi s c f) k b st r
section
variable {s : Sn} {c : Int} {k : Nat} {b : List (List Int)} {st : List Bool}
theorem ckd_append {go : Nat → List (List Int) → List Bool → List Nat → Option (List Nat)} (l m : List Int) (x : Option (List Nat)) : ckd s go k b st (l ++ m) x = ckd s go k b st m (ckd s go k b st l x) := by
  unfold ckd; rw [List.foldl_append]
theorem ckd_cons {go : Nat → List (List Int) → List Bool → List Nat → Option (List Nat)} (w : Int) (l : List Int) (x : Option (List Nat)) : ckd s go k b st (w :: l) x = ckd s go k b st l (if mayk s k w = true then x.bind (go k (PM.add b k w) (st.set w.toNat true)) else x) := rfl
theorem ckd_none {go : Nat → List (List Int) → List Bool → List Nat → Option (List Nat)} : ∀ (l : List Int), ckd s go k b st l none = none
  | [] => rfl
  | w :: l => by
    rw [ckd_cons]
    show ckd s go k b st l (if mayk s k w = true then none else none) = none
    rw [ite_self]
    exact ckd_none l
theorem cnx_none {go : Nat → List (List Int) → List Bool → List Nat → Option (List Nat)} : cnx go k b st none = none := by
  unfold cnx
  split <;> rfl
theorem cvs_cons (go : Nat → List (List Int) → List Bool → List Nat → Option (List Nat)) (m : Nat) (r : List Nat) : cvs s c go k b st (m :: r) = if 2 < m ∨ (m = 1 ∧ lfs s st = []) ∨ (m = 2 ∧ lfs s st ≠ []) then none
    else if m ≠ 1 then (if c ≤ lsv s k b st then some r else none)
    else cnx go k b st (ckd s go k b st (lfs s st) (some r)) := rfl
/-- what a node's mark 1 asks -/
theorem cvs_one {go : Nat → List (List Int) → List Bool → List Nat → Option (List Nat)} (hl : lfs s st ≠ []) (r : List Nat) : cvs s c go k b st (1 :: r) = cnx go k b st (ckd s go k b st (lfs s st) (some r)) := by
  rw [cvs_cons, if_neg (by simp [hl]), if_neg (by simp)]
/-- a relation that each node keeps -/
theorem ckd_rel {R : List Nat → List Nat → Prop} (h0 : ∀ x, R x x) (ht : ∀ x y z, R x y → R y z → R x z) {go : Nat → List (List Int) → List Bool → List Nat → Option (List Nat)} :
    ∀ (l : List Int), (∀ w ∈ l, ∀ x y, go k (PM.add b k w) (st.set w.toNat true) x = some y → R x y) → ∀ x y, ckd s go k b st l (some x) = some y → R x y
  | [], _, x, y, e => by cases e; exact h0 x
  | w :: l, hg, x, y, e => by
    have ih := ckd_rel h0 ht (go := go) l (fun v hv => hg v (by simp [hv]))
    rw [ckd_cons] at e
    by_cases hm : mayk s k w = true
    · rw [if_pos hm, Option.bind_some] at e
      cases hz : go k (PM.add b k w) (st.set w.toNat true) x with
      | none => rw [hz, ckd_none] at e; cases e
      | some z =>
        rw [hz] at e
        exact ht _ _ _ (hg w (by simp) x z hz) (ih z y e)
    · rw [if_neg hm] at e
      exact ih x y e
theorem cnx_rel {R : List Nat → List Nat → Prop} (h0 : ∀ x, R x x) {go : Nat → List (List Int) → List Bool → List Nat → Option (List Nat)} (hg : ∀ x y, go (k + 1) b st x = some y → R x y) {x y : List Nat} (e : cnx go k b st (some x) = some y) : R x y := by
  unfold cnx at e
  split at e
  · exact hg x y e
  · cases e; exact h0 x
/-- marks behind those of a node change nothing -/
theorem ckd_ext {go : Nat → List (List Int) → List Bool → List Nat → Option (List Nat)} (t : List Nat) (hg : ∀ k b st x y, go k b st x = some y → go k b st (x ++ t) = some (y ++ t)) :
    ∀ (l : List Int) (x y : List Nat), ckd s go k b st l (some x) = some y → ckd s go k b st l (some (x ++ t)) = some (y ++ t)
  | [], x, y, e => by cases e; rfl
  | w :: l, x, y, e => by
    rw [ckd_cons] at e ⊢
    by_cases hm : mayk s k w = true
    · rw [if_pos hm, Option.bind_some] at e ⊢
      cases hz : go k (PM.add b k w) (st.set w.toNat true) x with
      | none => rw [hz, ckd_none] at e; cases e
      | some z =>
        rw [hz] at e
        rw [hg _ _ _ _ _ hz]
        exact ckd_ext t hg l z y e
    · rw [if_neg hm] at e ⊢
      exact ckd_ext t hg l x y e
theorem cvi_ext (t : List Nat) : ∀ (f k : Nat) (b : List (List Int)) (st : List Bool) (x y : List Nat), cvi s c f k b st x = some y → cvi s c f k b st (x ++ t) = some (y ++ t)
  | 0, _, _, _, _, _, e => by cases e
  | f + 1, k, b, st, [], y, e => by cases e
  | f + 1, k, b, st, m :: r, y, e => by
    have ih := cvi_ext t f
    show cvs s c (cvi s c f) k b st (m :: (r ++ t)) = _
    change cvs s c (cvi s c f) k b st (m :: r) = some y at e
    rw [cvs_cons] at e ⊢
    by_cases h1 : 2 < m ∨ (m = 1 ∧ lfs s st = []) ∨ (m = 2 ∧ lfs s st ≠ [])
    · rw [if_pos h1] at e; cases e
    · rw [if_neg h1] at e ⊢
      by_cases h2 : m ≠ 1
      · rw [if_pos h2] at e ⊢
        split at e
        · rename_i h3
          cases e; rw [if_pos h3]
        · cases e
      · rw [if_neg h2] at e ⊢
        cases hz : ckd s (cvi s c f) k b st (lfs s st) (some r) with
        | none => rw [hz, cnx_none] at e; cases e
        | some z =>
          rw [hz] at e
          rw [ckd_ext t (fun k b st x y => ih k b st x y) _ _ _ hz]
          unfold cnx at e ⊢
          split
          · rename_i hk
            rw [if_pos hk] at e
            exact ih _ _ _ _ _ e
          · rename_i hk
            rw [if_neg hk] at e
            cases e; rfl
/-- what is left is the end of what there was, and less -/
def Lft (x y : List Nat) : Prop := ∃ m, x = m ++ y
theorem Lft.refl (x : List Nat) : Lft x x := ⟨[], rfl⟩
theorem Lft.trans {x y z : List Nat} (h : Lft x y) (g : Lft y z) : Lft x z := by
  obtain ⟨m, rfl⟩ := h
  obtain ⟨n, rfl⟩ := g
  exact ⟨m ++ n, by rw [List.append_assoc]⟩
theorem cvi_left : ∀ (f k : Nat) (b : List (List Int)) (st : List Bool) (x y : List Nat), cvi s c f k b st x = some y → Lft x y
  | 0, _, _, _, _, _, e => by cases e
  | f + 1, k, b, st, [], y, e => by cases e
  | f + 1, k, b, st, m :: r, y, e => by
    change cvs s c (cvi s c f) k b st (m :: r) = some y at e
    rw [cvs_cons] at e
    have h0 : Lft (m :: r) r := ⟨[m], rfl⟩
    split at e
    · cases e
    · split at e
      · split at e
        · cases e; exact h0
        · cases e
      · cases hz : ckd s (cvi s c f) k b st (lfs s st) (some r) with
        | none => rw [hz, cnx_none] at e; cases e
        | some z =>
          rw [hz] at e
          exact h0.trans ((ckd_rel Lft.refl (fun _ _ _ h g => h.trans g) _ (fun w _ x y => cvi_left f k _ _ x y) _ _ hz).trans (cnx_rel Lft.refl (fun x y => cvi_left f (k + 1) b st x y) e))
/-- each node takes a mark -/
theorem cvi_less {f k : Nat} {b : List (List Int)} {st : List Bool} {x y : List Nat} (e : cvi s c f k b st x = some y) : y.length < x.length := by
  cases f with
  | zero => cases e
  | succ f =>
    cases x with
    | nil => cases e
    | cons m r =>
      change cvs s c (cvi s c f) k b st (m :: r) = some y at e
      have hr : Lft r y := by
        rw [cvs_cons] at e
        split at e
        · cases e
        · split at e
          · split at e
            · cases e; exact Lft.refl _
            · cases e
          · cases hz : ckd s (cvi s c f) k b st (lfs s st) (some r) with
            | none => rw [hz, cnx_none] at e; cases e
            | some z =>
              rw [hz] at e
              exact (ckd_rel Lft.refl (fun _ _ _ h g => h.trans g) _ (fun w _ x y => cvi_left f k _ _ x y) _ _ hz).trans (cnx_rel Lft.refl (fun x y => cvi_left f (k + 1) b st x y) e)
      obtain ⟨n, rfl⟩ := hr
      simp
      omega
/-- marks that hold cover all plans that begin so -/
theorem cvi_all : ∀ (f : Nat) {k : Nat} {b : List (List Int)} {st : List Bool} (x y : List Nat), bgn s (k : Int) b = some st → cvi s c f k b st x = some y → ∀ {p : List (List Int)}, Fs s p → RM.Beg k b p → c ≤ RM.cst s.st s.ws s.cs p
  | 0, _, _, _, _, _, _, e, _, _, _ => by cases e
  | f + 1, k, b, st, [], y, hb, e, p, hp, hbg => by cases e
  | f + 1, k, b, st, m :: r, y, hb, e, p, hp, hbg => by
    have hkb := (bgn_all hb).2.2.1
    have hls := lsv_le hp hbg hb
    change cvs s c (cvi s c f) k b st (m :: r) = some y at e
    rw [cvs_cons] at e
    split at e
    · cases e
    · rename_i h1
      split at e
      · split at e
        · rename_i h3; omega
        · cases e
      · rename_i h2
        obtain rfl : m = 1 := by omega
        have h3 : lfs s st ≠ [] := fun h => h1 (.inr (.inl ⟨rfl, h⟩))
        have hbl := hbg.len
        obtain ⟨l, hl⟩ : ∃ l, b[k]? = some l := ⟨_, List.getElem?_eq_getElem hkb⟩
        obtain ⟨m, hm⟩ : ∃ m, p[k]? = some m := ⟨_, List.getElem?_eq_getElem (by omega)⟩
        obtain ⟨l2, e2, _, _⟩ := hbg.pre k l m hl hm
        cases hz : ckd s (cvi s c f) k b st (lfs s st) (some r) with
        | none => rw [hz, cnx_none] at e; cases e
        | some z =>
          rw [hz] at e
          cases l2 with
          | nil =>
            rw [List.append_nil] at e2
            rw [e2] at hm
            unfold cnx at e
            by_cases hk1 : k + 1 < b.length
            · rw [if_pos hk1] at e
              exact cvi_all f _ _ (bgn_next hb hk1) e hp (beg_next hbg (by omega) hl hm)
            · exfalso
              have hbp := beg_same hbg (by omega) hl hm
              obtain ⟨w, hw⟩ := List.exists_mem_of_ne_nil _ h3
              obtain ⟨v, rfl, hv, hs⟩ := lfs_mem.1 hw
              refine ((bgn_bs hb).lf v hv).1 hs ?_
              rw [hbp]
              exact List.count_pos_iff.1 (by rw [hp.fz.once v (by rw [hp.ml]; exact hv)]; omega)
          | cons w l3 =>
            rw [e2] at hm
            have hbA := beg_add hbg hl hm
            have hok := hp.fz.ok k _ hm w (by simp)
            obtain ⟨g1, g2, g3⟩ := PM.okx_iff.1 hok
            obtain ⟨v, rfl⟩ : ∃ v : Nat, w = (v : Int) := ⟨w.toNat, by omega⟩
            have hv : v < s.ws.length := by have := hp.ml; omega
            have hnot : (v : Int) ∉ b.flatten := fun hm => by
              have h6 := hbA.sub.count_le (v : Int)
              rw [PM.count_add hkb, if_pos rfl, hp.fz.once v (by rw [hp.ml]; exact hv)] at h6
              have := List.count_pos_iff.2 hm
              omega
            have hs : st[v]? = some false := ((bgn_bs hb).lf v hv).2 hnot
            have hmem : (v : Int) ∈ lfs s st := lfs_mem.2 ⟨v, rfl, hv, hs⟩
            obtain ⟨A, C, hAC⟩ := List.append_of_mem hmem
            have hmy : mayk s k (v : Int) = true := g3
            rw [hAC, ckd_append, ckd_cons, if_pos hmy, Int.toNat_natCast] at hz
            cases ha : ckd s (cvi s c f) k b st A (some r) with
            | none => rw [ha, Option.bind_none, ckd_none] at hz; cases hz
            | some u =>
              rw [ha, Option.bind_some] at hz
              cases hu : cvi s c f k (PM.add b k (v : Int)) (st.set v true) u with
              | none => rw [hu, ckd_none] at hz; cases hz
              | some u' => exact cvi_all f u u' (bgn_add hb hv hs hmy) hu hp hbA
/-- a search's marks hold, for any cost that is no more than its last one -/
def Mrk (c : Int) (g : List Nat → Option (List Nat)) (x y : Sx) : Prop := y.ended = false → x.ended = false ∧ ∃ M : List Nat, y.marks = x.marks ++ M ∧ y.nodes = x.nodes + M.length ∧ (c ≤ y.cost → ∀ t, g (M ++ t) = some t)
theorem kids_mk {B f : Nat} : ∀ (l : List Int), (∀ w ∈ l, mayk s k w = true → ∀ x, Mrk c (cvi s c f k (PM.add b k w) (st.set w.toNat true)) x (vis s B f k (PM.add b k w) (st.set w.toNat true) x)) → ∀ (x : Sx), Mrk c (fun r => ckd s (cvi s c f) k b st l (some r)) x (kids s (vis s B f) k b st l x)
  | [], _, x => fun h => ⟨h, [], by simp [kids], by simp [kids], fun _ t => rfl⟩
  | w :: l, ih, x => fun h => by
    have ihl := kids_mk l (fun v hv => ih v (by simp [hv]))
    have hkc : kids s (vis s B f) k b st (w :: l) x = kids s (vis s B f) k b st l (if mayk s k w = true then vis s B f k (PM.add b k w) (st.set w.toNat true) x else x) := rfl
    rw [hkc] at h ⊢
    by_cases hm : mayk s k w = true
    · rw [if_pos hm] at h ⊢
      obtain ⟨h1, M1, e1, n1, g1⟩ := ihl _ h
      obtain ⟨h2, M2, e2, n2, g2⟩ := ih w (by simp) hm x h1
      have hd : Dn (vis s B f k (PM.add b k w) (st.set w.toNat true) x) (kids s (vis s B f) k b st l (vis s B f k (PM.add b k w) (st.set w.toNat true) x)) := kids_rel (s := s) (R := Dn) Dn.refl (fun _ _ _ h g => h.trans g) l (fun w _ _ y => vis_dn f k _ _ y) _
      refine ⟨h2, M2 ++ M1, by rw [e1, e2, List.append_assoc], by rw [n1, n2, List.length_append, Nat.add_assoc], fun hc t => ?_⟩
      show ckd s (cvi s c f) k b st (w :: l) (some (M2 ++ M1 ++ t)) = some t
      rw [ckd_cons, if_pos hm, Option.bind_some, List.append_assoc, g2 (Int.le_trans hc hd.1)]
      exact g1 hc t
    · rw [if_neg hm] at h ⊢
      obtain ⟨h1, M1, e1, n1, g1⟩ := ihl _ h
      refine ⟨h1, M1, e1, n1, fun hc t => ?_⟩
      show ckd s (cvi s c f) k b st (w :: l) (some (M1 ++ t)) = some t
      rw [ckd_cons, if_neg hm]
      exact g1 hc t
theorem vis_mk {B : Nat} : ∀ (f k : Nat) (b : List (List Int)) (st : List Bool) (x : Sx), b.length - k + PM.lf st ≤ f → k < b.length → Mrk c (cvi s c f k b st) x (vis s B f k b st x)
  | 0, k, b, st, x, hf, hk => by omega
  | f + 1, k, b, st, x, hf, hk => fun h => by
    have h : (vst s B (vis s B f) k b st x).ended = false := h
    show x.ended = false ∧ ∃ M : List Nat, (vst s B (vis s B f) k b st x).marks = x.marks ++ M ∧ (vst s B (vis s B f) k b st x).nodes = x.nodes + M.length ∧ (c ≤ (vst s B (vis s B f) k b st x).cost → ∀ t, cvs s c (cvi s c f) k b st (M ++ t) = some t)
    unfold vst at h ⊢
    by_cases h1 : x.ended = true
    · rw [if_pos h1, h1] at h; cases h
    · have h1' : x.ended = false := by cases e : x.ended with | false => rfl | true => exact absurd e h1
      refine ⟨h1', ?_⟩
      rw [if_neg h1] at h ⊢
      by_cases h2 : x.nodes = B
      · rw [if_pos h2] at h; cases h
      · rw [if_neg h2] at h ⊢
        by_cases h3 : lfs s st = []
        · rw [if_pos h3] at h ⊢
          have hls := lsv_leaf (k := k) (b := b) h3
          have step : ∀ t, c ≤ RM.cst s.st s.ws s.cs b → cvs s c (cvi s c f) k b st ([2] ++ t) = some t := fun t hc => by
            show cvs s c (cvi s c f) k b st (2 :: t) = some t
            rw [cvs_cons, if_neg (by simp [h3]), if_pos (by simp), if_pos (by rw [hls]; exact hc)]
          by_cases h4 : RM.cst s.st s.ws s.cs b < x.cost
          · rw [if_pos h4] at h ⊢
            exact ⟨[2], rfl, rfl, fun hc t => step t hc⟩
          · rw [if_neg h4] at h ⊢
            exact ⟨[2], rfl, rfl, fun hc t => step t (by have hc : c ≤ x.cost := hc; omega)⟩
        · rw [if_neg h3] at h ⊢
          by_cases h5 : x.cost ≤ lsv s k b st
          · rw [if_pos h5] at h ⊢
            refine ⟨[0], rfl, rfl, fun hc t => ?_⟩
            have hc : c ≤ x.cost := hc
            show cvs s c (cvi s c f) k b st (0 :: t) = some t
            rw [cvs_cons, if_neg (by simp), if_pos (by simp), if_pos (by omega)]
          · rw [if_neg h5] at h ⊢
            have hk1 := kids_mk (s := s) (c := c) (k := k) (b := b) (st := st) (B := B) (f := f) (lfs s st) (fun w hw hm y => by
              obtain ⟨v, rfl, hv, hs⟩ := lfs_mem.1 hw
              have hlf := PM.lf_set hs
              have hlen : (PM.add b k (v : Int)).length = b.length := by unfold PM.add; rw [List.length_set]
              rw [Int.toNat_natCast]
              exact vis_mk f k _ _ y (by rw [hlen]; omega) (by rw [hlen]; exact hk)) ⟨x.nodes + 1, false, x.plan, x.cost, x.marks ++ [1]⟩
            generalize hz : kids s (vis s B f) k b st (lfs s st) ⟨x.nodes + 1, false, x.plan, x.cost, x.marks ++ [1]⟩ = z at h hk1 ⊢
            unfold nxt at h ⊢
            by_cases hk2 : k + 1 < b.length
            · rw [if_pos hk2] at h ⊢
              obtain ⟨g1, M1, e1, n1, c1⟩ := vis_mk f (k + 1) b st z (by omega) hk2 h
              obtain ⟨g2, M2, e2, n2, c2⟩ := hk1 g1
              have hd := vis_dn (s := s) (B := B) f (k + 1) b st z
              refine ⟨1 :: (M2 ++ M1), ?_, ?_, fun hc t => ?_⟩
              · rw [e1, e2]; simp
              · rw [n1, n2]; simp; omega
              · show cvs s c (cvi s c f) k b st (1 :: (M2 ++ M1 ++ t)) = some t
                have c2 := c2 (Int.le_trans hc hd.1) (M1 ++ t)
                have c2 : ckd s (cvi s c f) k b st (lfs s st) (some (M2 ++ (M1 ++ t))) = some (M1 ++ t) := c2
                rw [cvs_one h3, List.append_assoc, c2]
                unfold cnx
                rw [if_pos hk2, Option.bind_some]
                exact c1 hc t
            · rw [if_neg hk2] at h ⊢
              obtain ⟨g2, M2, e2, n2, c2⟩ := hk1 h
              refine ⟨1 :: M2, ?_, ?_, fun hc t => ?_⟩
              · rw [e2]; simp
              · rw [n2]; simp; omega
              · show cvs s c (cvi s c f) k b st (1 :: (M2 ++ t)) = some t
                have c2 : ckd s (cvi s c f) k b st (lfs s st) (some (M2 ++ t)) = some t := c2 hc t
                rw [cvs_one h3, c2]
                unfold cnx
                rw [if_neg hk2]
end
end Go.Proofs.Ytagmidolcdefiah

/- What a check goes by: where all cars are at a node. Mathematics. -/
namespace Go.Proofs.Ytagmidolcdefiah
section
variable {s : Sn} {n : Nn}
theorem asp_set : ∀ {cs : List (Int × Int)} {b : List (List Int)} {k : Nat} {r : Int × Int} (l' : List Int), cs[k]? = some r → k < b.length → asp s cs (b.set k l') = (asp s cs b).set k (RM.go s.st (RM.bg r) (l'.map (RM.wf s.ws)))
  | [], _, _, _, _, h, _ => by simp at h
  | _ :: _, [], _, _, _, _, h => by simp at h
  | _ :: _, _ :: _, 0, _, _, h, _ => by cases h; rfl
  | _ :: cs, l :: b, k + 1, r, l', h, hk => by
    rw [List.set_cons_succ, asp, asp, List.set_cons_succ, asp_set l' (by simpa using h) (by simpa using hk)]
/-- where all cars are -/
def wys (s : Sn) (n : Nn) : List RM.Sp := asp s s.cs n.b
theorem wys_length (h : n.ok s) : (wys s n).length = s.cs.length := asp_length h.bl.symm
theorem wys_k (h : n.ok s) : (wys s n)[n.k]? = some (sat s n) := by
  obtain ⟨l, hl⟩ : ∃ l, n.b[n.k]? = some l := ⟨_, List.getElem?_eq_getElem h.kl⟩
  obtain ⟨r, hr⟩ : ∃ r, s.cs[n.k]? = some r := ⟨_, List.getElem?_eq_getElem (by have := h.kl; have := h.bl; omega)⟩
  rw [sat_eq hr hl]
  exact asp_get hr hl
theorem wys_grw (h : n.ok s) (w : Nat) : wys s (grw n w) = (wys s n).set n.k (RM.nx s.st (sat s n) (RM.wf s.ws (w : Int))) := by
  obtain ⟨l, hl⟩ : ∃ l, n.b[n.k]? = some l := ⟨_, List.getElem?_eq_getElem h.kl⟩
  obtain ⟨r, hr⟩ : ∃ r, s.cs[n.k]? = some r := ⟨_, List.getElem?_eq_getElem (by have := h.kl; have := h.bl; omega)⟩
  have e : (grw n w).b = n.b.set n.k (l ++ [(w : Int)]) := by unfold grw PM.add; simp only; rw [hl]; rfl
  unfold wys
  rw [e, asp_set _ hr h.kl, sat_eq hr hl, List.map_append, List.map_cons, List.map_nil, RM.go_snoc]
theorem wys_nxc : wys s (nxc n) = wys s n := rfl
theorem wys_nd0 (s : Sn) : wys s (nd0 s) = s.cs.map RM.bg := asp_empty (by simp [nd0]) fun l hl => List.eq_of_mem_replicate hl
theorem wys_ok (h : n.ok s) {c : Nat} {a : RM.Sp} (ha : (wys s n)[c]? = some a) : RM.Ok s.st a ∧ a.le ≤ 100000000 := by
  have hb := bgn_bs h
  have hc : c < s.cs.length := by rw [← wys_length h]; exact (List.getElem?_eq_some_iff.1 ha).1
  obtain ⟨l, hl⟩ : ∃ l, n.b[c]? = some l := ⟨_, List.getElem?_eq_getElem (by rw [h.bl]; exact hc)⟩
  obtain ⟨r, hr⟩ : ∃ r, s.cs[c]? = some r := ⟨_, List.getElem?_eq_getElem hc⟩
  unfold wys at ha
  rw [asp_get hr hl] at ha
  cases ha
  have hall : ∀ x ∈ l, 0 ≤ x ∧ x < s.ws.length := fun x hx => hb.fr x (List.mem_flatten.2 ⟨l, List.mem_of_getElem? hl, hx⟩)
  have hin := hb.rz.inn (l := l) hall
  have ok0 := hb.rz.cr r (List.mem_of_getElem? hr)
  refine ⟨RM.go_ok hb.rz.rt ok0 hin, ?_⟩
  have g3 := RM.go_le hb.rz.rt ok0 hin
  rw [List.length_map] at g3
  have g7 : (RM.bg r).le = r.2 := rfl
  have := hb.af r (List.mem_of_getElem? hr)
  have := h.ll l (List.mem_of_getElem? hl)
  omega
theorem opk_wys (h : n.ok s) {f : Int} {m c : Nat} {a : RM.Sp} (hk : n.k ≤ c) (ha : (wys s n)[c]? = some a) : RM.opk s.st s.ws s.cs n.b f m n.k (c + 1) = RM.opk s.st s.ws s.cs n.b f m n.k c ++ if PM.bt m c = true then [RM.ar s.st a f] else [] := by
  have hc : c < s.cs.length := by rw [← wys_length h]; exact (List.getElem?_eq_some_iff.1 ha).1
  obtain ⟨l, hl⟩ : ∃ l, n.b[c]? = some l := ⟨_, List.getElem?_eq_getElem (by rw [h.bl]; exact hc)⟩
  obtain ⟨r, hr⟩ : ∃ r, s.cs[c]? = some r := ⟨_, List.getElem?_eq_getElem hc⟩
  unfold wys at ha
  rw [asp_get hr hl] at ha
  cases ha
  exact RM.opk_succ h.bl.symm hk hr hl
/-- the earliest time of a want, as far as the first cars are looked at -/
def ert (s : Sn) (n : Nn) (j c : Nat) : Int := eml (RM.opk s.st s.ws s.cs n.b (RM.wf s.ws (j : Int)) ((msk s)[j]?.getD 0) n.k c)
theorem ert_zero (j : Nat) : ert s n j n.k = 1099511627776 := by unfold ert; rw [RM.opk_start]; rfl
theorem ert_yes (h : n.ok s) {j c : Nat} {a : RM.Sp} (hk : n.k ≤ c) (ha : (wys s n)[c]? = some a) (hm : mayk s c (j : Int) = true) : ert s n j (c + 1) = min (ert s n j c) (RM.ar s.st a (RM.wf s.ws (j : Int))) := by
  unfold ert
  rw [opk_wys h hk ha, if_pos (by unfold mayk at hm; rw [Int.toNat_natCast] at hm; exact hm), eml_snoc]
theorem ert_no (h : n.ok s) {j c : Nat} {a : RM.Sp} (hk : n.k ≤ c) (ha : (wys s n)[c]? = some a) (hm : mayk s c (j : Int) = false) : ert s n j (c + 1) = ert s n j c := by
  unfold ert
  rw [opk_wys h hk ha, if_neg (by unfold mayk at hm; rw [Int.toNat_natCast] at hm; rw [hm]; simp), List.append_nil]
theorem ert_end (h : n.ok s) (j : Nat) : ert s n j s.cs.length = eml (optw s n.k n.b j) := by
  unfold ert optw RM.opt
  rw [RM.opk_end (Nat.le_refl _) (by rw [h.bl]; exact Nat.le_refl _)]
theorem lsk_limit (h : n.ok s) {j : Nat} (hs : n.st[j]? = some false) (hj : j < s.ws.length) (he : eml (optw s n.k n.b j) = 1099511627776) : lsv s n.k n.b n.st = 1099511627776 := by
  have ho := optw_bd h.nb.bs (fun l hl => by have := h.ll l hl; omega) j
  have hn : optw s n.k n.b j = [] := by
    by_cases hn : optw s n.k n.b j = []
    · exact hn
    · rw [eml_low (fun t ht => by have := (ho t ht).2; omega) hn] at he
      have := ho _ (RM.low_mem hn).1
      omega
  unfold lsv
  rw [if_neg]
  intro ha
  have := List.all_eq_true.1 ha (j : Int) (lfk_mem.2 ⟨j, rfl, hj, hs⟩)
  rw [Int.toNat_natCast, hn] at this
  simp at this
/-- as long as each want that is left has a car -/
def Lall (s : Sn) (n : Nn) (j : Nat) : Prop := ((lfk n.st j).all fun x => !(optw s n.k n.b x.toNat).isEmpty) = true
theorem lall_zero : Lall s n 0 := rfl
theorem lall_same {j : Nat} (h : Lall s n j) (hs : n.st[j]? ≠ some false) : Lall s n (j + 1) := by
  unfold Lall at *
  rw [lfk_succ, if_neg hs, List.append_nil]
  exact h
theorem lall_more (h : n.ok s) {j : Nat} (ha : Lall s n j) (hj : j < 128) (hs : n.st[j]? = some false) (he : eml (optw s n.k n.b j) ≠ 1099511627776) : Lall s n (j + 1) ∧ lsk s n.k n.b n.st (j + 1) = lsk s n.k n.b n.st j + eml (optw s n.k n.b j) ∧ 0 ≤ lsk s n.k n.b n.st j ∧ lsk s n.k n.b n.st j ≤ 900000000000 ∧ 0 ≤ eml (optw s n.k n.b j) ∧ eml (optw s n.k n.b j) ≤ 80000000 := by
  have hll : ∀ l ∈ n.b, l.length ≤ 1000 := fun l hl => by have := h.ll l hl; omega
  have ho := optw_bd h.nb.bs hll j
  have hb := lsk_bd h.nb.bs hll j (by omega)
  have hn : optw s n.k n.b j ≠ [] := fun e => he (by rw [e]; rfl)
  have hl := eml_low (fun t ht => by have := (ho t ht).2; omega) hn
  have hlb := ho _ (RM.low_mem hn).1
  have e1 : lfk n.st (j + 1) = lfk n.st j ++ [(j : Int)] := by rw [lfk_succ, if_pos hs]
  have ha2 : Lall s n (j + 1) := by
    unfold Lall at *
    rw [e1, List.all_append, ha]
    simp [hn]
  refine ⟨ha2, ?_, hb.1, hb.2.2 ha, by omega, by omega⟩
  unfold Lall at ha ha2
  rw [hl]
  unfold lsk
  rw [if_pos ha, if_pos ha2, e1, List.map_append, List.sum_append]
  simp
  omega
end
/- what a plan costs, node by node -/
section
variable {s : Sn} {p : List (List Int)}
theorem cut_ok (hp : Fs s p) {k : Nat} (j : Nat) (hk : k < p.length) : ∃ st, Nn.ok s ⟨k, cutp p k j, st⟩ := beg_bgn hp (cutp_beg j hk)
theorem cut_add {k j : Nat} {l : List Int} {x : Int} (hk : k < p.length) (hl : p[k]? = some l) (hj : l[j]? = some x) : cutp p k (j + 1) = PM.add (cutp p k j) k x := by
  unfold PM.add
  rw [cutp_at hk]
  unfold cutp
  rw [List.set_append_right _ _ (by rw [List.length_take]; omega), List.length_take, show k - min k p.length = 0 by omega, List.set_cons_zero, hl, Option.getD_some, Option.getD_some, List.take_add_one, hj]
  rfl
theorem cut_next {k : Nat} {l : List Int} (hk : k + 1 < p.length) (hl : p[k]? = some l) : cutp p k l.length = cutp p (k + 1) 0 := by
  have hlt : k < p.length := by omega
  refine List.ext_getElem? fun c => ?_
  rcases Nat.lt_trichotomy c k with h | h | h
  · rw [cutp_lo hlt h, cutp_lo hk (by omega)]
  · subst h
    rw [cutp_at hlt, cutp_lo hk (by omega), hl, Option.getD_some, List.take_length]
  · by_cases hc : c < p.length
    · rw [cutp_hi hlt h hc]
      by_cases e : c = k + 1
      · subst e
        rw [cutp_at hk, List.take_zero]
      · rw [cutp_hi hk (by omega) hc]
    · rw [List.getElem?_eq_none (by rw [cutp_length _ hlt]; omega), List.getElem?_eq_none (by rw [cutp_length _ hk]; omega)]
theorem cut_zero (hp : 0 < p.length) : cutp p 0 0 = List.replicate p.length [] := by
  unfold cutp
  rw [List.take_zero, List.take_zero, List.nil_append, ← List.replicate_succ, show p.length - (0 + 1) + 1 = p.length by omega]
theorem cut_step (hp : Fs s p) {k j : Nat} {l : List Int} {w : Nat} {st : List Bool} (hk : k < p.length) (hl : p[k]? = some l) (hj : l[j]? = some (w : Int)) (h : Nn.ok s ⟨k, cutp p k j, st⟩) : w < s.ws.length ∧ st[w]? = some false ∧ Nn.ok s (grw ⟨k, cutp p k j, st⟩ w) ∧ (grw ⟨k, cutp p k j, st⟩ w).b = cutp p k (j + 1) := by
  have hadd := cut_add hk hl hj
  have hbA : RM.Beg k (PM.add (cutp p k j) k (w : Int)) p := hadd ▸ cutp_beg (j + 1) hk
  have hok := hp.fz.ok k _ hl (w : Int) (List.mem_of_getElem? hj)
  obtain ⟨g1, g2, g3⟩ := PM.okx_iff.1 hok
  have hv : w < s.ws.length := by have := hp.ml; omega
  have hnot : (w : Int) ∉ (cutp p k j).flatten := fun hm => by
    have h6 := hbA.sub.count_le (w : Int)
    rw [PM.count_add (by rw [cutp_length j hk]; exact hk), if_pos rfl, hp.fz.once w (by rw [hp.ml]; exact hv)] at h6
    have := List.count_pos_iff.2 hm
    omega
  have hs : st[w]? = some false := ((bgn_bs h).lf w hv).2 hnot
  exact ⟨hv, hs, Nn.ok.grw h hv hs g3, hadd.symm⟩
end
end Go.Proofs.Ytagmidolcdefiah

/- A plan that is owned whole: its row, and each list in a block of its own. -/
namespace Go.Proofs.Ytagmidolcdefiah
open Go.RowKit Go.Shelf
structure OW (W : World) (B g : Nat) (us : List Value) (p : List (List Int)) : Prop where
  hl : W.heap[g]? = some (.cells us.toArray 55 (0, 0))
  len : us.length = p.length
  li : ∀ (c : Nat) u l, us[c]? = some u → p[c]? = some l → OI W B u l
  bg : B ≤ g
  ne : ∀ (c : Nat) u, us[c]? = some u → u.ownBlock ≠ some g
  dj : ∀ (c d : Nat) u v k, us[c]? = some u → us[d]? = some v → u.ownBlock = some k → v.ownBlock = some k → c = d
section
variable {W W' : World} {B g : Nat} {us : List Value} {p : List (List Int)}
theorem OW.lt (h : OW W B g us p) : g < W.heap.size := (Array.getElem?_eq_some_iff.1 h.hl).1
theorem OW.next (h : OW W B g us p) (hb : Below W.heap.size W W') : OW W' B g us p :=
  ⟨(hb.block g h.lt).trans h.hl, h.len, fun c u l hu hl => (h.li c u l hu hl).below' hb, h.bg, h.ne, h.dj⟩
theorem OW.mono {B' : Nat} (h : OW W B g us p) (hB : B' ≤ B) : OW W B' g us p :=
  ⟨h.hl, h.len, fun c u l hu hl => (h.li c u l hu hl).mono hB, by have := h.bg; omega, h.ne, h.dj⟩
theorem OW.make (W : World) (n : Nat) (hB : B ≤ W.heap.size) : OW (W.alloc (.cells (List.replicate n (Value.slice none 0 0)).toArray 55)) B W.heap.size (List.replicate n (Value.slice none 0 0)) (List.replicate n []) := by
  have hn : ∀ (c : Nat) u, (List.replicate n (Value.slice none 0 0))[c]? = some u → u = Value.slice none 0 0 := fun c u hu => by
    rw [List.getElem?_replicate] at hu
    split at hu
    · cases hu; rfl
    · cases hu
  refine ⟨World.alloc_heap_new W _, by simp, fun c u l hu hl => ?_, hB, fun c u hu => ?_, fun c d u v k hu hv hk _ => ?_⟩
  · rw [hn c u hu]
    rw [List.getElem?_replicate] at hl
    split at hl
    · cases hl; exact OI.nil _ _
    · cases hl
  · rw [hn c u hu]; simp [Value.ownBlock]
  · rw [hn c u hu] at hk; simp [Value.ownBlock] at hk
/-- it is read as a plan -/
theorem OW.rl {D : Nat → Prop} (h : OW W B g us p) (hD : ∀ k, B ≤ k → D k) : RL D W (.slice (some ⟨g, 0, none⟩) p.length p.length) p := by
  refine ⟨_, _, rfl, Nat.le_refl _, (fun e => by cases e), .inr ⟨g, 0, rfl, hD g h.bg, h.lt, fun i l hl => ?_⟩⟩
  have hi : i < p.length := (List.getElem?_eq_some_iff.1 hl).1
  obtain ⟨u, hu⟩ : ∃ u, us[i]? = some u := ⟨_, List.getElem?_eq_getElem (by rw [h.len]; exact hi)⟩
  have ho := h.li i u l hu hl
  exact ⟨u, by rw [Nat.zero_add]; exact (blk_cell h.hl i).trans hu, ho.ri fun k hk => hD k (ho.lt k hk).1⟩
/-- a want is put behind a list -/
theorem OW.add (h : OW W B g us p) {c : Nat} {u u' : Value} {l : List Int} {x : Int} (hu : us[c]? = some u) (hl : p[c]? = some l) (hg : W.grownBy W' u.ownBlock) {q : Nat} (hq : u'.ownBlock = some q) (hor : u.ownBlock = some q ∨ q = W.heap.size) (ho : OI W' B u' (l ++ [x])) : OW (W'.setCell ⟨g, c, none⟩ u') B g (us.set c u') (PM.add p c x) := by
  have hlt := h.lt
  have hcl : c < us.length := (List.getElem?_eq_some_iff.1 hu).1
  have hcp : c < p.length := (List.getElem?_eq_some_iff.1 hl).1
  have hgb : W'.heap[g]? = W.heap[g]? := hg.block g hlt (fun e => h.ne c u hu e.symm)
  have keep : ∀ j, j ≠ g → (W'.setCell ⟨g, c, none⟩ u').heap[j]? = W'.heap[j]? := fun j hj => Below.heap_setCell W' ⟨g, c, none⟩ _ j hj
  have hqg : q ≠ g := fun e => by
    subst e
    rcases hor with e | e
    · exact h.ne c u hu e
    · omega
  have hold : ∀ (d : Nat) v l', d ≠ c → us[d]? = some v → p[d]? = some l' → OI (W'.setCell ⟨g, c, none⟩ u') B v l' := fun d v l' hdc hv hl' => by
    have ho' := h.li d v l' hv hl'
    refine ho'.keep fun k hk => ?_
    rw [keep k (fun e => by subst e; exact h.ne d v hv hk)]
    exact hg.block k (ho'.lt k hk).2 (fun e => hdc (h.dj d c v u k hv hu hk e.symm))
  have hdis : ∀ (d : Nat) v, d ≠ c → us[d]? = some v → v.ownBlock ≠ some q := fun d v hdc hv e => by
    rcases hor with e' | e'
    · exact hdc (h.dj d c v u q hv hu e e')
    · obtain ⟨l', hl'⟩ : ∃ l', p[d]? = some l' := ⟨_, List.getElem?_eq_getElem (by rw [← h.len]; exact (List.getElem?_eq_some_iff.1 hv).1)⟩
      have := ((h.li d v l' hv hl').lt q e).2
      omega
  have hpl : p[c]?.getD [] = l := by rw [hl]; rfl
  refine ⟨blk_set (hgb.trans h.hl) c u', by unfold PM.add; rw [List.length_set, List.length_set]; exact h.len, fun d v l' hv hl' => ?_, h.bg, fun d v hv => ?_, fun d e v v' k hv hv' hk hk' => ?_⟩
  · unfold PM.add at hl'
    by_cases e : c = d
    · subst e
      rw [List.getElem?_set_self hcl] at hv
      rw [List.getElem?_set_self hcp, hpl] at hl'
      cases hv
      cases hl'
      exact ho.keep fun k hk => keep k (fun e => by
        subst e
        rw [hq] at hk
        cases hk
        exact hqg rfl)
    · rw [List.getElem?_set_ne e] at hv hl'
      exact hold d v l' (fun h => e h.symm) hv hl'
  · by_cases e : c = d
    · subst e
      rw [List.getElem?_set_self hcl] at hv
      cases hv
      rw [hq]
      exact fun e => hqg (by cases e; rfl)
    · rw [List.getElem?_set_ne e] at hv
      exact h.ne d v hv
  · by_cases e1 : c = d
    · by_cases e2 : c = e
      · omega
      · subst e1
        rw [List.getElem?_set_self hcl] at hv
        rw [List.getElem?_set_ne e2] at hv'
        cases hv
        rw [hq] at hk
        cases hk
        exact absurd hk' (hdis e v' (fun h => e2 h.symm) hv')
    · by_cases e2 : c = e
      · subst e2
        rw [List.getElem?_set_self hcl] at hv'
        rw [List.getElem?_set_ne e1] at hv
        cases hv'
        rw [hq] at hk'
        cases hk'
        exact absurd hk (hdis d v (fun h => e1 h.symm) hv)
      · rw [List.getElem?_set_ne e1] at hv
        rw [List.getElem?_set_ne e2] at hv'
        exact h.dj d e v v' k hv hv' hk hk'
end
section
variable {s : Sn}
theorem add_max {p : List (List Int)} {c n : Nat} {x : Int} (h : ∀ l ∈ p, l.length ≤ n) : ∀ l ∈ PM.add p c x, l.length ≤ n + 1 := fun l hl => by
  unfold PM.add at hl
  rcases List.mem_or_eq_of_mem_set hl with hl | hl
  · exact Nat.le_succ_of_le (h l hl)
  · subst hl
    rw [List.length_append, List.length_singleton]
    cases hc : p[c]? with
    | none => simp
    | some m =>
      have := h m (List.mem_of_getElem? hc)
      simp only [Option.getD_some]
      omega
theorem ffp_max : ∀ (w : Nat), ∀ l ∈ ffp s w, l.length ≤ w
  | 0, l, hl => by
    have := List.eq_of_mem_replicate (show l ∈ List.replicate s.cs.length [] from hl)
    subst this
    exact Nat.le_refl _
  | w + 1, l, hl => add_max (ffp_max w) l hl
theorem tend_at {p : List (List Int)} {w : Int} {c : Nat} {r : Int × Int} {l : List Int} (hr : s.cs[c]? = some r) (hl : p[c]? = some l) : tend s p w c = RM.ar s.st (RM.go s.st (RM.bg r) (l.map (RM.wf s.ws))) (RM.wf s.ws w) := by
  unfold tend; rw [hr, hl]; rfl
theorem fcar_no {p : List (List Int)} {w : Int} {c : Nat} (h : mayk s c w = false) : fcar s p w (c + 1) = fcar s p w c := by
  show (if _ then _ else _) = _
  rw [if_neg (fun h' => by rw [h] at h'; cases h'.1)]
theorem fcar_yes {p : List (List Int)} {w : Int} {c : Nat} (h : mayk s c w = true) (h2 : (fcar s p w c).1 < 0 ∨ tend s p w c < (fcar s p w c).2) : fcar s p w (c + 1) = ((c : Int), tend s p w c) := by
  show (if _ then _ else _) = _
  rw [if_pos ⟨h, h2⟩]
theorem fcar_stay {p : List (List Int)} {w : Int} {c : Nat} (h2 : ¬ ((fcar s p w c).1 < 0 ∨ tend s p w c < (fcar s p w c).2)) : fcar s p w (c + 1) = fcar s p w c := by
  show (if _ then _ else _) = _
  rw [if_neg (fun h' => h2 h'.2)]
theorem Pw.fr {w : Nat} {p : List (List Int)} (h : Pw s w p) {c : Nat} {l : List Int} (hl : p[c]? = some l) : ∀ x ∈ l, 0 ≤ x ∧ x < s.ws.length := fun x hx => by
  have h1 := PM.okx_iff.1 (h.ok c l hl x hx)
  have h2 := msk_len s
  omega
end
end Go.Proofs.Ytagmidolcdefiah
