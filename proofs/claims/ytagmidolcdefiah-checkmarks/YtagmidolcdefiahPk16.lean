/- Several texts in one, each with its own head. -/
import Derived.Test.YtagmidolcdefiahPk9
import Derived.Test.YtagmidolcdefiahSlW
/- Rows of nodes, and of numbers, are turned round. -/
namespace Go.Proofs.Ytagmidolcdefiah
open Go.RowKit Go.Shelf
/-- turned round as far as i from either end -/
structure Rvi {α : Type} (M R : List α) (i : Nat) : Prop where
  len : R.length = M.length
  out : ∀ t, t < i ∨ M.length ≤ t + i → R[t]? = M.reverse[t]?
  inn : ∀ t, ¬ (t < i ∨ M.length ≤ t + i) → R[t]? = M[t]?
section
variable {α : Type} {M R : List α} {i : Nat}
theorem Rvi.zero (M : List α) : Rvi M M 0 := ⟨rfl, fun t h => by
  have ht : M.length ≤ t := by omega
  rw [List.getElem?_eq_none ht, List.getElem?_eq_none (by simpa using ht)], fun _ _ => rfl⟩
theorem Rvi.step (h : Rvi M R i) {a b : α} (hi : i + 1 < M.length - i) (ha : M[i]? = some a) (hb : M[M.length - 1 - i]? = some b) : Rvi M ((R.set i b).set (M.length - 1 - i) a) (i + 1) := by
  have hl := h.len
  refine ⟨by rw [List.length_set, List.length_set, hl], fun t ht => ?_, fun t ht => ?_⟩
  · by_cases e1 : M.length - 1 - i = t
    · subst e1
      rw [List.getElem?_set_self (by rw [List.length_set]; omega), List.getElem?_reverse (by omega), show M.length - 1 - (M.length - 1 - i) = i by omega, ha]
    · rw [List.getElem?_set_ne e1]
      by_cases e2 : i = t
      · subst e2
        rw [List.getElem?_set_self (by omega), List.getElem?_reverse (by omega), hb]
      · rw [List.getElem?_set_ne e2]
        exact h.out t (by omega)
  · rw [List.getElem?_set_ne (by omega), List.getElem?_set_ne (by omega)]
    exact h.inn t (by omega)
theorem Rvi.done (h : Rvi M R i) (hi : ¬ i + 1 < M.length - i) : R = M.reverse := List.ext_getElem? fun t => by
  by_cases ht : t < i ∨ M.length ≤ t + i
  · exact h.out t ht
  · rw [h.inn t ht, List.getElem?_reverse (by omega), show M.length - 1 - t = t by omega]
theorem Rvi.at (h : Rvi M R i) {a : α} (hi : i < M.length - i) (ha : M[i]? = some a) : R[i]? = some a := by rw [h.inn i (by omega), ha]
theorem Rvi.at' (h : Rvi M R i) {b : α} (hi : i < M.length - i) (hb : M[M.length - 1 - i]? = some b) : R[M.length - 1 - i]? = some b := by rw [h.inn _ (by omega), hb]
end
section
variable {s : Sn} {W W' : World} {B : Nat} {L : List En}
theorem nrow_set : ∀ (L : List En) (t : Nat) (e : En), t < L.length → (nrow s L).take (t * 136) ++ e.c s ++ (nrow s L).drop (t * 136 + 136) = nrow s (L.set t e)
  | [], t, e, h => by simp at h
  | a :: L, 0, e, _ => by
    rw [List.set_cons_zero, nrow, nrow, Nat.zero_mul, List.take_zero, List.nil_append, Nat.zero_add, List.drop_left' (En.len s a)]
  | a :: L, t + 1, e, h => by
    rw [List.set_cons_succ, nrow, nrow, ← nrow_set L t e (by simpa using h)]
    rw [List.take_append, En.len, List.take_of_length_le (l := a.c s) (by rw [En.len]; omega), show (t + 1) * 136 - 136 = t * 136 by omega, List.drop_append, En.len, show (a.c s).drop ((t + 1) * 136 + 136) = [] from List.drop_eq_nil_iff.2 (by rw [En.len]; omega), List.nil_append, show (t + 1) * 136 + 136 - 136 = t * 136 + 136 by omega]
    simp only [List.append_assoc]
/-- a node is written -/
theorem ON.put {g cap n : Nat} (h : ON s W B (.slice (some ⟨g, 0, none⟩) n cap) L) {t : Nat} (e : En) (ht : t < L.length) : ON s (W.setCells g (t * 136) (e.c s)) B (.slice (some ⟨g, 0, none⟩) n cap) (L.set t e) ∧ Kp (fun k => k = g) W (W.setCells g (t * 136) (e.c s)) ∧ (W.setCells g (t * 136) (e.c s)).heap.size = W.heap.size := by
  have hk : ∀ (vs : List Value) (o : Nat) (w : World), Kp (fun k => k = g) w (w.setCells g o vs) ∧ (w.setCells g o vs).heap.size = w.heap.size := fun vs => by
    induction vs with
    | nil => intro o w; exact ⟨Kp.refl _ w, rfl⟩
    | cons v vs ih =>
      intro o w
      rw [World.setCells]
      have h2 := ih (o + 1) (w.setCell ⟨g, o, none⟩ v)
      exact ⟨((Kp.refl (fun k => k = g) w).set g o v (fun _ => rfl)).trans h2.1 (fun _ _ h => h), by rw [h2.2]; simp [World.setCell]⟩
  refine ⟨?_, hk _ _ _⟩
  rcases h.2 with ⟨h', _⟩ | ⟨g', cap', cur, hv, hb, hg, hc, hm, hs, htk⟩
  · cases h'
  · cases hv
    have hrow : ∀ (vs : List Value) (o : Nat) (w : World) (cu : Array Value), w.heap[g]? = some (.cells cu 97 (0, 0)) → o + vs.length ≤ cu.size → ∃ cu' : Array Value, (w.setCells g o vs).heap[g]? = some (.cells cu' 97 (0, 0)) ∧ cu'.size = cu.size ∧ cu'.toList = cu.toList.take o ++ vs ++ cu.toList.drop (o + vs.length) := fun vs => by
      induction vs with
      | nil => intro o w cu hcu _; exact ⟨cu, hcu, rfl, by simp⟩
      | cons v vs ih =>
        intro o w cu hcu hle
        rw [World.setCells]
        rw [List.length_cons] at hle
        obtain ⟨cu', h1, h2, h3⟩ := ih (o + 1) (w.setCell ⟨g, o, none⟩ v) (cu.setIfInBounds o v) (heap_setCell_same w g o cu _ v hcu) (by simp; omega)
        refine ⟨cu', h1, by simpa using h2, ?_⟩
        rw [h3, Array.toList_setIfInBounds, List.length_cons]
        have ho : o < cu.toList.length := by rw [Array.length_toList]; omega
        rw [List.take_set, List.drop_set_of_lt (by omega), List.take_add_one, List.getElem?_eq_getElem ho]
        rw [List.set_append_right _ _ (by rw [List.length_take]; omega), List.length_take, show o - min o cu.toList.length = 0 by omega]
        simp [Nat.add_assoc, Nat.add_comm 1]
    have hle : t * 136 + 136 ≤ cur.size := by
      rw [hs]
      have : (t + 1) * 136 ≤ cap * 136 := Nat.mul_le_mul_right _ (by omega)
      omega
    obtain ⟨cu', h1, h2, h3⟩ := hrow (e.c s) (t * 136) W cur hg (by rw [En.len]; exact hle)
    refine ⟨by rw [nrow_length], .inr ⟨g, cap, cu', by rw [List.length_set], hb, h1, by rw [List.length_set]; exact hc, hm, by rw [h2]; exact hs, ?_⟩⟩
    rw [List.length_set, h3, En.len]
    have ht2 : t * 136 + 136 ≤ L.length * 136 := by
      have : (t + 1) * 136 ≤ L.length * 136 := Nat.mul_le_mul_right _ (by omega)
      omega
    rw [← nrow_set L t e ht, ← htk]
    have e1 : min (t * 136) cur.toList.length = t * 136 := by rw [Array.length_toList]; omega
    rw [List.take_append, List.take_append, List.take_take, List.length_append, List.length_take, En.len, e1, show min (L.length * 136) (t * 136) = t * 136 by omega]
    rw [List.take_of_length_le (l := e.c s) (by rw [En.len]; omega), List.take_take, show min (t * 136) (L.length * 136) = t * 136 by omega, List.drop_take]
theorem ON.there {g cap n : Nat} (h : ON s W B (.slice (some ⟨g, 0, none⟩) n cap) L) {t : Nat} (ht : t < L.length) : W.there g (t * 136) 136 := fun j hj => by
  obtain ⟨e, he⟩ : ∃ e, L[t]? = some e := ⟨_, List.getElem?_eq_getElem ht⟩
  refine ⟨?_, h.fr _⟩
  obtain ⟨v, hv⟩ : ∃ v, (e.c s)[j]? = some v := ⟨_, List.getElem?_eq_getElem (by rw [En.len]; exact hj)⟩
  rw [h.range he j v hv]; rfl
end
theorem ON.store {s : Sn} {W : World} {B : Nat} {L : List En} {g cap n : Nat} (h : ON s W B (.slice (some ⟨g, 0, none⟩) n cap) L) {t : Nat} (e : En) (ht : t < L.length) : ∃ W', (Instr.storeAt 97 (.pointer (some ⟨g, t * 136, none⟩)) (.agg (e.c s).toArray)).run Try.prog W = .ok () W' ∧ ON s W' B (.slice (some ⟨g, 0, none⟩) n cap) (L.set t e) ∧ Kp (fun k => k = g) W W' := by
  obtain ⟨h1, h2, _⟩ := h.put e ht
  exact ⟨_, run_storeAt_mid W g (t * 136) 97 (e.c s).toArray (by rw [List.size_toArray, En.len]; exact h.there ht) (by rw [List.size_toArray, En.len]; exact infoN) (all_oneCell_toArray (ncl_one _ _ _ _)), h1, h2⟩
theorem ixNo (W : World) {g o n cap j : Nat} (hj : j < n) : (Instr.indexAt 99 (.slice (some ⟨g, o, none⟩) n cap) (.int .i64 (j : Int))).run Try.prog W = .ok (.pointer (some ⟨g, o + j * 136, none⟩)) W := by
  rw [run_indexAt_slice W 99 _ n cap .i64 j (by kernel_rfl), if_pos ⟨by omega, by omega⟩, show Try.prog.elem 99 = 97 by kernel_rfl, Try.sizeOf97]
  simp only [Result.andThen_ok, Int.toNat_natCast, Addr.add_mid]
theorem wpList_ixN {ops : Array Oper} {rest : List Oper} {op : Oper} {a : Act} {w : World} {Q : Exit → Act → World → Prop} (hgd : Region.wanted op (yielded ops a.tmps) = true) (x y : Operand) (ho : op.op = .indexAddr 99 x y)
    {g f n cap j : Nat} (hx : a.eval x = .slice (some ⟨g, f, none⟩) n cap) (hy : a.eval y = .int .i64 (j : Int)) (hj : j < n)
    (h : wpList Try.prog ops Q rest (a.put op.dst (.pointer (some ⟨g, f + j * 136, none⟩))) w) : wpList Try.prog ops Q (op :: rest) a w :=
  wpList_step fun _ hK => by
    rw [if_pos hgd]
    unfold Oper.wp execOp
    simp only [ho, Sem.run_bind, Sem.run_pure, Result.andThen_ok, hx, hy, ixNo w hj]
    exact hK _ _ h
/-- a node of a row is written -/
theorem wpList_storeR {ops : Array Oper} {rest : List Oper} {op : Oper} {a : Act} {w : World} {Q : Exit → Act → World → Prop} (hgd : op.guard = none) (x y : Operand) (ho : op.op = .store 97 x y)
    {s : Sn} {B g cap n o t : Nat} {L : List En} (e : En) (h : ON s w B (.slice (some ⟨g, 0, none⟩) n cap) L) (ht : t < L.length) (hot : o = t * 136) (hx : a.eval x = .pointer (some ⟨g, o, none⟩)) (hy : a.eval y = .agg (e.c s).toArray)
    (hn : ∀ W', ON s W' B (.slice (some ⟨g, 0, none⟩) n cap) (L.set t e) → Kp (fun k => k = g) w W' → wpList Try.prog ops Q rest (a.put op.dst undef) W') : wpList Try.prog ops Q (op :: rest) a w := by
  subst hot
  refine wpList_store_mid hgd 97 x y ho g (t * 136) (e.c s).toArray hx hy (by rw [List.size_toArray, En.len]; exact h.there ht) (by rw [List.size_toArray, En.len]; exact infoN) (all_oneCell_toArray (ncl_one _ _ _ _)) ?_
  obtain ⟨h1, h2, _⟩ := h.put e ht
  exact hn _ h1 h2
end Go.Proofs.Ytagmidolcdefiah

/- Rows of nodes, and of numbers, are turned round: the program. -/
namespace Go.Proofs.Ytagmidolcdefiah
open Go.RowKit Go.Shelf
theorem wpOp_loadN {ops : Array Oper} {Q : Exit → Act → World → Prop} {i : Nat} {o : Oper} {K : Act → World → Prop} {a : Act} {w : World} (hi : ops[i]? = some o) (hw : Region.wanted o (yielded ops a.tmps) = true) (x : Operand) (ho : o.op = .load 97 x)
    (b f : Nat) (cs : List Value) (hl : cs.length = 136) (hx : a.eval x = .pointer (some ⟨b, f, none⟩)) (hr : w.rangeAt b f cs) (h : K (a.put o.dst (.agg cs.toArray)) w) : wpOp Try.prog ops Q i K a w := by
  unfold wpOp
  rw [hi]
  simp only
  rw [if_pos hw]
  refine .inl ?_
  unfold Oper.wp execOp
  simp only [ho, Sem.run_bind, Sem.run_pure, Result.andThen_ok, hx, loadN w b f cs hl hr]
  exact h
theorem yields_ixN {ops : Array Oper} {o : Oper} {a : Act} (x y : Operand) {g f n cap j : Nat} (ho : o.op = .indexAddr 99 x y) (hx : a.eval x = .slice (some ⟨g, f, none⟩) n cap) (hy : a.eval y = .int .i64 (j : Int)) (hj : j < n) (hw : Region.wanted o (yielded ops a.tmps) = true) : Yields Try.prog ops o (.pointer (some ⟨g, f + j * 136, none⟩)) a :=
  .inl ⟨hw, fun w => by unfold execOp; simp only [ho, hx, hy, Sem.run_bind, Sem.run_pure, Result.andThen_ok, ixNo w hj]⟩
section
variable {s : Sn} {W : World} {B g n cap cap' : Nat} {L M : List En} {a : Option Addr}
/-- what holds while it is turned -/
structure Rq (s : Sn) (W wr : World) (B g n cap : Nat) (L M : List En) (i : Nat) : Prop where
  on : ∃ R, Rvi M R i ∧ ON s wr B (.slice (some ⟨g, 0, none⟩) n cap) (L ++ R)
  kp : Kp (fun k => k = g) W wr
set_option maxRecDepth 100000 in
set_option maxHeartbeats 4000000 in
theorem revN_any (h : ON s W B (.slice (some ⟨g, 0, none⟩) n cap) (L ++ M)) (ha : M ≠ [] → a = some ⟨g, L.length * 136, none⟩) (hM : M.length ≤ 1000000) :
    Calls Try.prog 71 #[.slice a M.length cap'] W fun e w' => (∃ v, e = .returned v) ∧ ON s w' B (.slice (some ⟨g, 0, none⟩) n cap) (L ++ M.reverse) ∧ Kp (fun k => k = g) W w' := by
  have HQ0 : Hid (Rq s W W B g n cap L M 0) := ⟨⟨M, Rvi.zero M, h⟩, Kp.refl _ W⟩
  have HA := Hid.intro' ha
  have hw1 : IntKind.i64.wrap ((M.length : Int) - 1) = (M.length : Int) - 1 := IntWalk.i64_in _ (by omega)
  clear h ha
  go_enter Try.func71, Try.ntmps71
  go_wp2_with fail
  clear hw1
  go_loopw [2, 3] (fun iv jv wr => ∃ (i : Nat), 2 * i ≤ M.length + 1 ∧ iv = .int .i64 (i : Int) ∧ jv = .int .i64 ((M.length : Int) - 1 - (i : Int)) ∧ Hid (Rq s W wr B g n cap L M i)) (fun iv _ _ => M.length - (intOf iv).toNat)
  case atStart => exact ⟨0, by omega, rfl, by simp, HQ0⟩
  case round =>
    clear HQ0
    obtain ⟨i, hi, rfl, rfl, HQ⟩ := hrel
    by_cases hlt : i + 1 < M.length - i
    · have hz : (i : Int) < (M.length : Int) - 1 - (i : Int) := by omega
      have hne : M ≠ [] := fun e => by rw [e] at hlt; simp at hlt
      obtain ⟨j, hj⟩ : ∃ j : Nat, j = M.length - 1 - i := ⟨_, rfl⟩
      have hjz : (M.length : Int) - 1 - (i : Int) = (j : Int) := by omega
      rw [hjz] at hz ⊢
      have e := HA.out hne
      subst e
      obtain ⟨x, hx⟩ : ∃ x, M[i]? = some x := ⟨_, List.getElem?_eq_getElem (by omega)⟩
      obtain ⟨y, hy⟩ : ∃ y, M[M.length - 1 - i]? = some y := ⟨_, List.getElem?_eq_getElem (by omega)⟩
      obtain ⟨⟨R, hR, hO⟩, hK⟩ := HQ.out
      have hjl : j < M.length := by omega
      have hil : i < M.length := by omega
      have HO := Hid.intro' hO
      have HR := Hid.intro' hR
      have HK := Hid.intro' hK
      have HXY := Hid.intro' (And.intro hx (And.intro hy (And.intro hj hlt)))
      have hRx : (L ++ R)[L.length + i]? = some x := by rw [List.getElem?_append_right (by omega), Nat.add_sub_cancel_left]; exact hR.at (by omega) hx
      have hRy : (L ++ R)[L.length + j]? = some y := by rw [List.getElem?_append_right (by omega), Nat.add_sub_cancel_left, hj]; exact hR.at' (by omega) hy
      have HGX : Hid (∀ w', Below wr.drew.heap.size wr.drew w' → w'.rangeAt g (L.length * 136 + i * 136) (x.c s)) := fun w' hw => by
        have := (HO.out.below' ((Below.refl wr.heap.size wr).drew.trans hw)).range hRx
        rwa [Nat.add_mul] at this
      have HGY : Hid (∀ w', Below wr.drew.heap.size wr.drew w' → w'.rangeAt g (L.length * 136 + j * 136) (y.c s)) := fun w' hw => by
        have := (HO.out.below' ((Below.refl wr.heap.size wr).drew.trans hw)).range hRy
        rwa [Nat.add_mul] at this
      have HX8 := Hid.intro' (En.len s x)
      have HY8 := Hid.intro' (En.len s y)
      clear hx hy hO hR hK hRx hRy HQ hne hj hjz
      go_wp2_with fail
      have HO2 := Hid.intro' (HO.out.below' (Below.refl wr.heap.size wr).drew)
      have HK2 := Hid.intro' (HK.out.thenBelow (Below.refl wr.heap.size wr).drew)
      have HR1 : Hid (wr.drew.rangeAt g (L.length * 136 + i * 136) (x.c s)) := HGX.out _ (Below.refl _ _)
      have HR2 : Hid (wr.drew.rangeAt g (L.length * 136 + j * 136) (y.c s)) := HGY.out _ (Below.refl _ _)
      have HL1 : Hid (L.length + i < (L ++ R).length) := by show _ < _; rw [List.length_append, HR.out.len]; omega
      have HE1 : Hid (L.length * 136 + i * 136 = (L.length + i) * 136) := by show _ = _; rw [Nat.add_mul]
      refine wp_region_any (by kernel_rfl) ?_
      change wpAny _ _ _ _ _ _ _ (World.drew _)
      refine wpAny_take (i := 0) rfl (by kernel_rfl) (by kernel_rfl) (by kernel_rfl) (fun _ _ _ h => h) (yields_move _ rfl rfl) ?_
      generalize hK : wpAny Try.prog _ _ _ _ _ = K
      go_simp
      subst hK
      refine wpAny_take (i := 1) rfl (by kernel_rfl) (by kernel_rfl) (by kernel_rfl) (fun _ _ _ h => h) (yields_move _ rfl rfl) ?_
      generalize hK : wpAny Try.prog _ _ _ _ _ = K
      go_simp
      subst hK
      refine wpAny_take (i := 2) rfl (by kernel_rfl) (by kernel_rfl) (by kernel_rfl) (fun _ _ _ h => h) (yields_move _ rfl rfl) ?_
      generalize hK : wpAny Try.prog _ _ _ _ _ = K
      go_simp
      subst hK
      refine wpAny_take (i := 3) rfl (by kernel_rfl) (by kernel_rfl) (by kernel_rfl) (fun _ _ _ h => h) (yields_move _ rfl rfl) ?_
      generalize hK : wpAny Try.prog _ _ _ _ _ = K
      go_simp
      subst hK
      refine wpAny_take (i := 4) rfl (by kernel_rfl) (by kernel_rfl) (by kernel_rfl) (fun _ _ _ h => h) (yields_move _ rfl rfl) ?_
      generalize hK : wpAny Try.prog _ _ _ _ _ = K
      go_simp
      subst hK
      refine wpAny_take (i := 5) rfl (by kernel_rfl) (by kernel_rfl) (by kernel_rfl) (fun _ _ _ h => h) (yields_move _ rfl rfl) ?_
      generalize hK : wpAny Try.prog _ _ _ _ _ = K
      go_simp
      subst hK
      refine wpAny_take (i := 6) rfl (by kernel_rfl) (by kernel_rfl) (by kernel_rfl) (fun _ _ _ h => h) (yields_ixN _ _ rfl rfl rfl hjl rfl) ?_
      generalize hK : wpAny Try.prog _ _ _ _ _ = K
      go_simp
      subst hK
      refine wpAny_take (i := 8) rfl (by kernel_rfl) (by kernel_rfl) (by kernel_rfl) (fun _ _ _ h => h) (yields_move _ rfl rfl) ?_
      generalize hK : wpAny Try.prog _ _ _ _ _ = K
      go_simp
      subst hK
      refine wpAny_take (i := 9) rfl (by kernel_rfl) (by kernel_rfl) (by kernel_rfl) (fun _ _ _ h => h) (yields_move _ rfl rfl) ?_
      generalize hK : wpAny Try.prog _ _ _ _ _ = K
      go_simp
      subst hK
      refine wpAny_take (i := 10) rfl (by kernel_rfl) (by kernel_rfl) (by kernel_rfl) (fun _ _ _ h => h) (yields_ixN _ _ rfl rfl rfl hil rfl) ?_
      generalize hK : wpAny Try.prog _ _ _ _ _ = K
      go_simp
      subst hK
      refine wpAny_all (rs := [7, 11]) (by kernel_rfl) (by simp) (fun ii hii => ?_)
      have h7 : ii = 7 ∨ ii = 11 := by simpa using hii
      clear hii
      rcases h7 with rfl | rfl
      · refine wpOp_loadN rfl rfl _ rfl g _ _ HY8.out rfl HR2.out ?_
        generalize hK : wpAny Try.prog _ _ _ _ _ = K
        go_simp
        subst hK
        refine wpAny_seq 11 (by kernel_rfl) (by kernel_rfl) ?_
        simp only [List.drop_succ_cons, List.drop_zero]
        clear HGX HGY HO HK
        go_wp2_with (first | (refine wpList_loadN rfl _ rfl g _ _ HX8.out rfl HR1.out ?_) | (refine wpList_ixN rfl _ _ rfl rfl rfl hil ?_) | (refine wpList_storeR rfl _ _ rfl y HO2.out HL1.out HE1.out rfl rfl ?_))
        intro W3 hO3 hk3
        have HL2 : Hid (L.length + j < (L ++ R.set i y).length) := by show _ < _; rw [List.length_append, List.length_set, HR.out.len]; omega
        have HE2 : Hid (L.length * 136 + j * 136 = (L.length + j) * 136) := by show _ = _; rw [Nat.add_mul]
        have HO3 : Hid (ON s W3 B (.slice (some ⟨g, 0, none⟩) n cap) (L ++ R.set i y)) := by
          show ON _ _ _ _ _
          first
            | exact hO3
            | (rw [List.set_append_right _ _ (by omega), Nat.add_sub_cancel_left] at hO3; exact hO3)
        have HK3 : Hid (Kp (fun k => k = g) W W3) := HK2.out.trans hk3 (fun _ _ h => h)
        clear hO3 hk3 HO2 HK2 HL1 HE1
        go_wp2_with (first | (refine wpList_ixN rfl _ _ rfl rfl rfl hjl ?_) | (refine wpList_storeR rfl _ _ rfl x HO3.out HL2.out HE2.out rfl rfl ?_))
        intro W4 hO4 hk4
        have HQ4 : Hid (Rq s W W4 B g n cap L M (i + 1)) := by
          have hs := HR.out.step HXY.out.2.2.2 HXY.out.1 HXY.out.2.1
          rw [← HXY.out.2.2.1] at hs
          refine ⟨⟨_, hs, ?_⟩, HK3.out.trans hk4 (fun _ _ h => h)⟩
          first
            | exact hO4
            | (rw [List.set_append_right _ _ (by omega), Nat.add_sub_cancel_left] at hO4; exact hO4)
        have HJ := Hid.intro' HXY.out.2.2.1
        clear hO4 hk4 HO3 HK3 HL2 HE2 HR HXY
        go_wp2
        go_roundw
        case rel => exact ⟨i + 1, by have := HJ.out; omega, by go_num, by have := HJ.out; go_num, HQ4⟩
        case measure => simp [intOf]; omega
      · refine wpOp_loadN rfl rfl _ rfl g _ _ HX8.out rfl HR1.out ?_
        generalize hK : wpAny Try.prog _ _ _ _ _ = K
        go_simp
        subst hK
        refine wpAny_all (rs := [7]) (by kernel_rfl) (by simp) (fun ii hii => ?_)
        have h7 : ii = 7 := by simpa using hii
        clear hii
        subst h7
        refine wpOp_loadN rfl rfl _ rfl g _ _ HY8.out rfl HR2.out ?_
        generalize hK : wpAny Try.prog _ _ _ _ _ = K
        go_simp
        subst hK
        refine wpAny_seq 12 (by kernel_rfl) (by kernel_rfl) ?_
        simp only [List.drop_succ_cons, List.drop_zero]
        clear HGX HGY HO HK
        go_wp2_with (first | (refine wpList_loadN rfl _ rfl g _ _ HX8.out rfl HR1.out ?_) | (refine wpList_ixN rfl _ _ rfl rfl rfl hil ?_) | (refine wpList_storeR rfl _ _ rfl y HO2.out HL1.out HE1.out rfl rfl ?_))
        intro W3 hO3 hk3
        have HL2 : Hid (L.length + j < (L ++ R.set i y).length) := by show _ < _; rw [List.length_append, List.length_set, HR.out.len]; omega
        have HE2 : Hid (L.length * 136 + j * 136 = (L.length + j) * 136) := by show _ = _; rw [Nat.add_mul]
        have HO3 : Hid (ON s W3 B (.slice (some ⟨g, 0, none⟩) n cap) (L ++ R.set i y)) := by
          show ON _ _ _ _ _
          first
            | exact hO3
            | (rw [List.set_append_right _ _ (by omega), Nat.add_sub_cancel_left] at hO3; exact hO3)
        have HK3 : Hid (Kp (fun k => k = g) W W3) := HK2.out.trans hk3 (fun _ _ h => h)
        clear hO3 hk3 HO2 HK2 HL1 HE1
        go_wp2_with (first | (refine wpList_ixN rfl _ _ rfl rfl rfl hjl ?_) | (refine wpList_storeR rfl _ _ rfl x HO3.out HL2.out HE2.out rfl rfl ?_))
        intro W4 hO4 hk4
        have HQ4 : Hid (Rq s W W4 B g n cap L M (i + 1)) := by
          have hs := HR.out.step HXY.out.2.2.2 HXY.out.1 HXY.out.2.1
          rw [← HXY.out.2.2.1] at hs
          refine ⟨⟨_, hs, ?_⟩, HK3.out.trans hk4 (fun _ _ h => h)⟩
          first
            | exact hO4
            | (rw [List.set_append_right _ _ (by omega), Nat.add_sub_cancel_left] at hO4; exact hO4)
        have HJ := Hid.intro' HXY.out.2.2.1
        clear hO4 hk4 HO3 HK3 HL2 HE2 HR HXY
        go_wp2
        go_roundw
        case rel => exact ⟨i + 1, by have := HJ.out; omega, by go_num, by have := HJ.out; go_num, HQ4⟩
        case measure => simp [intOf]; omega
    · have hz : ¬ (i : Int) < (M.length : Int) - 1 - (i : Int) := by omega
      obtain ⟨⟨R, hR, hO⟩, hK⟩ := HQ.out
      have e := hR.done hlt
      subst e
      have HE := Hid.intro' (And.intro hO hK)
      clear hR hO hK HQ
      go_wp2
      go_end0
      exact ⟨⟨_, rfl⟩, HE.out.1, HE.out.2⟩
end
section
variable {W : World} {B g n cap : Nat} {M : List Int}
set_option maxRecDepth 100000 in
set_option maxHeartbeats 4000000 in
theorem revI_any {v : Value} (h : OI W B v M) (hM : M.length ≤ 1000000) :
    Calls Try.prog 69 #[v] W fun e w' => (∃ v, e = .returned v) ∧ OI w' B v M.reverse ∧ Kp (fun k => v.ownBlock = some k) W w' := by
  obtain ⟨ad, cap, rfl⟩ := h.slice
  have HA : Hid (M ≠ [] → ∃ g, ad = some ⟨g, 0, none⟩) := fun hne => by
    rcases h.form with ⟨_, e⟩ | ⟨g, c, e, _⟩
    · exact absurd e hne
    · cases e; exact ⟨g, rfl⟩
  have hw1 : IntKind.i64.wrap ((M.length : Int) - 1) = (M.length : Int) - 1 := IntWalk.i64_in _ (by omega)
  have HQ0 : Hid (∃ R, Rvi M R 0 ∧ OI W B (.slice ad M.length cap) R ∧ Kp (fun k => (Value.slice ad M.length cap).ownBlock = some k) W W) := ⟨M, Rvi.zero M, h, Kp.refl _ W⟩
  clear h
  go_enter Try.func69, Try.ntmps69
  go_wp2_with fail
  clear hw1
  go_loopw [2, 3] (fun iv jv wr => ∃ (i : Nat), 2 * i ≤ M.length + 1 ∧ iv = .int .i64 (i : Int) ∧ jv = .int .i64 ((M.length : Int) - 1 - (i : Int)) ∧ Hid (∃ R, Rvi M R i ∧ OI wr B (.slice ad M.length cap) R ∧ Kp (fun k => (Value.slice ad M.length cap).ownBlock = some k) W wr)) (fun iv _ _ => M.length - (intOf iv).toNat)
  case atStart => exact ⟨0, by omega, rfl, by simp, HQ0⟩
  case round =>
    clear HQ0
    obtain ⟨i, hi, rfl, rfl, HQ⟩ := hrel
    by_cases hlt : i + 1 < M.length - i
    · have hz : (i : Int) < (M.length : Int) - 1 - (i : Int) := by omega
      have hne : M ≠ [] := fun e => by rw [e] at hlt; simp at hlt
      obtain ⟨j, hj⟩ : ∃ j : Nat, j = M.length - 1 - i := ⟨_, rfl⟩
      have hjz : (M.length : Int) - 1 - (i : Int) = (j : Int) := by omega
      rw [hjz] at hz ⊢
      obtain ⟨g, e⟩ := HA.out hne
      subst e
      obtain ⟨x, hx⟩ : ∃ x, M[i]? = some x := ⟨_, List.getElem?_eq_getElem (by omega)⟩
      obtain ⟨y, hy⟩ : ∃ y, M[M.length - 1 - i]? = some y := ⟨_, List.getElem?_eq_getElem (by omega)⟩
      obtain ⟨R, hR, hO, hK⟩ := HQ.out
      have hjl : j < M.length := by omega
      have hil : i < M.length := by omega
      have hRx := hR.at (by omega) hx
      have hRy := hR.at' (by omega) hy
      rw [← hj] at hRy
      have HR := Hid.intro' hR
      have HXY := Hid.intro' (And.intro hx (And.intro hy (And.intro hj hlt)))
      have c1 : wr.cell? ⟨g, i, none⟩ = some (.int .i64 x) := hO.cell hRx
      have f1 := hO.fr i
      have c2 : wr.cell? ⟨g, j, none⟩ = some (.int .i64 y) := hO.cell hRy
      have f2 := hO.fr j
      have hiz : (i : Int) < (M.length : Int) := by omega
      have hjz2 : (j : Int) < (M.length : Int) := by omega
      have hjk0 : ¬ i = j := by omega
      have hjk1 : ¬ j = i := by omega
      have HQ4 : Hid (∃ R, Rvi M R (i + 1) ∧ OI ((wr.setCell ⟨g, i, none⟩ (.int .i64 y)).setCell ⟨g, j, none⟩ (.int .i64 x)).drew B (.slice (some ⟨g, 0, none⟩) M.length cap) R ∧ Kp (fun k => (Value.slice (some ⟨g, 0, none⟩) M.length cap).ownBlock = some k) W ((wr.setCell ⟨g, i, none⟩ (.int .i64 y)).setCell ⟨g, j, none⟩ (.int .i64 x)).drew) := by
        have hs := hR.step hlt hx hy
        rw [← hj] at hs
        exact ⟨_, hs, (hO.put i y).put j x, ((hK.set g i _ (fun _ => rfl)).set g j _ (fun _ => rfl)).drew⟩
      have HJ := Hid.intro' hj
      clear hx hy hO hR hK hRx hRy HQ hne hj hjz HR HXY
      go_wp2_with fail
      go_region
      generalize ((wr.setCell ⟨g, i, none⟩ (.int .i64 y)).setCell ⟨g, j, none⟩ (.int .i64 x)).drew = Wn at HQ4 ⊢
      clear c1 c2 f1 f2
      go_wp2
      go_roundw
      case rel => exact ⟨i + 1, by have := HJ.out; omega, by go_num, by have := HJ.out; go_num, HQ4⟩
      case measure => simp [intOf]; omega
    · have hz : ¬ (i : Int) < (M.length : Int) - 1 - (i : Int) := by omega
      obtain ⟨R, hR, hO, hK⟩ := HQ.out
      have e := hR.done hlt
      subst e
      have HE := Hid.intro' (And.intro hO hK)
      clear hR hO hK HQ
      go_wp2
      go_end0
      exact ⟨⟨_, rfl⟩, HE.out.1, HE.out.2⟩
end
end Go.Proofs.Ytagmidolcdefiah

/- A node's lists, from the node up to the first one. -/
namespace Go.Proofs.Ytagmidolcdefiah
open Go.RowKit Go.Shelf
/-- the way from a node up to the first one, in memory -/
def PthR (s : Sn) (D : Nat → Prop) (W : World) : Nat → Option Addr → Int → Nn → Prop
  | 0, pa, wt, n => pa = none ∧ wt = -1 ∧ n = nd0 s
  | d + 1, pa, wt, n => ∃ (pa' : Option Addr) (wt' : Int) (n' : Nn) (q : Nat), pa = some ⟨q, 0, none⟩ ∧ D q ∧ NK W q (ncl s pa' wt' n') ∧ PthR s D W d pa' wt' n' ∧
    ((∃ w : Nat, wt = (w : Int) ∧ n = grw n' w ∧ n'.k < n'.b.length ∧ n'.st[w]? = some false) ∨ (wt = -1 ∧ n = nxc n' ∧ n'.k + 1 < n'.b.length))
def Pth (s : Sn) (D : Nat → Prop) (W : World) (pa : Option Addr) (wt : Int) (n : Nn) (d : Nat) : Prop := PthR s D W d pa wt n
theorem Pth.root {s : Sn} {D : Nat → Prop} {W : World} : Pth s D W none (-1) (nd0 s) 0 := ⟨rfl, rfl, rfl⟩
theorem Pth.grow {s : Sn} {D : Nat → Prop} {W : World} {pa : Option Addr} {wt : Int} {n : Nn} {d q w : Nat} (hd : D q) (hq : NK W q (ncl s pa wt n)) (h : Pth s D W pa wt n d) (hk : n.k < n.b.length) (hw : n.st[w]? = some false) : Pth s D W (some ⟨q, 0, none⟩) (w : Int) (grw n w) (d + 1) :=
  ⟨pa, wt, n, q, rfl, hd, hq, h, Or.inl ⟨w, rfl, rfl, hk, hw⟩⟩
theorem Pth.next {s : Sn} {D : Nat → Prop} {W : World} {pa : Option Addr} {wt : Int} {n : Nn} {d q : Nat} (hd : D q) (hq : NK W q (ncl s pa wt n)) (h : Pth s D W pa wt n d) (hk : n.k + 1 < n.b.length) : Pth s D W (some ⟨q, 0, none⟩) (-1) (nxc n) (d + 1) :=
  ⟨pa, wt, n, q, rfl, hd, hq, h, Or.inr ⟨rfl, rfl, hk⟩⟩
/-- its three ways -/
theorem Pth.ways {s : Sn} {D : Nat → Prop} {W : World} {pa : Option Addr} {wt : Int} {n : Nn} {d : Nat} (h : Pth s D W pa wt n d) :
    (pa = none ∧ wt = -1 ∧ n = nd0 s ∧ d = 0) ∨
    (∃ (pa' : Option Addr) (wt' : Int) (n' : Nn) (d' q w : Nat), pa = some ⟨q, 0, none⟩ ∧ wt = (w : Int) ∧ n = grw n' w ∧ d = d' + 1 ∧ D q ∧ NK W q (ncl s pa' wt' n') ∧ Pth s D W pa' wt' n' d' ∧ n'.k < n'.b.length ∧ n'.st[w]? = some false) ∨
    (∃ (pa' : Option Addr) (wt' : Int) (n' : Nn) (d' q : Nat), pa = some ⟨q, 0, none⟩ ∧ wt = -1 ∧ n = nxc n' ∧ d = d' + 1 ∧ D q ∧ NK W q (ncl s pa' wt' n') ∧ Pth s D W pa' wt' n' d' ∧ n'.k + 1 < n'.b.length) := by
  match d, h with
  | 0, ⟨a, b, c⟩ => exact Or.inl ⟨a, b, c, rfl⟩
  | d + 1, ⟨pa', wt', n', q, e1, hd, hq, h', Or.inl ⟨w, e2, e3, hk, hw⟩⟩ => exact Or.inr (Or.inl ⟨pa', wt', n', d, q, w, e1, e2, e3, rfl, hd, hq, h', hk, hw⟩)
  | d + 1, ⟨pa', wt', n', q, e1, hd, hq, h', Or.inr ⟨e2, e3, hk⟩⟩ => exact Or.inr (Or.inr ⟨pa', wt', n', d, q, e1, e2, e3, rfl, hd, hq, h', hk⟩)
/-- what holds at the first node and from each to the next holds -/
theorem Pth.ind {s : Sn} {D : Nat → Prop} {W : World} {P : Option Addr → Int → Nn → Nat → Prop} (h0 : P none (-1) (nd0 s) 0)
    (h1 : ∀ (pa : Option Addr) (wt : Int) (n : Nn) (d q w : Nat), D q → NK W q (ncl s pa wt n) → Pth s D W pa wt n d → n.k < n.b.length → n.st[w]? = some false → P pa wt n d → P (some ⟨q, 0, none⟩) (w : Int) (grw n w) (d + 1))
    (h2 : ∀ (pa : Option Addr) (wt : Int) (n : Nn) (d q : Nat), D q → NK W q (ncl s pa wt n) → Pth s D W pa wt n d → n.k + 1 < n.b.length → P pa wt n d → P (some ⟨q, 0, none⟩) (-1) (nxc n) (d + 1)) :
    ∀ (d : Nat) (pa : Option Addr) (wt : Int) (n : Nn), Pth s D W pa wt n d → P pa wt n d := by
  intro d
  induction d with
  | zero =>
    intro pa wt n h
    obtain ⟨rfl, rfl, rfl⟩ := h
    exact h0
  | succ d ih =>
    intro pa wt n h
    obtain ⟨pa', wt', n', q, rfl, hd, hq, h', ⟨w, rfl, rfl, hk, hw⟩ | ⟨rfl, rfl, hk⟩⟩ := h
    · exact h1 pa' wt' n' d q w hd hq h' hk hw (ih pa' wt' n' h')
    · exact h2 pa' wt' n' d q hd hq h' hk (ih pa' wt' n' h')
section
variable {s : Sn} {D D' : Nat → Prop} {W W' : World} {pa : Option Addr} {wt : Int} {n : Nn} {d : Nat}
theorem Pth.keep (h : Pth s D W pa wt n d) (hk : ∀ g, D g → g < W.heap.size → W'.heap[g]? = W.heap[g]?) : Pth s D W' pa wt n d := by
  refine Pth.ind (P := fun pa wt n d => Pth s D W' pa wt n d) ?_ ?_ ?_ d pa wt n h
  · exact .root
  · intro _ _ _ _ _ _ hd hq _ hk' hw ih
    exact .grow hd (hq.keep (hk _ hd hq.lt)) ih hk' hw
  · intro _ _ _ _ _ hd hq _ hk' ih
    exact .next hd (hq.keep (hk _ hd hq.lt)) ih hk'
theorem Pth.mono (h : Pth s D W pa wt n d) (hD : ∀ g, D g → g < W.heap.size → D' g) : Pth s D' W pa wt n d := by
  refine Pth.ind (P := fun pa wt n d => Pth s D' W pa wt n d) ?_ ?_ ?_ d pa wt n h
  · exact .root
  · intro _ _ _ _ _ _ hd hq _ hk' hw ih
    exact .grow (hD _ hd hq.lt) hq ih hk' hw
  · intro _ _ _ _ _ hd hq _ hk' ih
    exact .next (hD _ hd hq.lt) hq ih hk'
theorem Pth.below' (h : Pth s D W pa wt n d) (hb : Below W.heap.size W W') : Pth s D W' pa wt n d := h.keep fun g _ hl => hb.block g hl
theorem Pth.dm (h : Pth s D W pa wt n d) : d + n.m = s.cs.length + s.ws.length := by
  refine Pth.ind (P := fun _ _ n d => d + n.m = s.cs.length + s.ws.length) ?_ ?_ ?_ d pa wt n h
  · unfold Nn.m nd0 PM.lf; simp
  · intro _ _ _ _ _ _ _ _ _ _ hw ih
    have := grw_m _ hw; omega
  · intro _ _ _ _ _ _ _ _ hk' ih
    have := nxc_m _ hk'; omega
theorem Pth.len (h : Pth s D W pa wt n d) : n.b.length = s.cs.length := by
  refine Pth.ind (P := fun _ _ n _ => n.b.length = s.cs.length) ?_ ?_ ?_ d pa wt n h
  · simp [nd0]
  · intro _ _ _ _ _ _ _ _ _ _ _ ih
    unfold grw PM.add; simp only; rw [List.length_set]; exact ih
  · intro _ _ _ _ _ _ _ _ _ ih
    exact ih
/-- how many steps it is -/
def chl (W : World) : Nat → Value → Nat
  | 0, _ => 0
  | f + 1, .pointer (some a) => match W.cell? a with
    | some v => chl W f v + 1
    | none => 1
  | _ + 1, _ => 0
theorem chl_nil (W : World) (f : Nat) : chl W f (.pointer none) = 0 := by cases f <;> rfl
theorem chl_cell {f q : Nat} {v : Value} (h : W.cell? ⟨q, 0, none⟩ = some v) : chl W (f + 1) (.pointer (some ⟨q, 0, none⟩)) = chl W f v + 1 := by
  show (match W.cell? ⟨q, 0, none⟩ with | some v => chl W f v + 1 | none => 1) = _
  rw [h]
theorem Pth.chl (h : Pth s D W pa wt n d) : ∀ f, d < f → chl W f (.pointer pa) = d := by
  refine Pth.ind (P := fun pa _ _ d => ∀ f, d < f → Go.Proofs.Ytagmidolcdefiah.chl W f (.pointer pa) = d) ?_ ?_ ?_ d pa wt n h
  · intro f _; exact chl_nil W f
  · intro _ _ _ _ _ _ _ hq _ _ _ ih f hf
    obtain ⟨f, rfl⟩ : ∃ f', f = f' + 1 := ⟨f - 1, by omega⟩
    rw [chl_cell (hq.cell 0), ih f (by omega)]
  · intro _ _ _ _ _ _ hq _ _ ih f hf
    obtain ⟨f, rfl⟩ : ∃ f', f = f' + 1 := ⟨f - 1, by omega⟩
    rw [chl_cell (hq.cell 0), ih f (by omega)]
end
/-- the lists, gathered from their ends: what is left of them is the node m's -/
structure Gat (s : Sn) (b p : List (List Int)) (m : List (List Int)) : Prop where
  pl : p.length = s.cs.length
  bl : b.length = s.cs.length
  ml : m.length = s.cs.length
  eq : ∀ (c : Nat), c < s.cs.length → p[c]?.getD [] ++ (m[c]?.getD []).reverse = (b[c]?.getD []).reverse
section
variable {s : Sn} {b p m : List (List Int)}
theorem Gat.start (h : b.length = s.cs.length) : Gat s b (List.replicate s.cs.length []) b := ⟨by simp, h, h, fun c hc => by rw [List.getElem?_replicate, if_pos hc]; rfl⟩
theorem Gat.add {k : Nat} {w : Int} (h : Gat s b p (PM.add m k w)) (hk : k < m.length) : Gat s b (PM.add p k w) m := by
  have hml : m.length = s.cs.length := by have := h.ml; unfold PM.add at this; rwa [List.length_set] at this
  refine ⟨by unfold PM.add; rw [List.length_set]; exact h.pl, h.bl, hml, fun c hc => ?_⟩
  have := h.eq c hc
  rw [← this]
  unfold PM.add
  by_cases e : k = c
  · subst e
    rw [List.getElem?_set_self (by rw [h.pl]; omega), List.getElem?_set_self hk]
    simp
  · rw [List.getElem?_set_ne e, List.getElem?_set_ne e]
theorem Gat.max (h : Gat s b p m) {n : Nat} (hb : ∀ l ∈ b, l.length ≤ n) : ∀ l ∈ p, l.length ≤ n := fun l hl => by
  obtain ⟨c, hc⟩ := List.getElem?_of_mem hl
  have hcl : c < s.cs.length := by rw [← h.pl]; exact (List.getElem?_eq_some_iff.1 hc).1
  obtain ⟨l', hl'⟩ : ∃ l, b[c]? = some l := ⟨_, List.getElem?_eq_getElem (by rw [h.bl]; exact hcl)⟩
  have h1 := congrArg List.length (h.eq c hcl)
  rw [hc, hl'] at h1
  simp at h1
  have := hb l' (List.mem_of_getElem? hl')
  omega
theorem Gat.done (h : Gat s b p (List.replicate s.cs.length [])) : p.map List.reverse = b := List.ext_getElem? fun c => by
  by_cases hc : c < s.cs.length
  · have := h.eq c hc
    rw [List.getElem?_replicate, if_pos hc] at this
    obtain ⟨l, hl⟩ : ∃ l, p[c]? = some l := ⟨_, List.getElem?_eq_getElem (by rw [h.pl]; exact hc)⟩
    obtain ⟨l', hl'⟩ : ∃ l, b[c]? = some l := ⟨_, List.getElem?_eq_getElem (by rw [h.bl]; exact hc)⟩
    rw [hl, hl'] at this
    simp at this
    rw [List.getElem?_map, hl, hl', this]; simp
  · rw [List.getElem?_eq_none (by rw [List.length_map, h.pl]; omega), List.getElem?_eq_none (by rw [h.bl]; omega)]
end
section
variable {W W' : World} {B g : Nat} {us : List Value} {p : List (List Int)}
/-- a list is written where it lies -/
theorem OW.turn (h : OW W B g us p) {c : Nat} {u : Value} {l l' : List Int} (hu : us[c]? = some u) (hl : p[c]? = some l) (hk : Kp (fun k => u.ownBlock = some k) W W') (ho : OI W' B u l') : OW W' B g us (p.set c l') := by
  have hcp : c < p.length := (List.getElem?_eq_some_iff.1 hl).1
  refine ⟨(hk.block g h.lt (fun e => h.ne c u hu e)).trans h.hl, by rw [List.length_set]; exact h.len, fun d v m hv hm => ?_, h.bg, h.ne, h.dj⟩
  by_cases e : c = d
  · subst e
    rw [List.getElem?_set_self hcp] at hm
    cases hm
    rw [hu] at hv
    cases hv
    exact ho
  · rw [List.getElem?_set_ne e] at hm
    exact (h.li d v m hv hm).keep fun k hk' => hk.block k ((h.li d v m hv hm).lt k hk').2 (fun e' => e (h.dj c d u v k hu hv e' hk'))
end
end Go.Proofs.Ytagmidolcdefiah
