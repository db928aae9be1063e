/- An event with nothing that its line doesn't tell, as the document has it. -/
import Derived.Test.YthhmaaeijbofbaaDoorTlL
import Derived.Deep.MidRow
namespace Go.Proofs.YthhmaaeijbofbaaDoor
open Go.RowKit

def ev (e : TM.Ev) : Array Value := #[.int .i64 e.ki, .int .i64 e.a, .int .i64 e.b, .bool e.on, .int .i64 e.fl, .int .i64 e.ca, .int .i64 e.ag, .bool e.up]
theorem infoE : (Tryd.prog.info? 25).map (·.size) = some 8 := by kernel_rfl
theorem infoCE : (Tryd.prog.info? 23).map (·.size) = some 4 := by kernel_rfl
section
variable {W W' : World} {b : Nat} {e : TM.Ev}
theorem EB.fr (H : EB W b e) (i : Nat) : W.frozen? ⟨b, i, none⟩ = false := by simp [World.frozen?, show W.heap[b]? = _ from H]
theorem EB.other {g j : Nat} (H : EB W b e) (u : Value) (hn : b ≠ g) : EB (W.setCell ⟨g, j, none⟩ u) b e := (Below.heap_setCell W ⟨g, j, none⟩ u b hn).trans H
theorem EB.rng (H : EB W b e) : W.rangeAt b 0 (ev e).toList := fun j v hv => by
  rw [Nat.zero_add, H.cell j, ← Array.getElem?_toList]
  exact hv
end
section
variable {ops : Array Oper} {rest : List Oper} {op : Oper} {a : Act} {w : World} {Q : Exit → Act → World → Prop}
theorem wpList_storeE (hgd : op.guard = none) (x y : Operand) (ho : op.op = .store 25 x y) (b : Nat) {c c' : TM.Ev} (hx : a.eval x = .pointer (some ⟨b, 0, none⟩)) (hy : a.eval y = .agg (ev c')) (hC : EB w b c)
    (hn : ∀ W', (∀ k, k ≠ b → W'.heap[k]? = w.heap[k]?) → Below b w W' → w.heap.size = W'.heap.size → EB W' b c' → wpList Tryd.prog ops Q rest (a.put op.dst undef) W') : wpList Tryd.prog ops Q (op :: rest) a w :=
  wpList_store_row hgd 25 x y ho b _ hx hy _ _ hC infoE rfl (by simp [ev, Value.oneCell']) (hn _ (fun k hk => setRow_other w b k _ hk) ⟨rfl, rfl, rfl, by simp [World.setRow], fun k hk => setRow_other w b k _ (by omega)⟩ (by simp [World.setRow]) (setRow_heap w b _ _ _ _ hC))
theorem wpList_loadE (hgd : op.guard = none) (x : Operand) (ho : op.op = .load 25 x) (b : Nat) {c : TM.Ev} (hx : a.eval x = .pointer (some ⟨b, 0, none⟩)) (hC : EB w b c)
    (hn : wpList Tryd.prog ops Q rest (a.put op.dst (.agg #[.int .i64 c.ki, .int .i64 c.a, .int .i64 c.b, .bool c.on, .int .i64 c.fl, .int .i64 c.ca, .int .i64 c.ag, .bool c.up])) w) : wpList Tryd.prog ops Q (op :: rest) a w :=
  wpList_load_row hgd 25 x ho b hx _ _ _ _ hC Tryd.underlying25 rfl infoE hn
end
theorem retE {fn : Func} {t : Tmp} (hf : fn.results = #[.cell t 25]) {tmps : Array Value} {w : World} {b : Nat} {c : TM.Ev} (hp : tmps.getD t undef = .pointer (some ⟨b, 0, none⟩)) (hC : EB w b c) :
    (results fn tmps).run Tryd.prog w = .ok (.agg (ev c)) w :=
  results_cell_row hf tmps w b _ _ _ _ hp hC Tryd.underlying25 rfl infoE

def ez : TM.Ev := ⟨0, 0, 0, false, 0, 0, 0, false⟩
/-- an event, what is told of it so far, and what is handed back -/
structure Tz (w W : World) (e x z : TM.Ev) : Prop where
  eb : EB W w.heap.size e
  zb : EB W (w.heap.size + 1) z
  xb : EB W (w.heap.size + 1 + 1) x
  be : Below w.heap.size w W
theorem Tz.set {w W : World} {e x z : TM.Ev} (h : Tz w W e x z) (i : Nat) (v : Value) {x' : TM.Ev} (he : (ev x).setIfInBounds i v = ev x') : Tz w (W.setCell ⟨w.heap.size + 1 + 1, i, none⟩ v) e x' z :=
  ⟨h.eb.other v (by omega), h.zb.other v (by omega), by have := heap_setCell_same W _ i _ _ v h.xb; rw [show (#[Value.int .i64 x.ki, .int .i64 x.a, .int .i64 x.b, .bool x.on, .int .i64 x.fl, .int .i64 x.ca, .int .i64 x.ag, .bool x.up] : Array Value) = ev x from rfl, he] at this; exact this, h.be.setCell (by show _ ≤ w.heap.size + 1 + 1; omega) _⟩
theorem Tz.there {w W : World} {e x z : TM.Ev} (h : Tz w W e x z) : W.there (w.heap.size + 1 + 1) 4 4 := fun j hj => by
  refine ⟨?_, h.xb.fr _⟩
  have h4 : j = 0 ∨ j = 1 ∨ j = 2 ∨ j = 3 := by omega
  rcases h4 with rfl | rfl | rfl | rfl <;> (rw [h.xb.cell]; rfl)
/-- it is handed back -/
theorem Tz.back {w W W' : World} {e x z z' : TM.Ev} (h : Tz w W e x z) (hk : ∀ k, k ≠ w.heap.size + 1 → W'.heap[k]? = W.heap[k]?) (hb : Below (w.heap.size + 1) W W') (hz : EB W' (w.heap.size + 1) z') : Tz w W' e x z' :=
  ⟨(hk _ (by omega)).trans h.eb, hz, (hk _ (by omega)).trans h.xb, h.be.trans ⟨hb.os, hb.tape, hb.output, hb.size, fun k hk' => hb.block k (by omega)⟩⟩
set_option maxRecDepth 100000 in
set_option maxHeartbeats 4000000 in
theorem rtold_any (e : TM.Ev) (w : World) : Calls Tryd.prog 10 #[.agg #[.int .i64 e.ki, .int .i64 e.a, .int .i64 e.b, .bool e.on, .int .i64 e.fl, .int .i64 e.ca, .int .i64 e.ag, .bool e.up]] w fun r w' => r = .returned (.agg (ev (TM.told e))) ∧ Below w.heap.size w w' := by
  have HT0 : Hid (Tz w (((w.alloc (.cells #[.int .i64 e.ki, .int .i64 e.a, .int .i64 e.b, .bool e.on, .int .i64 e.fl, .int .i64 e.ca, .int .i64 e.ag, .bool e.up] 25)).alloc (.cells #[.int .i64 0, .int .i64 0, .int .i64 0, .bool false, .int .i64 0, .int .i64 0, .int .i64 0, .bool false] 25)).alloc (.cells #[.int .i64 e.ki, .int .i64 0, .int .i64 0, .bool false, .int .i64 0, .int .i64 0, .int .i64 0, .bool false] 25)) e ⟨e.ki, 0, 0, false, 0, 0, 0, false⟩ ez) := by
    have a1 := (Below.refl _ (w.alloc (.cells #[.int .i64 e.ki, .int .i64 e.a, .int .i64 e.b, .bool e.on, .int .i64 e.fl, .int .i64 e.ca, .int .i64 e.ag, .bool e.up] 25))).alloc (Nat.le_refl _) (.cells #[.int .i64 0, .int .i64 0, .int .i64 0, .bool false, .int .i64 0, .int .i64 0, .int .i64 0, .bool false] 25)
    have a2 := (Below.refl _ ((w.alloc (.cells #[.int .i64 e.ki, .int .i64 e.a, .int .i64 e.b, .bool e.on, .int .i64 e.fl, .int .i64 e.ca, .int .i64 e.ag, .bool e.up] 25)).alloc (.cells #[.int .i64 0, .int .i64 0, .int .i64 0, .bool false, .int .i64 0, .int .i64 0, .int .i64 0, .bool false] 25))).alloc (Nat.le_refl _) (.cells #[.int .i64 e.ki, .int .i64 0, .int .i64 0, .bool false, .int .i64 0, .int .i64 0, .int .i64 0, .bool false] 25)
    have e1 : EB ((w.alloc (.cells #[.int .i64 e.ki, .int .i64 e.a, .int .i64 e.b, .bool e.on, .int .i64 e.fl, .int .i64 e.ca, .int .i64 e.ag, .bool e.up] 25)).alloc (.cells #[.int .i64 0, .int .i64 0, .int .i64 0, .bool false, .int .i64 0, .int .i64 0, .int .i64 0, .bool false] 25)) (w.heap.size + 1) ez := by have := EB.new (w.alloc (.cells #[.int .i64 e.ki, .int .i64 e.a, .int .i64 e.b, .bool e.on, .int .i64 e.fl, .int .i64 e.ca, .int .i64 e.ag, .bool e.up] 25)) ez; rwa [show (w.alloc (.cells #[.int .i64 e.ki, .int .i64 e.a, .int .i64 e.b, .bool e.on, .int .i64 e.fl, .int .i64 e.ca, .int .i64 e.ag, .bool e.up] 25)).heap.size = w.heap.size + 1 by simp] at this
    have e2 : EB (((w.alloc (.cells #[.int .i64 e.ki, .int .i64 e.a, .int .i64 e.b, .bool e.on, .int .i64 e.fl, .int .i64 e.ca, .int .i64 e.ag, .bool e.up] 25)).alloc (.cells #[.int .i64 0, .int .i64 0, .int .i64 0, .bool false, .int .i64 0, .int .i64 0, .int .i64 0, .bool false] 25)).alloc (.cells #[.int .i64 e.ki, .int .i64 0, .int .i64 0, .bool false, .int .i64 0, .int .i64 0, .int .i64 0, .bool false] 25)) (w.heap.size + 1 + 1) ⟨e.ki, 0, 0, false, 0, 0, 0, false⟩ := by have := EB.new ((w.alloc (.cells #[.int .i64 e.ki, .int .i64 e.a, .int .i64 e.b, .bool e.on, .int .i64 e.fl, .int .i64 e.ca, .int .i64 e.ag, .bool e.up] 25)).alloc (.cells #[.int .i64 0, .int .i64 0, .int .i64 0, .bool false, .int .i64 0, .int .i64 0, .int .i64 0, .bool false] 25)) ⟨e.ki, 0, 0, false, 0, 0, 0, false⟩; rwa [show ((w.alloc (.cells #[.int .i64 e.ki, .int .i64 e.a, .int .i64 e.b, .bool e.on, .int .i64 e.fl, .int .i64 e.ca, .int .i64 e.ag, .bool e.up] 25)).alloc (.cells #[.int .i64 0, .int .i64 0, .int .i64 0, .bool false, .int .i64 0, .int .i64 0, .int .i64 0, .bool false] 25)).heap.size = w.heap.size + 1 + 1 by simp] at this
    exact ⟨((EB.new w e).below' a1).below' a2, e1.below' a2, e2, (((Below.refl w.heap.size w).alloc (Nat.le_refl _) _).alloc (by first | (simp; done) | (simp; omega)) _).alloc (by first | (simp; done) | (simp; omega)) _⟩
  have m0 : ((w.alloc (.cells #[.int .i64 e.ki, .int .i64 e.a, .int .i64 e.b, .bool e.on, .int .i64 e.fl, .int .i64 e.ca, .int .i64 e.ag, .bool e.up] 25)).alloc (.cells #[.int .i64 0, .int .i64 0, .int .i64 0, .bool false, .int .i64 0, .int .i64 0, .int .i64 0, .bool false] 25)).cell? ⟨w.heap.size, 0, none⟩ = some (.int .i64 e.ki) := ((EB.new w e).below' ((Below.refl _ (w.alloc (.cells #[.int .i64 e.ki, .int .i64 e.a, .int .i64 e.b, .bool e.on, .int .i64 e.fl, .int .i64 e.ca, .int .i64 e.ag, .bool e.up] 25))).alloc (Nat.le_refl _) (.cells #[.int .i64 0, .int .i64 0, .int .i64 0, .bool false, .int .i64 0, .int .i64 0, .int .i64 0, .bool false] 25))).cell 0
  go_enter Tryd.func10, Tryd.ntmps10
  go_upto_region 2 with fail
  generalize ((w.alloc (.cells #[.int .i64 e.ki, .int .i64 e.a, .int .i64 e.b, .bool e.on, .int .i64 e.fl, .int .i64 e.ca, .int .i64 e.ag, .bool e.up] 25)).alloc (.cells #[.int .i64 0, .int .i64 0, .int .i64 0, .bool false, .int .i64 0, .int .i64 0, .int .i64 0, .bool false] 25)).alloc (.cells #[.int .i64 e.ki, .int .i64 0, .int .i64 0, .bool false, .int .i64 0, .int .i64 0, .int .i64 0, .bool false] 25) = V at HT0 ⊢
  clear m0
  have m0 : V.cell? ⟨w.heap.size, 0, none⟩ = some (.int .i64 e.ki) := HT0.out.eb.cell 0
  by_cases k1 : e.ki = 1
  · have d1 : (e.ki == 1) = true := by simp [k1]
    have m4 : V.cell? ⟨w.heap.size, 4, none⟩ = some (.int .i64 e.fl) := HT0.out.eb.cell 4
    have m5 : V.cell? ⟨w.heap.size, 5, none⟩ = some (.int .i64 e.ca) := HT0.out.eb.cell 5
    have m7 : V.cell? ⟨w.heap.size, 7, none⟩ = some (.bool e.up) := HT0.out.eb.cell 7
    have HTH := Hid.intro'' HT0.out.there
    have HT1 : Hid (Tz w (V.setCells (w.heap.size + 1 + 1) 4 [.int .i64 e.fl, .int .i64 e.ca, .int .i64 0, .bool e.up]) e ⟨1, 0, 0, false, e.fl, e.ca, 0, e.up⟩ ez) := by
      have h := HT0.out
      rw [k1] at h
      exact (((h.set 4 (.int .i64 e.fl) (x' := ⟨1, 0, 0, false, e.fl, 0, 0, false⟩) rfl).set 5 (.int .i64 e.ca) (x' := ⟨1, 0, 0, false, e.fl, e.ca, 0, false⟩) rfl).set 6 (.int .i64 0) (x' := ⟨1, 0, 0, false, e.fl, e.ca, 0, false⟩) rfl).set 7 (.bool e.up) rfl
    have HR : Hid (TM.told e = ⟨1, 0, 0, false, e.fl, e.ca, 0, e.up⟩) := by show _ = _; unfold TM.told; simp [k1]
    clear k1
    go_upto_region 4 with (refine wpList_store_mid rfl 23 _ _ rfl (w.heap.size + 1 + 1) 4 _ rfl rfl HTH.out infoCE (by simp [Value.oneCell']) ?_)
    clear HTH m0 m4 m5 m7 HT0
    change Code.wp _ _ _ _ (V.setCells (w.heap.size + 1 + 1) 4 [.int .i64 e.fl, .int .i64 e.ca, .int .i64 0, .bool e.up])
    generalize V.setCells (w.heap.size + 1 + 1) 4 [.int .i64 e.fl, .int .i64 e.ca, .int .i64 0, .bool e.up] = V1 at HT1 ⊢
    go_wp2_with (first | (refine wpList_loadE rfl _ rfl _ rfl HT1.out.xb ?_) | (refine wpList_storeE (c' := ⟨1, 0, 0, false, e.fl, e.ca, 0, e.up⟩) rfl _ _ rfl _ rfl rfl HT1.out.zb ?_))
    intro W9 hk9 hb9 _ hz9
    have HT9 := Hid.intro'' (HT1.out.back hk9 hb9 hz9)
    clear hk9 hb9 hz9 HT1
    go_wp2
    exact bodyPost_ret (retE Tryd.results10 rfl HT9.out.zb) rfl ⟨by rw [HR.out], HT9.out.be⟩
  · have d1 : (e.ki == 1) = false := by simp [k1]
    by_cases k8 : e.ki = 8
    · have d8 : (e.ki != 8) = false := by simp [k8]
      have d2 : (e.ki == 2) = false := by simp [k8]
      have d6 : (e.ki == 6) = false := by simp [k8]
      have d7 : (e.ki == 7) = false := by simp [k8]
      have HR : Hid (TM.told e = ⟨e.ki, 0, 0, false, 0, 0, 0, false⟩) := by show _ = _; unfold TM.told; simp [k8]
      clear k1 k8
      go_wp2_with (first | (refine wpList_loadE rfl _ rfl _ rfl HT0.out.xb ?_) | (refine wpList_storeE (c' := ⟨e.ki, 0, 0, false, 0, 0, 0, false⟩) rfl _ _ rfl _ rfl rfl HT0.out.zb ?_))
      intro W9 hk9 hb9 _ hz9
      have HT9 := Hid.intro'' (HT0.out.back hk9 hb9 hz9)
      clear hk9 hb9 hz9 HT0
      go_wp2
      exact bodyPost_ret (retE Tryd.results10 rfl HT9.out.zb) rfl ⟨by rw [HR.out], HT9.out.be⟩
    · have d8 : (e.ki != 8) = true := by simp [k8]
      have m1 : V.cell? ⟨w.heap.size, 1, none⟩ = some (.int .i64 e.a) := HT0.out.eb.cell 1
      have c1 : V.cell? ⟨w.heap.size + 1 + 1, 1, none⟩ = some (.int .i64 0) := HT0.out.xb.cell 1
      have f1 := HT0.out.xb.fr 1
      have HT1 := Hid.intro'' (HT0.out.set 1 (.int .i64 e.a) (x' := ⟨e.ki, e.a, 0, false, 0, 0, 0, false⟩) rfl)
      go_upto_region 7 with fail
      clear m0 m1 c1 f1 HT0
      generalize V.setCell ⟨w.heap.size + 1 + 1, 1, none⟩ (.int .i64 e.a) = V1 at HT1 ⊢
      have m0 : V1.cell? ⟨w.heap.size, 0, none⟩ = some (.int .i64 e.ki) := HT1.out.eb.cell 0
      have m2 : V1.cell? ⟨w.heap.size, 2, none⟩ = some (.int .i64 e.b) := HT1.out.eb.cell 2
      have m3 : V1.cell? ⟨w.heap.size, 3, none⟩ = some (.bool e.on) := HT1.out.eb.cell 3
      have c3 : V1.cell? ⟨w.heap.size + 1 + 1, 3, none⟩ = some (.bool false) := HT1.out.xb.cell 3
      have f3 := HT1.out.xb.fr 3
      by_cases k2 : e.ki = 2
      · have d2 : (e.ki == 2) = true := by simp [k2]
        have HR : Hid (TM.told e = ⟨e.ki, e.a, e.b, e.on, 0, 0, 0, false⟩) := by show _ = _; unfold TM.told; simp [k2]
        have c2 : V1.cell? ⟨w.heap.size + 1 + 1, 2, none⟩ = some (.int .i64 0) := HT1.out.xb.cell 2
        have f2 := HT1.out.xb.fr 2
        have HT2 := Hid.intro'' (HT1.out.set 2 (.int .i64 e.b) (x' := ⟨e.ki, e.a, e.b, false, 0, 0, 0, false⟩) rfl)
        clear k1 k8 k2
        go_upto_region 9 with fail
        clear m0 m2 m3 c3 f3 c2 f2 HT1
        generalize V1.setCell ⟨w.heap.size + 1 + 1, 2, none⟩ (.int .i64 e.b) = V2 at HT2 ⊢
        have m0 : V2.cell? ⟨w.heap.size, 0, none⟩ = some (.int .i64 e.ki) := HT2.out.eb.cell 0
        have m3 : V2.cell? ⟨w.heap.size, 3, none⟩ = some (.bool e.on) := HT2.out.eb.cell 3
        have c3 : V2.cell? ⟨w.heap.size + 1 + 1, 3, none⟩ = some (.bool false) := HT2.out.xb.cell 3
        have f3 := HT2.out.xb.fr 3
        have HT3 := Hid.intro'' (HT2.out.set 3 (.bool e.on) (x' := ⟨e.ki, e.a, e.b, e.on, 0, 0, 0, false⟩) rfl)
        go_upto_region 11 with fail
        clear m0 m3 c3 f3 HT2
        generalize V2.setCell ⟨w.heap.size + 1 + 1, 3, none⟩ (.bool e.on) = V3 at HT3 ⊢
        go_wp2_with (first | (refine wpList_loadE rfl _ rfl _ rfl HT3.out.xb ?_) | (refine wpList_storeE (c' := ⟨e.ki, e.a, e.b, e.on, 0, 0, 0, false⟩) rfl _ _ rfl _ rfl rfl HT3.out.zb ?_))
        intro W9 hk9 hb9 _ hz9
        have HT9 := Hid.intro'' (HT3.out.back hk9 hb9 hz9)
        clear hk9 hb9 hz9 HT3
        go_wp2
        exact bodyPost_ret (retE Tryd.results10 rfl HT9.out.zb) rfl ⟨by rw [HR.out], HT9.out.be⟩
      · have d2 : (e.ki == 2) = false := by simp [k2]
        by_cases k67 : e.ki = 6 ∨ e.ki = 7
        · have HR : Hid (TM.told e = ⟨e.ki, e.a, 0, e.on, 0, 0, 0, false⟩) := by show _ = _; unfold TM.told; simp [k1, k8, k2, k67]
          have HT3 := Hid.intro'' (HT1.out.set 3 (.bool e.on) (x' := ⟨e.ki, e.a, 0, e.on, 0, 0, 0, false⟩) rfl)
          by_cases k6 : e.ki = 6
          · have d6 : (e.ki == 6) = true := by simp [k6]
            clear k1 k8 k2 k67 k6
            go_upto_region 11 with fail
            clear m0 m2 m3 c3 f3 HT1
            generalize V1.setCell ⟨w.heap.size + 1 + 1, 3, none⟩ (.bool e.on) = V3 at HT3 ⊢
            go_wp2_with (first | (refine wpList_loadE rfl _ rfl _ rfl HT3.out.xb ?_) | (refine wpList_storeE (c' := ⟨e.ki, e.a, 0, e.on, 0, 0, 0, false⟩) rfl _ _ rfl _ rfl rfl HT3.out.zb ?_))
            intro W9 hk9 hb9 _ hz9
            have HT9 := Hid.intro'' (HT3.out.back hk9 hb9 hz9)
            clear hk9 hb9 hz9 HT3
            go_wp2
            exact bodyPost_ret (retE Tryd.results10 rfl HT9.out.zb) rfl ⟨by rw [HR.out], HT9.out.be⟩
          · have d6 : (e.ki == 6) = false := by simp [k6]
            have d7 : (e.ki == 7) = true := by simp; omega
            clear k1 k8 k2 k67 k6
            go_upto_region 11 with fail
            clear m0 m2 m3 c3 f3 HT1
            generalize V1.setCell ⟨w.heap.size + 1 + 1, 3, none⟩ (.bool e.on) = V3 at HT3 ⊢
            go_wp2_with (first | (refine wpList_loadE rfl _ rfl _ rfl HT3.out.xb ?_) | (refine wpList_storeE (c' := ⟨e.ki, e.a, 0, e.on, 0, 0, 0, false⟩) rfl _ _ rfl _ rfl rfl HT3.out.zb ?_))
            intro W9 hk9 hb9 _ hz9
            have HT9 := Hid.intro'' (HT3.out.back hk9 hb9 hz9)
            clear hk9 hb9 hz9 HT3
            go_wp2
            exact bodyPost_ret (retE Tryd.results10 rfl HT9.out.zb) rfl ⟨by rw [HR.out], HT9.out.be⟩
        · have d6 : (e.ki == 6) = false := by simp; omega
          have d7 : (e.ki == 7) = false := by simp; omega
          have HR : Hid (TM.told e = ⟨e.ki, e.a, 0, false, 0, 0, 0, false⟩) := by show _ = _; unfold TM.told; simp [k1, k8, k2, show ¬ e.ki = 6 by omega, show ¬ e.ki = 7 by omega]
          clear k1 k8 k2 k67
          go_wp2_with (first | (refine wpList_loadE rfl _ rfl _ rfl HT1.out.xb ?_) | (refine wpList_storeE (c' := ⟨e.ki, e.a, 0, false, 0, 0, 0, false⟩) rfl _ _ rfl _ rfl rfl HT1.out.zb ?_))
          intro W9 hk9 hb9 _ hz9
          have HT9 := Hid.intro'' (HT1.out.back hk9 hb9 hz9)
          clear hk9 hb9 hz9 HT1
          go_wp2
          exact bodyPost_ret (retE Tryd.results10 rfl HT9.out.zb) rfl ⟨by rw [HR.out], HT9.out.be⟩

end Go.Proofs.YthhmaaeijbofbaaDoor
