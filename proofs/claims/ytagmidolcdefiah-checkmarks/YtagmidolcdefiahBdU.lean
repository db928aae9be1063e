/- A beginning that is new. -/
import Derived.Test.YtagmidolcdefiahPk8
namespace Go.Proofs.Ytagmidolcdefiah
open Go.RowKit
theorem infoHT : (Try.prog.info? 86).map (fun i => (i.zero, i.size, i.bytes)) = some (some (.agg #[.int .i64 0, .int .i64 0, .int .i64 0]), 3, 24) := by kernel_rfl
theorem tcs_rep (n : Nat) (i : Nat) (h : i < 3 * n) : (tcs (List.replicate n ⟨0, 0, 0⟩))[i]? = some (.int .i64 0) := by
  induction n generalizing i with
  | zero => omega
  | succ n ih =>
    rw [List.replicate_succ, tcs]
    match i, h with
    | 0, _ => rfl
    | 1, _ => rfl
    | 2, _ => rfl
    | i + 3, h => exact ih i (by omega)
theorem made_stops (n : Nat) : madeCells (Value.agg #[.int .i64 0, .int .i64 0, .int .i64 0]).cells (n * 3) = (tcs (List.replicate n ⟨0, 0, 0⟩)).toArray := by
  apply Array.ext
  · rw [size_madeCells, List.size_toArray, tcs_length, List.length_replicate]; omega
  · intro i h1 h2
    rw [size_madeCells] at h1
    have hg := tcs_rep n i (by omega)
    obtain ⟨hi, e⟩ := List.getElem?_eq_some_iff.1 hg
    rw [show (tcs (List.replicate n ⟨0, 0, 0⟩)).toArray[i] = Value.int .i64 0 from e]
    simp only [madeCells, Value.cells]
    have : i % 3 = 0 ∨ i % 3 = 1 ∨ i % 3 = 2 := by omega
    rcases this with e | e | e <;> simp [e]
theorem mkE (n : Nat) (hn : n ≤ 1000) (W : World) : (Instr.makeSlice 84 (.int .i64 (n : Int)) (.int .i64 (n : Int))).run Try.prog W = .ok (.slice (some ⟨W.heap.size, 0, none⟩) n n) (W.alloc (.cells (tcs (List.replicate n ⟨0, 0, 0⟩)).toArray 86)) := by
  obtain ⟨i, hi, h1, h2, h3⟩ := info_h infoHT
  have := run_make (P := Try.prog) W 84 86 i _ Try.underlying84 hi h1 .i64 .i64 (n : Int) (n : Int) (by omega) (by omega) (by
    have : (i.bytes : Int) * (n : Int) ≤ 24 * 1000 := Int.mul_le_mul (by omega) (by omega) (by omega) (by omega)
    omega) (by omega)
  rw [this, h2, Int.toNat_natCast, made_stops]
theorem mkM (n : Int) (W : World) : (Instr.makeMap 174 (some (.int .i64 n))).run Try.prog W = .ok (.map (some W.heap.size)) (W.alloc (.map #[] 0)) := by
  simp [Instr.makeMap, run_underlying Try.underlying174, Result.andThen]
  rfl
/-- what holds while a beginning is made -/
structure Bu (w W : World) (b eb mb : Nat) (s : Sn) (vc vw : Value) (D : Nat → Prop) (es : List RM.Sp) (f : Int → Option (Int × Int)) : Prop where
  bg : Bg W b eb mb s.st vc vw es f 0
  nb : NB W w.heap.size s.st vc vw
  rc : R2 (fun g => D g ∧ g < w.heap.size) W vc s.cs
  rw : R2 (fun g => D g ∧ g < w.heap.size) W vw s.ws
  bel : Below w.heap.size w W
  nw : ∀ k, bp b eb mb k → w.heap.size < k
theorem Bu.next {w W W' : World} {b eb mb : Nat} {s : Sn} {vc vw : Value} {D : Nat → Prop} {es : List RM.Sp} {f : Int → Option (Int × Int)} (h : Bu w W b eb mb s vc vw D es f) (hb : Below W.heap.size W W') : Bu w W' b eb mb s vc vw D es f :=
  ⟨h.bg.below' hb, h.nb.below' hb, h.rc.below' hb, h.rw.below' hb, below_class h.bel hb, h.nw⟩
theorem Bu.put {w W W' : World} {b eb mb : Nat} {s : Sn} {vc vw : Value} {D : Nat → Prop} {es es' : List RM.Sp} {f f' : Int → Option (Int × Int)} (h : Bu w W b eb mb s vc vw D es f) (hk : Kp (bp b eb mb) W W') (hg : Bg W' b eb mb s.st vc vw es' f' 0) : Bu w W' b eb mb s vc vw D es' f' :=
  ⟨hg, h.nb.kp hk (fun e => by have := h.nw _ e; omega), h.rc.keep hk.size (fun g hg hlt => hk.block g hlt (fun e => by have := h.nw _ e; have := hg.2; omega)), h.rw.keep hk.size (fun g hg hlt => hk.block g hlt (fun e => by have := h.nw _ e; have := hg.2; omega)), hk.below h.bel h.bel.size (fun i hi e => by have := h.nw _ e; omega), h.nw⟩
theorem Bu.new (w : World) (s : Sn) (vc vw : Value) (D : Nat → Prop) {W : World} {b eb mb : Nat} (hc : R2 D (w.alloc (.cells (nv s.st vc vw).toArray 27)) vc s.cs) (hw : R2 D (w.alloc (.cells (nv s.st vc vw).toArray 27)) vw s.ws)
    (hb : Below (w.alloc (.cells (nv s.st vc vw).toArray 27)).heap.size (w.alloc (.cells (nv s.st vc vw).toArray 27)) W) (h1 : W.heap[b]? = some (.cells (bc s.st vc vw eb s.cs.length mb 0).toArray 176 (0, 0)))
    (h2 : W.heap[eb]? = some (.cells (tcs (List.replicate s.cs.length ⟨0, 0, 0⟩)).toArray 86 (0, 0))) (h3 : W.heap[mb]? = some (.map #[] 0)) (n1 : b ≠ eb) (n2 : b ≠ mb) (n3 : eb ≠ mb) (nw : ∀ k, bp b eb mb k → w.heap.size < k)
    (hdc : ∀ g, D g → g < w.heap.size) : Bu w W b eb mb s vc vw D (List.replicate s.cs.length (⟨0, 0, 0⟩ : RM.Sp)) (fun _ => none) := by
  refine ⟨⟨?_, h2, ⟨#[], 0, h3, by simp, by simp, by simp⟩, n1, n2, n3⟩, (NB.new w s.st vc vw).below' hb, (hc.below' hb).mono fun g hg _ _ => ⟨hg, hdc g hg⟩, (hw.below' hb).mono fun g hg _ _ => ⟨hg, hdc g hg⟩, ((Below.refl _ w).alloc (Nat.le_refl _) _).trans (hb.mono (by simp)), nw⟩
  rw [List.length_replicate]; exact h1
theorem loadRV (w : World) (b : Nat) (y : Int × Int) (h : w.heap[b]? = some (.cells #[.int .i64 y.1, .int .i64 y.2] 40 (0, 0))) : (Instr.loadAt 40 (.pointer (some ⟨b, 0, none⟩))).run Try.prog w = .ok (.agg #[.int .i64 y.1, .int .i64 y.2]) w := by
  have h0 : w.cell? ⟨b, 0, none⟩ = some (.int .i64 y.1) := by rw [cell_of_row _ _ 0 _ _ _ h]; rfl
  have h1 : w.cell? ⟨b, 1, none⟩ = some (.int .i64 y.2) := by rw [cell_of_row _ _ 1 _ _ _ h]; rfl
  simp [go_sem, h0, h1]
theorem calm_loadRV {W0 : World} {K : Act → Prop} {o : Oper} {a : Act} (x : Operand) (b : Nat) (y : Int × Int) (ho : o.op = .load 40 x) (hx : a.eval x = .pointer (some ⟨b, 0, none⟩)) (hr : ∀ w, Below W0.heap.size W0 w → w.heap[b]? = some (.cells #[.int .i64 y.1, .int .i64 y.2] 40 (0, 0)))
    (h : K (a.put o.dst (.agg #[.int .i64 y.1, .int .i64 y.2]))) : Oper.calm Try.prog W0 o a K :=
  calm_val _ (fun w hw => by unfold execOp; simp only [ho, hx, Sem.run_bind, Sem.run_pure, Result.andThen_ok, loadRV w b y (hr w hw)]) h
section
variable (s : Sn) (D : Nat → Prop) (vc vw : Value) (w : World)
set_option maxHeartbeats 4000000 in
theorem newBeginning_any (hc : R2 D w vc s.cs) (hw : R2 D w vw s.ws) (hcl : s.cs.length ≤ 8) (hwl : s.ws.length ≤ 128) :
    Calls Try.prog 87 #[.agg (nv s.st vc vw).toArray] w fun e w' => ∃ b eb mb, e = .returned (.pointer (some ⟨b, 0, none⟩)) ∧
      Bg w' b eb mb s.st vc vw (s.cs.map RM.bg) (lfm s (List.replicate s.ws.length false)) 0 ∧ Below w.heap.size w w' ∧ ∀ k, bp b eb mb k → w.heap.size ≤ k := by
  have hbx := (Below.refl w.heap.size w).alloc (Nat.le_refl _) (.cells (nv s.st vc vw).toArray 27)
  have HN := Hid.intro' (NB.new w s.st vc vw)
  have HB := Hid.intro' hbx
  have HC := Hid.intro' ((hc.mono (D' := fun g => g < w.heap.size) fun g _ h _ => h).below' hbx)
  have HW := Hid.intro' ((hw.mono (D' := fun g => g < w.heap.size) fun g _ h _ => h).below' hbx)
  obtain ⟨ac, kc, rfl, _, _⟩ := hc.form
  obtain ⟨aw, kw, rfl, _, _⟩ := hw.form
  have k1 := mkE s.cs.length (by omega)
  have k2 := mkM (s.ws.length : Int)
  have c13 : (w.alloc (.cells (nv s.st (.slice ac s.cs.length kc) (.slice aw s.ws.length kw)).toArray 27)).cell? ⟨w.heap.size, 13, none⟩ = some (.slice ac s.cs.length kc) := HN.out.cell 13
  have c14 : (w.alloc (.cells (nv s.st (.slice ac s.cs.length kc) (.slice aw s.ws.length kw)).toArray 27)).cell? ⟨w.heap.size, 14, none⟩ = some (.slice aw s.ws.length kw) := HN.out.cell 14
  have e0 : (w.alloc (.cells (nv s.st (.slice ac s.cs.length kc) (.slice aw s.ws.length kw)).toArray 27)).cell? ⟨w.heap.size, 0, none⟩ = some (.int .i64 s.st.fl) := HN.out.cell 0
  have e1 : (w.alloc (.cells (nv s.st (.slice ac s.cs.length kc) (.slice aw s.ws.length kw)).toArray 27)).cell? ⟨w.heap.size, 1, none⟩ = some (.int .i64 s.st.ca) := HN.out.cell 1
  have e2 : (w.alloc (.cells (nv s.st (.slice ac s.cs.length kc) (.slice aw s.ws.length kw)).toArray 27)).cell? ⟨w.heap.size, 2, none⟩ = some (.int .i64 s.st.sta) := HN.out.cell 2
  have e3 : (w.alloc (.cells (nv s.st (.slice ac s.cs.length kc) (.slice aw s.ws.length kw)).toArray 27)).cell? ⟨w.heap.size, 3, none⟩ = some (.int .i64 s.st.ste) := HN.out.cell 3
  have e4 : (w.alloc (.cells (nv s.st (.slice ac s.cs.length kc) (.slice aw s.ws.length kw)).toArray 27)).cell? ⟨w.heap.size, 4, none⟩ = some (.int .i64 s.st.sto) := HN.out.cell 4
  have e5 : (w.alloc (.cells (nv s.st (.slice ac s.cs.length kc) (.slice aw s.ws.length kw)).toArray 27)).cell? ⟨w.heap.size, 5, none⟩ = some (.int .i64 s.st.opn) := HN.out.cell 5
  have e6 : (w.alloc (.cells (nv s.st (.slice ac s.cs.length kc) (.slice aw s.ws.length kw)).toArray 27)).cell? ⟨w.heap.size, 6, none⟩ = some (.int .i64 s.st.wai) := HN.out.cell 6
  have e7 : (w.alloc (.cells (nv s.st (.slice ac s.cs.length kc) (.slice aw s.ws.length kw)).toArray 27)).cell? ⟨w.heap.size, 7, none⟩ = some (.int .i64 s.st.clo) := HN.out.cell 7
  have e8 : (w.alloc (.cells (nv s.st (.slice ac s.cs.length kc) (.slice aw s.ws.length kw)).toArray 27)).cell? ⟨w.heap.size, 8, none⟩ = some (.int .i64 s.st.nud) := HN.out.cell 8
  have e9 : (w.alloc (.cells (nv s.st (.slice ac s.cs.length kc) (.slice aw s.ws.length kw)).toArray 27)).cell? ⟨w.heap.size, 9, none⟩ = some (.int .i64 s.st.age) := HN.out.cell 9
  have e10 : (w.alloc (.cells (nv s.st (.slice ac s.cs.length kc) (.slice aw s.ws.length kw)).toArray 27)).cell? ⟨w.heap.size, 10, none⟩ = some (.int .i64 s.st.sil) := HN.out.cell 10
  have e11 : (w.alloc (.cells (nv s.st (.slice ac s.cs.length kc) (.slice aw s.ws.length kw)).toArray 27)).cell? ⟨w.heap.size, 11, none⟩ = some (.int .i64 s.st.bud) := HN.out.cell 11
  have e12 : (w.alloc (.cells (nv s.st (.slice ac s.cs.length kc) (.slice aw s.ws.length kw)).toArray 27)).cell? ⟨w.heap.size, 12, none⟩ = some (.int .i64 s.st.per) := HN.out.cell 12
  have g0 : (nv s.st (.slice ac s.cs.length kc) (.slice aw s.ws.length kw))[0]? = some (.int .i64 s.st.fl) := rfl
  have g1 : (nv s.st (.slice ac s.cs.length kc) (.slice aw s.ws.length kw))[1]? = some (.int .i64 s.st.ca) := rfl
  have g2 : (nv s.st (.slice ac s.cs.length kc) (.slice aw s.ws.length kw))[2]? = some (.int .i64 s.st.sta) := rfl
  have g3 : (nv s.st (.slice ac s.cs.length kc) (.slice aw s.ws.length kw))[3]? = some (.int .i64 s.st.ste) := rfl
  have g4 : (nv s.st (.slice ac s.cs.length kc) (.slice aw s.ws.length kw))[4]? = some (.int .i64 s.st.sto) := rfl
  have g5 : (nv s.st (.slice ac s.cs.length kc) (.slice aw s.ws.length kw))[5]? = some (.int .i64 s.st.opn) := rfl
  have g6 : (nv s.st (.slice ac s.cs.length kc) (.slice aw s.ws.length kw))[6]? = some (.int .i64 s.st.wai) := rfl
  have g7 : (nv s.st (.slice ac s.cs.length kc) (.slice aw s.ws.length kw))[7]? = some (.int .i64 s.st.clo) := rfl
  have g8 : (nv s.st (.slice ac s.cs.length kc) (.slice aw s.ws.length kw))[8]? = some (.int .i64 s.st.nud) := rfl
  have g9 : (nv s.st (.slice ac s.cs.length kc) (.slice aw s.ws.length kw))[9]? = some (.int .i64 s.st.age) := rfl
  have g10 : (nv s.st (.slice ac s.cs.length kc) (.slice aw s.ws.length kw))[10]? = some (.int .i64 s.st.sil) := rfl
  have g11 : (nv s.st (.slice ac s.cs.length kc) (.slice aw s.ws.length kw))[11]? = some (.int .i64 s.st.bud) := rfl
  have g12 : (nv s.st (.slice ac s.cs.length kc) (.slice aw s.ws.length kw))[12]? = some (.int .i64 s.st.per) := rfl
  have g13 : (nv s.st (.slice ac s.cs.length kc) (.slice aw s.ws.length kw))[13]? = some (.slice ac s.cs.length kc) := rfl
  have g14 : (nv s.st (.slice ac s.cs.length kc) (.slice aw s.ws.length kw))[14]? = some (.slice aw s.ws.length kw) := rfl
  clear hc hw hbx
  go_enter Try.func87, Try.ntmps87
  go_wp2_with fail
  refine wp_mono (Q := fun e a W' => match e with | .normal => ∃ b eb mb j8 j17, a = ({ tmps := #[.agg (nv s.st (.slice ac s.cs.length kc) (.slice aw s.ws.length kw)).toArray, .pointer (some ⟨w.heap.size, 0, none⟩), .pointer none, .pointer (some ⟨b, 0, none⟩), undef, undef, undef, undef, j8, .pointer (some ⟨w.heap.size, 13, none⟩), .slice ac s.cs.length kc, .int .i64 (s.cs.length : Int), .slice (some ⟨eb, 0, none⟩) s.cs.length s.cs.length, .pointer (some ⟨w.heap.size, 14, none⟩), .slice aw s.ws.length kw, .int .i64 (s.ws.length : Int), .map (some mb), j17, .pointer (some ⟨b, 0, none⟩), undef, undef, undef, undef, undef, undef, undef, undef, undef, undef, undef, undef, undef, undef, undef, undef, undef, undef, undef, undef, undef, undef, undef, undef, undef, undef, undef, undef, undef, undef, undef, undef, undef], defers := [] } : Act) ∧ Hid (Bu w W' b eb mb s (.slice ac s.cs.length kc) (.slice aw s.ws.length kw) (fun g => g < w.heap.size) (List.replicate s.cs.length (⟨0, 0, 0⟩ : RM.Sp)) (fun _ => none)) | _ => False) ?reg ?rest
  case reg =>
    go_region
    · have hb : Below (w.alloc (.cells (nv s.st (.slice ac s.cs.length kc) (.slice aw s.ws.length kw)).toArray 27)).heap.size (w.alloc (.cells (nv s.st (.slice ac s.cs.length kc) (.slice aw s.ws.length kw)).toArray 27)) ((((w.alloc (.cells (nv s.st (.slice ac s.cs.length kc) (.slice aw s.ws.length kw)).toArray 27)).alloc (.cells (tcs (List.replicate s.cs.length ⟨0, 0, 0⟩)).toArray 86)).alloc (.map #[] 0)).alloc (.cells (bc s.st (.slice ac s.cs.length kc) (.slice aw s.ws.length kw) (w.heap.size + 1) s.cs.length (w.heap.size + 1 + 1) 0).toArray 176)) :=
        (((Below.refl _ _).alloc (Nat.le_refl _) _).alloc (by simp) _).alloc (by simp) _
      obtain ⟨p1, p2, p3⟩ := heap3 (w.alloc (.cells (nv s.st (.slice ac s.cs.length kc) (.slice aw s.ws.length kw)).toArray 27)) (.cells (tcs (List.replicate s.cs.length ⟨0, 0, 0⟩)).toArray 86) (.map #[] 0) (.cells (bc s.st (.slice ac s.cs.length kc) (.slice aw s.ws.length kw) (w.heap.size + 1) s.cs.length (w.heap.size + 1 + 1) 0).toArray 176)
      rw [World.size_alloc] at p1 p2 p3
      have HQ := Hid.intro' (Bu.new w s _ _ (fun g => g < w.heap.size) HC.out HW.out hb p3 p1 p2 (by omega) (by omega) (by omega) (fun k hk => by rcases hk with e | e | e <;> omega) (fun _ h => h))
      exact ⟨_, _, _, _, _, rfl, HQ.out.next (Below.refl _ _).drew⟩
    · have hb : Below (w.alloc (.cells (nv s.st (.slice ac s.cs.length kc) (.slice aw s.ws.length kw)).toArray 27)).heap.size (w.alloc (.cells (nv s.st (.slice ac s.cs.length kc) (.slice aw s.ws.length kw)).toArray 27)) ((((w.alloc (.cells (nv s.st (.slice ac s.cs.length kc) (.slice aw s.ws.length kw)).toArray 27)).alloc (.map #[] 0)).alloc (.cells (tcs (List.replicate s.cs.length ⟨0, 0, 0⟩)).toArray 86)).alloc (.cells (bc s.st (.slice ac s.cs.length kc) (.slice aw s.ws.length kw) (w.heap.size + 1 + 1) s.cs.length (w.heap.size + 1) 0).toArray 176)) :=
        (((Below.refl _ _).alloc (Nat.le_refl _) _).alloc (by simp) _).alloc (by simp) _
      obtain ⟨p1, p2, p3⟩ := heap3 (w.alloc (.cells (nv s.st (.slice ac s.cs.length kc) (.slice aw s.ws.length kw)).toArray 27)) (.map #[] 0) (.cells (tcs (List.replicate s.cs.length ⟨0, 0, 0⟩)).toArray 86) (.cells (bc s.st (.slice ac s.cs.length kc) (.slice aw s.ws.length kw) (w.heap.size + 1 + 1) s.cs.length (w.heap.size + 1) 0).toArray 176)
      rw [World.size_alloc] at p1 p2 p3
      have HQ := Hid.intro' (Bu.new w s _ _ (fun g => g < w.heap.size) HC.out HW.out hb p3 p2 p1 (by omega) (by omega) (by omega) (fun k hk => by rcases hk with e | e | e <;> omega) (fun _ h => h))
      exact ⟨_, _, _, _, _, rfl, HQ.out.next (Below.refl _ _).drew⟩
  case rest =>
    rintro e a W1 hq
    cases e with
    | normal =>
      obtain ⟨b, eb, mb, j8, j17, rfl, HU0⟩ := hq
      clear HN HB HC HW k1 k2 c13 c14 e0 e1 e2 e3 e4 e5 e6 e7 e8 e9 e10 e11 e12 g0 g1 g2 g3 g4 g5 g6 g7 g8 g9 g10 g11 g12 g13 g14
      have c13 : W1.cell? ⟨w.heap.size, 13, none⟩ = some (.slice ac s.cs.length kc) := HU0.out.nb.cell 13
      go_wp2_with fail
      clear c13
      go_loopw [22] (fun jv wr => ∃ (j : Nat) (es : List RM.Sp), j ≤ s.cs.length ∧ jv = .int .i64 (j : Int) ∧ Hid (es.length = s.cs.length ∧ ∀ i, i < j → es[i]? = (s.cs[i]?).map RM.bg) ∧ Hid (Bu w wr b eb mb s (.slice ac s.cs.length kc) (.slice aw s.ws.length kw) (fun g => g < w.heap.size) es (fun _ => none))) (fun jv _ => s.cs.length - (intOf jv).toNat)
      case atStart => exact ⟨0, _, Nat.zero_le _, rfl, ⟨by simp, fun i hi => by omega⟩, HU0⟩
      case round =>
        clear HU0
        obtain ⟨j, es, hj, rfl, HE, HU⟩ := hrel
        by_cases hlt : j < s.cs.length
        · have hjz : (j : Int) < (s.cs.length : Int) := by omega
          obtain ⟨r, hr⟩ : ∃ r, s.cs[j]? = some r := ⟨_, List.getElem?_eq_getElem hlt⟩
          obtain ⟨gc, oc, rfl, hc0, hc1⟩ := HU.out.rc.at hr
          obtain ⟨a0, ha0⟩ : ∃ a0, es[j]? = some a0 := ⟨_, List.getElem?_eq_getElem (by have := HE.out.1; omega)⟩
          have HA0 := Hid.intro' ha0
          have HE2 : Hid ((es.set j (RM.bg r)).length = s.cs.length ∧ ∀ i, i < j + 1 → (es.set j (RM.bg r))[i]? = (s.cs[i]?).map RM.bg) := by
            refine ⟨by rw [List.length_set]; exact HE.out.1, fun i hi => ?_⟩
            by_cases e : j = i
            · subst e
              rw [List.getElem?_set_self (by have := HE.out.1; omega), hr]; rfl
            · rw [List.getElem?_set_ne e]
              exact HE.out.2 i (by omega)
          have hba := (Below.refl wr.heap.size wr).alloc (Nat.le_refl _) (.cells #[.int .i64 r.1, .int .i64 r.2] 40)
          have HU2 := Hid.intro' (HU.out.next hba)
          have HRB : Hid ((wr.alloc (.cells #[.int .i64 r.1, .int .i64 r.2] 40)).heap[wr.heap.size]? = some (.cells #[.int .i64 r.1, .int .i64 r.2] 40 (0, 0))) := World.alloc_heap_new wr _
          clear hba ha0 hr HU
          go_wp2_with fail
          clear hc0 hc1
          generalize wr.heap.size = rb at HRB ⊢
          generalize (wr.alloc (.cells #[.int .i64 r.1, .int .i64 r.2] 40)) = W2 at HU2 HRB ⊢
          have H15 : Hid (∀ w', Below W2.drew.heap.size W2.drew w' → w'.cell? ⟨b, 15, none⟩ = some (.slice (some ⟨eb, 0, none⟩) s.cs.length s.cs.length)) := fun w' hw => by have := (HU2.out.bg.drew.below' hw).c15; rwa [HE.out.1] at this
          have HRV : Hid (∀ w', Below W2.drew.heap.size W2.drew w' → w'.heap[rb]? = some (.cells #[.int .i64 r.1, .int .i64 r.2] 40 (0, 0))) := fun w' hw => (hw.block rb (Array.getElem?_eq_some_iff.1 HRB.out).1).trans HRB.out
          refine wp_region_tail 8 (by kernel_rfl) (by kernel_rfl) ?_
          simp only [List.take_succ_cons, List.take_zero, List.drop_succ_cons, List.drop_zero]
          unfold wpCalm
          generalize hK : wpCalm Try.prog _ _ _ _ = K
          unfold Oper.calm
          go_simp
          refine ⟨_, fun _ _ => rfl, ?_⟩
          subst hK
          unfold wpCalm
          generalize hK : wpCalm Try.prog _ _ _ _ = K
          unfold Oper.calm
          go_simp
          refine ⟨_, fun _ _ => rfl, ?_⟩
          subst hK
          unfold wpCalm
          generalize hK : wpCalm Try.prog _ _ _ _ = K
          unfold Oper.calm
          go_simp
          refine ⟨_, fun _ _ => rfl, ?_⟩
          subst hK
          unfold wpCalm
          generalize hK : wpCalm Try.prog _ _ _ _ = K
          rw [if_pos (by go_simp)]
          refine calm_loadSE _ _ _ rfl rfl H15.out ?_
          go_simp
          subst hK
          unfold wpCalm
          generalize hK : wpCalm Try.prog _ _ _ _ = K
          unfold Oper.calm
          go_simp
          refine ⟨_, fun _ _ => rfl, ?_⟩
          subst hK
          unfold wpCalm
          generalize hK : wpCalm Try.prog _ _ _ _ = K
          rw [if_pos (by go_simp)]
          refine calm_loadRV _ rb r rfl rfl HRV.out ?_
          go_simp
          subst hK
          unfold wpCalm
          generalize hK : wpCalm Try.prog _ _ _ _ = K
          unfold Oper.calm
          go_simp
          refine ⟨_, fun w' hw => begin_any r.1 r.2 w', ?_⟩
          subst hK
          unfold wpCalm
          generalize hK : wpCalm Try.prog _ _ _ _ = K
          rw [if_pos (by go_simp)]
          refine calm_ixE _ _ rfl rfl rfl hlt ?_
          go_simp
          subst hK
          refine wpCalm_nil ?_
          intro W3 hb3
          have HU3 := Hid.intro' (HU2.out.next ((Below.refl _ W2).drew.trans hb3))
          clear hb3 H15 HRV HU2 HRB
          go_wp2_with (refine wpList_storeE rfl _ _ rfl HU3.out.bg HA0.out (RM.bg r) rfl rfl ?_)
          intro W4 hk4 hg4
          have HU4 := Hid.intro' (HU3.out.put (hk4.mono fun _ _ e => .inr (.inl e)) hg4)
          clear hk4 hg4 HU3
          go_wp2
          go_roundw
          case rel => exact ⟨j + 1, _, by omega, by go_num, HE2, HU4⟩
          case measure => simp [intOf]; omega
        · have hjz : ¬ (j : Int) < (s.cs.length : Int) := by omega
          have hes : es = s.cs.map RM.bg := by
            apply List.ext_getElem?
            intro i
            by_cases hi : i < j
            · rw [HE.out.2 i hi, List.getElem?_map]
            · rw [List.getElem?_eq_none (by have := HE.out.1; omega), List.getElem?_eq_none (by rw [List.length_map]; omega)]
          have c14 : wr.cell? ⟨w.heap.size, 14, none⟩ = some (.slice aw s.ws.length kw) := HU.out.nb.cell 14
          subst hes
          have HU5 : Hid (Bu w wr b eb mb s (.slice ac s.cs.length kc) (.slice aw s.ws.length kw) (fun g => g < w.heap.size) (s.cs.map RM.bg) (fun i => if 0 ≤ i ∧ i < ((0 : Nat) : Int) then s.ws[i.toNat]? else none)) := by
            have e : (fun i : Int => if 0 ≤ i ∧ i < ((0 : Nat) : Int) then s.ws[i.toNat]? else none) = fun _ => none := by funext i; rw [if_neg (by omega)]
            show Bu _ _ _ _ _ _ _ _ _ _ _
            rw [e]; exact HU.out
          clear HU HE
          go_wp2_with fail
          clear c14
          rename World => Wr
          go_loopw [39] (fun jv wr => ∃ (j : Nat), j ≤ s.ws.length ∧ jv = .int .i64 (j : Int) ∧ Hid (Bu w wr b eb mb s (.slice ac s.cs.length kc) (.slice aw s.ws.length kw) (fun g => g < w.heap.size) (s.cs.map RM.bg) (fun i => if 0 ≤ i ∧ i < (j : Int) then s.ws[i.toNat]? else none))) (fun jv _ => s.ws.length - (intOf jv).toNat)
          case atStart => exact ⟨0, Nat.zero_le _, rfl, HU5⟩
          case round =>
            clear HU5
            obtain ⟨j, hj, rfl, HU⟩ := hrel
            by_cases hlt : j < s.ws.length
            · have hjz : (j : Int) < (s.ws.length : Int) := by omega
              obtain ⟨y, hy⟩ : ∃ y, s.ws[j]? = some y := ⟨_, List.getElem?_eq_getElem hlt⟩
              obtain ⟨gw, ow, rfl, hc0, hc1⟩ := HU.out.rw.at hy
              have HY := Hid.intro' hy
              have hba := (Below.refl wr.heap.size wr).alloc (Nat.le_refl _) (.cells #[.int .i64 y.1, .int .i64 y.2] 58)
              have HU2 := Hid.intro' (HU.out.next hba)
              have HRB : Hid ((wr.alloc (.cells #[.int .i64 y.1, .int .i64 y.2] 58)).heap[wr.heap.size]? = some (.cells #[.int .i64 y.1, .int .i64 y.2] 58 (0, 0))) := World.alloc_heap_new wr _
              clear hba hy HU
              go_wp2_with fail
              clear hc0 hc1
              generalize wr.heap.size = rb at HRB ⊢
              generalize (wr.alloc (.cells #[.int .i64 y.1, .int .i64 y.2] 58)) = W2 at HU2 HRB ⊢
              have H16 : Hid (∀ w', Below W2.drew.heap.size W2.drew w' → w'.cell? ⟨b, 16, none⟩ = some (.map (some mb))) := fun w' hw => (HU2.out.bg.drew.below' hw).c16
              have HRV : Hid (∀ w', Below W2.drew.heap.size W2.drew w' → w'.heap[rb]? = some (.cells #[.int .i64 y.1, .int .i64 y.2] 58 (0, 0))) := fun w' hw => (hw.block rb (Array.getElem?_eq_some_iff.1 HRB.out).1).trans HRB.out
              refine wp_region_tail 6 (by kernel_rfl) (by kernel_rfl) ?_
              simp only [List.take_succ_cons, List.take_zero, List.drop_succ_cons, List.drop_zero]
              unfold wpCalm
              generalize hK : wpCalm Try.prog _ _ _ _ = K
              unfold Oper.calm
              go_simp
              refine ⟨_, fun _ _ => rfl, ?_⟩
              subst hK
              unfold wpCalm
              generalize hK : wpCalm Try.prog _ _ _ _ = K
              unfold Oper.calm
              go_simp
              refine ⟨_, fun _ _ => rfl, ?_⟩
              subst hK
              unfold wpCalm
              generalize hK : wpCalm Try.prog _ _ _ _ = K
              unfold Oper.calm
              go_simp
              refine ⟨_, fun _ _ => rfl, ?_⟩
              subst hK
              unfold wpCalm
              generalize hK : wpCalm Try.prog _ _ _ _ = K
              rw [if_pos (by go_simp)]
              refine calm_loadMB _ _ _ rfl rfl H16.out ?_
              go_simp
              subst hK
              unfold wpCalm
              generalize hK : wpCalm Try.prog _ _ _ _ = K
              unfold Oper.calm
              go_simp
              refine ⟨_, fun _ _ => rfl, ?_⟩
              subst hK
              unfold wpCalm
              generalize hK : wpCalm Try.prog _ _ _ _ = K
              rw [if_pos (by go_simp)]
              refine calm_loadWV _ rb y rfl rfl HRV.out ?_
              go_simp
              subst hK
              refine wpCalm_nil ?_
              intro W3 hb3
              have HU3 := Hid.intro' (HU2.out.next ((Below.refl _ W2).drew.trans hb3))
              obtain ⟨W4, hup, hm4, hk4⟩ := HU3.out.bg.hm.lay (k := (j : Int)) (by show (if 0 ≤ (j : Int) ∧ (j : Int) < (j : Int) then _ else _) = _; rw [if_neg (by omega)]) y
              have hf : (fun i : Int => if i = (j : Int) then some y else if 0 ≤ i ∧ i < (j : Int) then s.ws[i.toNat]? else none) = fun i => if 0 ≤ i ∧ i < ((j + 1 : Nat) : Int) then s.ws[i.toNat]? else none := by
                funext i
                by_cases e : i = (j : Int)
                · rw [if_pos e, if_pos (by omega), e, Int.toNat_natCast, HY.out]
                · rw [if_neg e]
                  by_cases h : 0 ≤ i ∧ i < (j : Int)
                  · rw [if_pos h, if_pos (by omega)]
                  · rw [if_neg h, if_neg (by omega)]
              rw [hf] at hm4
              have HU4 := Hid.intro' (HU3.out.put (es' := s.cs.map RM.bg) (hk4.mono fun _ _ e => .inr (.inr e)) ⟨(hk4.block b HU3.out.bg.lb HU3.out.bg.n2).trans HU3.out.bg.hb, (hk4.block eb HU3.out.bg.le HU3.out.bg.n3).trans HU3.out.bg.he, hm4, HU3.out.bg.n1, HU3.out.bg.n2, HU3.out.bg.n3⟩)
              clear hb3 H16 HRV HU2 HRB hf hm4 hk4 HU3
              go_wp2
              go_roundw
              case rel => exact ⟨j + 1, by omega, by go_num, HU4⟩
              case measure => simp [intOf]; omega
            · have hjz : ¬ (j : Int) < (s.ws.length : Int) := by omega
              have HE : Hid (Bg wr b eb mb s.st (.slice ac s.cs.length kc) (.slice aw s.ws.length kw) (s.cs.map RM.bg) (lfm s (List.replicate s.ws.length false)) 0 ∧ Below w.heap.size w wr ∧ ∀ k, bp b eb mb k → w.heap.size ≤ k) := by
                have e : (fun i : Int => if 0 ≤ i ∧ i < (j : Int) then s.ws[i.toNat]? else none) = lfm s (List.replicate s.ws.length false) := by
                  funext i
                  unfold lfm
                  by_cases h : 0 ≤ i ∧ i < (j : Int)
                  · rw [if_pos h, if_pos ⟨h.1, by rw [List.getElem?_replicate, if_pos (by omega)]⟩]
                  · rw [if_neg h, if_neg]
                    rintro ⟨h1, h2⟩
                    rw [List.getElem?_replicate] at h2
                    split at h2
                    · omega
                    · cases h2
                have hbg := HU.out.bg
                rw [e] at hbg
                exact ⟨hbg, HU.out.bel, fun k hk => Nat.le_of_lt (HU.out.nw k hk)⟩
              clear HU
              go_wp2
              go_ret
              exact ⟨b, rfl, eb, mb, HE.out⟩
    | _ => exact hq.elim
end
end Go.Proofs.Ytagmidolcdefiah
