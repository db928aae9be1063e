/- Several texts in one, each with its own head. -/
import Derived.Test.YtdfdkddjkhcgdahPlE
import Derived.Test.YtdfdkddjkhcgdahPlS
import Derived.Test.YtdfdkddjkhcgdahPk0
import Derived.Test.YtdfdkddjkhcgdahPk1
import Derived.StillTail
import Derived.Deep.Quiet
/- A plan on its way: the last want is taken back; whether a list may end; whether nothing is left. -/
namespace Go.Proofs.Ytdfdkddjkhcgdah
open Go.RowKit

section
variable {W : World} {B b sb lb : Nat} {vw : Value} {vs : List Value} {G : Nat → Prop} {ws : List (Int × Int)} {st : List Bool} {ls : List (List Int)}
theorem shr1_any (m c : Nat) (hc : c ≤ 8) (W : World) : (binOp .shr 3 (.int .i64 (m : Int)) (.int .i64 ((c : Int) + 1))).run Try.prog W = .ok (.int .i64 ((m / 2 ^ (c + 1) : Nat) : Int)) W := by
  have := shr_any m (c + 1) (by omega) W
  rwa [Int.natCast_add] at this
theorem div_zero (m c : Nat) : ((m : Int) / 2 ^ (c + 1) == 0) = (m / 2 ^ (c + 1) == 0) := by
  have h : (m : Int) / 2 ^ (c + 1) = ((m / 2 ^ (c + 1) : Nat) : Int) := by rw [Int.natCast_ediv, Int.natCast_pow]; rfl
  rw [h, Bool.eq_iff_iff]
  simp only [beq_iff_eq]
  omega
set_option maxHeartbeats 1000000 in
theorem everyB (g n : Nat) (st : List Bool) (w : World) (hg : w.heap[g]? = some (.cells (bv st).toArray 4 (0, 0))) (hn : st.length = n) (hL : n ≤ 200) :
    Calls Try.prog 90 #[.slice (some ⟨g, 0, none⟩) n n, .func (.func 91) #[] #[]] w fun e w' => e = .returned (.bool (st.all id)) ∧ w' = w := by
  have HG := Hid.intro' hg
  have HN := Hid.intro' hn
  clear hg hn
  go_enter Try.func90, Try.ntmps90
  go_wp2
  go_loop [6, 9] (fun _ i => ∃ k : Nat, k ≤ n ∧ i = .int .i64 k ∧ Hid ((st.take k).all id = true)) (fun _ i => n - (intOf i).toNat)
  case atStart => exact ⟨0, Nat.zero_le _, rfl, rfl⟩
  case round =>
    obtain ⟨k, hk, rfl, HNO⟩ := hrel
    by_cases hlt2 : k < n
    · have hkz : (k : Int) < (n : Int) := by omega
      obtain ⟨y, hy⟩ : ∃ y, st[k]? = some y := ⟨_, List.getElem?_eq_getElem (by have := HN.out; omega)⟩
      have c0 : w.cell? ⟨g, k, none⟩ = some (.bool y) := (blk_cell HG.out k).trans (bv_some hy)
      have HY := Hid.intro' hy
      clear hy
      cases y with
      | true =>
        go_wp2
        go_round
        case rel => exact ⟨k + 1, by omega, by go_num, by rw [all_take HY.out, HNO.out]; rfl⟩
        case measure => simp [intOf]; omega
      | false =>
        go_wp2
        go_ret
        exact ⟨ret_bool (all_not HY.out rfl).symm, rfl⟩
    · have HKN : Hid (k = n) := by show k = n; omega
      have hkz : ¬ (k : Int) < (n : Int) := by omega
      go_wp2
      go_ret
      refine ⟨ret_bool ?_, rfl⟩
      have h1 := HNO.out
      rw [HKN.out, ← HN.out, List.take_length] at h1
      exact h1.symm
set_option maxHeartbeats 1000000 in
theorem nothingLeft_any (h : Dq W B b sb lb vw vs G ws st ls) (hwl : st.length ≤ 200) :
    Calls Try.prog 68 #[.pointer (some ⟨b, 0, none⟩)] W fun e w' => e = .returned (.bool (st.all id)) ∧ w' = W := by
  have c1 := h.c1
  have HC := Hid.intro' (everyB sb st.length st W h.hs rfl hwl)
  clear h
  go_enter Try.func68, Try.ntmps68
  go_wp2_with fail
  refine HC.out.mono ?_
  rintro e w' ⟨rfl, rfl⟩
  clear HC
  go_wp2
  go_ret
  exact ⟨rfl, rfl⟩
end
end Go.Proofs.Ytdfdkddjkhcgdah

/- A new plan on its way; whether a plan may be, as the program tells it. -/
namespace Go.Proofs.Ytdfdkddjkhcgdah
open Go.RowKit

theorem made_one (z : Value) (hz : z.cells = #[z]) (n : Nat) : madeCells z.cells n = (List.replicate n z).toArray := by
  apply Array.ext
  · rw [size_madeCells]; simp
  · intro i h1 h2
    simp only [madeCells, hz, List.getElem_toArray, List.getElem_replicate]
    simp [Nat.mod_one]
theorem info_h {t : TypeId} {v : Value} {a b : Nat} (h : (Try.prog.info? t).map (fun i => (i.zero, i.size, i.bytes)) = some (some v, a, b)) : ∃ i, Try.prog.info? t = some i ∧ i.zero = some v ∧ i.size = a ∧ i.bytes = b := by
  obtain ⟨i, h1, h2⟩ := Option.map_eq_some_iff.1 h
  simp only [Prod.mk.injEq] at h2
  exact ⟨i, h1, h2.1, h2.2.1, h2.2.2⟩
theorem infoHB : (Try.prog.info? 4).map (fun i => (i.zero, i.size, i.bytes)) = some (some (.bool false), 1, 1) := by kernel_rfl
theorem infoHL : (Try.prog.info? 58).map (fun i => (i.zero, i.size, i.bytes)) = some (some (.slice none 0 0), 1, 24) := by kernel_rfl
theorem infoHI : (Try.prog.info? 3).map (fun i => (i.zero, i.size, i.bytes)) = some (some (.int .i64 0), 1, 8) := by kernel_rfl
theorem mkB (n : Nat) (hn : n ≤ 1000) (W : World) : (Instr.makeSlice 157 (.int .i64 (n : Int)) (.int .i64 (n : Int))).run Try.prog W = .ok (.slice (some ⟨W.heap.size, 0, none⟩) n n) (W.alloc (.cells (List.replicate n (Value.bool false)).toArray 4)) := by
  obtain ⟨i, hi, h1, h2, h3⟩ := info_h infoHB
  have := run_make (P := Try.prog) W 157 4 i _ Try.underlying157 hi h1 .i64 .i64 (n : Int) (n : Int) (by omega) (by omega) (by
    have : (i.bytes : Int) * (n : Int) ≤ 24 * 1000 := Int.mul_le_mul (by omega) (by omega) (by omega) (by omega)
    omega) (by omega)
  rw [this, h2, Int.toNat_natCast, made_one _ rfl, Nat.mul_one]
theorem mkL (n : Nat) (hn : n ≤ 1000) (W : World) : (Instr.makeSlice 32 (.int .i64 (n : Int)) (.int .i64 (n : Int))).run Try.prog W = .ok (.slice (some ⟨W.heap.size, 0, none⟩) n n) (W.alloc (.cells (List.replicate n (Value.slice none 0 0)).toArray 58)) := by
  obtain ⟨i, hi, h1, h2, h3⟩ := info_h infoHL
  have := run_make (P := Try.prog) W 32 58 i _ Try.underlying32 hi h1 .i64 .i64 (n : Int) (n : Int) (by omega) (by omega) (by
    have : (i.bytes : Int) * (n : Int) ≤ 24 * 1000 := Int.mul_le_mul (by omega) (by omega) (by omega) (by omega)
    omega) (by omega)
  rw [this, h2, Int.toNat_natCast, made_one _ rfl, Nat.mul_one]
theorem mkI (n : Nat) (hn : n ≤ 1000) (W : World) : (Instr.makeSlice 58 (.int .i64 (n : Int)) (.int .i64 (n : Int))).run Try.prog W = .ok (.slice (some ⟨W.heap.size, 0, none⟩) n n) (W.alloc (.cells (List.replicate n (Value.int .i64 0)).toArray 3)) := by
  obtain ⟨i, hi, h1, h2, h3⟩ := info_h infoHI
  have := run_make (P := Try.prog) W 58 3 i _ Try.underlying58 hi h1 .i64 .i64 (n : Int) (n : Int) (by omega) (by omega) (by
    have : (i.bytes : Int) * (n : Int) ≤ 24 * 1000 := Int.mul_le_mul (by omega) (by omega) (by omega) (by omega)
    omega) (by omega)
  rw [this, h2, Int.toNat_natCast, made_one _ rfl, Nat.mul_one]
theorem bv_rep (n : Nat) : bv (List.replicate n false) = List.replicate n (Value.bool false) := by unfold bv; rw [List.map_replicate]

theorem heap3 (w : World) (o1 o2 o3 : Obj) : (((w.alloc o1).alloc o2).alloc o3).heap[w.heap.size]? = some o1 ∧ (((w.alloc o1).alloc o2).alloc o3).heap[w.heap.size + 1]? = some o2 ∧ (((w.alloc o1).alloc o2).alloc o3).heap[w.heap.size + 1 + 1]? = some o3 := by
  have h1 := World.alloc_heap_new w o1
  have h2 := World.alloc_heap_new (w.alloc o1) o2
  have h3 := World.alloc_heap_new ((w.alloc o1).alloc o2) o3
  rw [World.size_alloc] at h2
  rw [World.size_alloc, World.size_alloc] at h3
  exact ⟨(Below.heap_alloc _ _ _ (by simp; omega)).trans ((Below.heap_alloc _ _ _ (by simp)).trans h1), (Below.heap_alloc _ _ _ (by simp)).trans h2, h3⟩

/-- a new one, whatever order its blocks have -/
theorem Dq.new {W W' : World} {G : Nat → Prop} {vw : Value} {ws : List (Int × Int)} {n m b sb lb : Nat} (hr : R2 G W vw ws) (hG : ∀ g, G g → g < W.heap.size) (hb : Below W.heap.size W W')
    (h1 : W'.heap[b]? = some (.cells [vw, .slice (some ⟨sb, 0, none⟩) m m, .slice (some ⟨lb, 0, none⟩) n n].toArray 159 (0, 0)))
    (h2 : W'.heap[sb]? = some (.cells (List.replicate m (Value.bool false)).toArray 4 (0, 0))) (h3 : W'.heap[lb]? = some (.cells (List.replicate n (Value.slice none 0 0)).toArray 58 (0, 0)))
    (n1 : b ≠ sb) (n2 : b ≠ lb) (n3 : sb ≠ lb) (l1 : W.heap.size ≤ b) (l2 : W.heap.size ≤ sb) (l3 : W.heap.size ≤ lb) :
    Dq W' W.heap.size b sb lb vw (List.replicate n (Value.slice none 0 0)) G ws (List.replicate m false) (List.replicate n []) := by
  have hnil : ∀ (c : Nat) v, (List.replicate n (Value.slice none 0 0))[c]? = some v → v = .slice none 0 0 := fun c v hv => by
    rw [List.getElem?_replicate] at hv
    split at hv
    · cases hv; rfl
    · cases hv
  refine ⟨by simpa using h1, by rw [bv_rep]; exact h2, h3, by simp, n1, n2, n3, fun c v l hv hl => ?_, fun c v g hv hg => ?_, fun c d v u g hv hu hg => ?_, l1, l2, l3, hr.below' hb, hG⟩
  · rw [hnil c v hv]
    rw [List.getElem?_replicate] at hl
    split at hl
    · cases hl; exact OI.nil _ _
    · cases hl
  · rw [hnil c v hv] at hg; cases hg
  · rw [hnil c v hv] at hg; cases hg

set_option maxHeartbeats 4000000 in
theorem newDraft_any (n : Nat) (hn : n ≤ 1000) (G : Nat → Prop) (vw : Value) (ws : List (Int × Int)) (w : World) (hr : R2 G w vw ws) (hG : ∀ g, G g → g < w.heap.size) (hws : ws.length ≤ 1000) :
    Calls Try.prog 65 #[.int .i64 (n : Int), vw] w fun e w' => ∃ b sb lb, e = .returned (.pointer (some ⟨b, 0, none⟩)) ∧
      Dq w' w.heap.size b sb lb vw (List.replicate n (Value.slice none 0 0)) G ws (List.replicate ws.length false) (List.replicate n []) ∧ Below w.heap.size w w' := by
  have HR := Hid.intro' hr
  have HG := Hid.intro' hG
  obtain ⟨a, cap, rfl, _, _⟩ := hr.form
  clear hr hG
  generalize hm : ws.length = m at hws
  rw [hm] at HR
  have k1 := mkB m hws
  have k2 := mkL n hn
  clear hm
  go_enter Try.func65, Try.ntmps65
  go_wp2_with fail
  go_region
  · have hb : Below w.heap.size w (((w.alloc (.cells (Array.replicate m (Value.bool false)) 4)).alloc (.cells (Array.replicate n (Value.slice none 0 0)) 58)).alloc (.cells #[.slice a m cap, .slice (some ⟨w.heap.size, 0, none⟩) m m, .slice (some ⟨w.heap.size + 1, 0, none⟩) n n] 159)).drew :=
      ((((Below.refl _ w).alloc (Nat.le_refl _) _).alloc (by simp) _).alloc (by simp; omega) _).drew
    obtain ⟨p1, p2, p3⟩ := heap3 w (.cells (Array.replicate m (Value.bool false)) 4) (.cells (Array.replicate n (Value.slice none 0 0)) 58) (.cells #[.slice a m cap, .slice (some ⟨w.heap.size, 0, none⟩) m m, .slice (some ⟨w.heap.size + 1, 0, none⟩) n n] 159)
    have HQ := Hid.intro' (And.intro (Dq.new (n := n) (m := m) (b := w.heap.size + 1 + 1) (sb := w.heap.size) (lb := w.heap.size + 1) HR.out HG.out hb p3 (by rw [List.toArray_replicate]; exact p1) (by rw [List.toArray_replicate]; exact p2) (by omega) (by omega) (by omega) (by omega) (by omega) (by omega)) hb)
    clear hb p1 p2 p3 k1 k2
    go_wp2
    go_ret
    exact ⟨_, _, _, rfl, HQ.out.1, HQ.out.2⟩
  · have hb : Below w.heap.size w (((w.alloc (.cells (Array.replicate n (Value.slice none 0 0)) 58)).alloc (.cells (Array.replicate m (Value.bool false)) 4)).alloc (.cells #[.slice a m cap, .slice (some ⟨w.heap.size + 1, 0, none⟩) m m, .slice (some ⟨w.heap.size, 0, none⟩) n n] 159)).drew :=
      ((((Below.refl _ w).alloc (Nat.le_refl _) _).alloc (by simp) _).alloc (by simp; omega) _).drew
    obtain ⟨p1, p2, p3⟩ := heap3 w (.cells (Array.replicate n (Value.slice none 0 0)) 58) (.cells (Array.replicate m (Value.bool false)) 4) (.cells #[.slice a m cap, .slice (some ⟨w.heap.size + 1, 0, none⟩) m m, .slice (some ⟨w.heap.size, 0, none⟩) n n] 159)
    have HQ := Hid.intro' (And.intro (Dq.new (n := n) (m := m) (b := w.heap.size + 1 + 1) (sb := w.heap.size + 1) (lb := w.heap.size) HR.out HG.out hb p3 (by rw [List.toArray_replicate]; exact p2) (by rw [List.toArray_replicate]; exact p1) (by omega) (by omega) (by omega) (by omega) (by omega) (by omega)) hb)
    clear hb p1 p2 p3 k1 k2
    go_wp2
    go_ret
    exact ⟨_, _, _, rfl, HQ.out.1, HQ.out.2⟩
theorem wok_iff' {fl : Int} {n : Nat} {x : Int × Int} : wok fl n x = true ↔ 0 ≤ x.1 ∧ x.1 < fl ∧ 0 < x.2 ∧ x.2 < 2 ^ n := by unfold wok; simp [and_assoc]
/-- the masks of a right snapshot's wants -/
def msk (s : Sn) : List Nat := s.ws.map fun y => y.2.toNat
/-- what is known of a right snapshot -/
structure Rs (s : Sn) (n : Nat) : Prop where
  ca : s.st.ca = (n : Int)
  n1 : 1 ≤ n
  n8 : n ≤ 8
  cl : s.cs.length = n
  wl : s.ws.length ≤ 128
  mm : Mk s.ws (msk s)
  lt : ∀ m ∈ msk s, m < 2 ^ n
theorem rgt_rs {s : Sn} (h : rgt s = true) : ∃ n, Rs s n := by
  unfold rgt at h
  simp only [Bool.and_eq_true, decide_eq_true_eq] at h
  obtain ⟨⟨⟨⟨h1, h2⟩, h3⟩, h4⟩, h5⟩ := h
  obtain ⟨n, hn8, hn1, hca⟩ := ca_nat ((rightB_iff _).1 h1)
  rw [hca, Int.toNat_natCast, List.all_eq_true] at h5
  have hlt : ∀ y ∈ s.ws, 0 < y.2 ∧ y.2 < 2 ^ n := fun y hy => by
    have := wok_iff'.1 (h5 y hy)
    exact ⟨this.2.2.1, this.2.2.2⟩
  refine ⟨n, hca, hn1, hn8, by omega, h3, ⟨by unfold msk; simp, fun i y hy => ?_⟩, fun m hm => ?_⟩
  · have h6 := hlt y (List.mem_of_getElem? hy)
    exact ⟨y.2.toNat, by unfold msk; rw [List.getElem?_map, hy]; rfl, by omega⟩
  · unfold msk at hm
    obtain ⟨y, hy, rfl⟩ := List.mem_map.1 hm
    have h6 := hlt y hy
    have h7 : ((2 ^ n : Nat) : Int) = 2 ^ n := by rw [Int.natCast_pow]; rfl
    omega

end Go.Proofs.Ytdfdkddjkhcgdah

/- Steps of regions that only read. -/
namespace Go.Proofs.Ytdfdkddjkhcgdah
open Go.RowKit

theorem quiet_val {P : Program} {C : World → Prop} {K : Act → Prop} {o : Oper} {a : Act} (v : Value) (hrun : ∀ w, C w → (execOp a.eval o).run P w = .ok (.value v) w) (h : K (a.put o.dst v)) : o.quiet P a C K :=
  ⟨v, fun w hw => by unfold Oper.quietAt; rw [hrun w hw]; exact ⟨rfl, rfl⟩, h⟩
theorem quiet_load3 {C : World → Prop} {K : Act → Prop} {o : Oper} {a : Act} (x : Operand) (b k : Nat) {v : Value} (ho : o.op = .load 3 x) (hx : a.eval x = .pointer (some ⟨b, k, none⟩)) (hr : ∀ w, C w → w.cell? ⟨b, k, none⟩ = some v)
    (h : K (a.put o.dst v)) : o.quiet Try.prog a C K :=
  quiet_val _ (fun w hw => by unfold execOp; simp only [ho, hx, Sem.run_bind, Sem.run_pure, Result.andThen_ok, load3 w b k v (hr w hw)]) h
theorem quiet_load27 {C : World → Prop} {K : Act → Prop} {o : Oper} {a : Act} (x : Operand) (b : Nat) (s : St) (vc vw : Value) (ho : o.op = .load 27 x) (hx : a.eval x = .pointer (some ⟨b, 0, none⟩)) (hr : ∀ w, C w → NB w b s vc vw)
    (h : K (a.put o.dst (.agg (nv s vc vw).toArray))) : o.quiet Try.prog a C K :=
  quiet_val _ (fun w hw => by unfold execOp; simp only [ho, hx, Sem.run_bind, Sem.run_pure, Result.andThen_ok, load27 w b s vc vw (hr w hw).range]) h

end Go.Proofs.Ytdfdkddjkhcgdah

/- When a want is served, as the document tells it. -/
namespace Go.Proofs.Ytdfdkddjkhcgdah
open Go.RowKit

theorem take_snoc {α : Type} {l : List α} {j : Nat} {y : α} (h : l[j]? = some y) : l.take (j + 1) = l.take j ++ [y] := by rw [List.take_add_one, h]; rfl
/-- a snapshot that is right has routes -/
theorem rgt_rz {s : Sn} (h : rgt s = true) : RM.Rz s.st s.ws s.cs := by
  unfold rgt at h
  simp only [Bool.and_eq_true, decide_eq_true_eq] at h
  obtain ⟨⟨⟨⟨h1, _⟩, _⟩, h4⟩, h5⟩ := h
  rw [List.all_eq_true] at h4 h5
  refine ⟨(rightB_iff _).1 h1, fun r hr => ?_, fun y hy => ?_⟩
  · have := h4 r hr
    unfold cok at this
    simp only [Bool.and_eq_true, decide_eq_true_eq] at this
    exact RM.bg_ok this.1.1.1 this.1.1.2 this.1.2
  · have := wok_iff'.1 (h5 y hy)
    exact ⟨this.1, this.2.1⟩
theorem rgt_after {s : Sn} (h : rgt s = true) : ∀ r ∈ s.cs, r.2 ≤ 1000000 := fun r hr => by
  unfold rgt at h
  simp only [Bool.and_eq_true, decide_eq_true_eq] at h
  obtain ⟨⟨⟨⟨_, _⟩, _⟩, h4⟩, _⟩ := h
  rw [List.all_eq_true] at h4
  have := h4 r hr
  unfold cok at this
  simp only [Bool.and_eq_true, decide_eq_true_eq] at this
  exact this.2

set_option maxHeartbeats 4000000 in
theorem rtime_at (s : Sn) (D : Nat → Prop) (vc vw vl : Value) (c i : Nat) (r : Int × Int) (l : List Int) (w : World) (hc : R2 D w vc s.cs) (hw : R2 D w vw s.ws) (hl : RI D w vl l) (hr : s.cs[c]? = some r) (x : Int) (hi : l[i]? = some x)
    (z : RM.Rz s.st s.ws s.cs) (hx : ∀ x ∈ l, 0 ≤ x ∧ x < s.ws.length) (hib : i ≤ 1000) (hra : r.2 ≤ 10000000) (T : Int) (HTT : Hid (RM.ar s.st (RM.go s.st (RM.bg r) ((l.take i).map (RM.wf s.ws))) (RM.wf s.ws x) = T)) :
    Calls Try.prog 75 #[.agg (nv s.st vc vw).toArray, .int .i64 (c : Int), vl, .int .i64 (i : Int)] w fun e w' => e = .returned (.int .i64 T) ∧ Below w.heap.size w w' := by
  have hbx := (Below.refl w.heap.size w).alloc (Nat.le_refl _) (.cells (nv s.st vc vw).toArray 27)
  have HN := Hid.intro' (NB.new w s.st vc vw)
  have HB := Hid.intro' hbx
  have HW := Hid.intro' (hw.below' hbx)
  have HL := Hid.intro' (hl.below' hbx)
  obtain ⟨ac, kc, rfl, _, _⟩ := hc.form
  obtain ⟨aw, kw, rfl, _, _⟩ := hw.form
  obtain ⟨al, kl, rfl, _, _⟩ := hl.form
  obtain ⟨gc, oc, rfl, e1, e2⟩ := (hc.below' hbx).at hr
  have c13 : (w.alloc (.cells (nv s.st (.slice (some ⟨gc, oc, none⟩) s.cs.length kc) (.slice aw s.ws.length kw)).toArray 27)).cell? ⟨w.heap.size, 13, none⟩ = some (.slice (some ⟨gc, oc, none⟩) s.cs.length kc) := HN.out.cell 13
  have hcz : (c : Int) < (s.cs.length : Int) := by have := (List.getElem?_eq_some_iff.1 hr).1; omega
  have HOK := Hid.intro' (z.cr r (List.mem_of_getElem? hr))
  have HZ := Hid.intro' z
  have HX := Hid.intro' hx
  have HI := Hid.intro' hi
  have HRA := Hid.intro' hra
  have hil : i < l.length := (List.getElem?_eq_some_iff.1 hi).1
  clear hc hw hl hbx hr hi hx z hra
  go_enter Try.func75, Try.ntmps75
  go_wp2_with fail
  clear c13 e1 e2
  generalize w.alloc (.cells (nv s.st (.slice (some ⟨gc, oc, none⟩) s.cs.length kc) (.slice aw s.ws.length kw)).toArray 27) = X at HN HB HW HL ⊢
  go_loopw [9, 10, 11, 12] (fun tv fv hv iv W => ∃ (j : Nat) (t fa ha la : Int), j ≤ i + 1 ∧ tv = .int .i64 t ∧ fv = .int .i64 fa ∧ hv = .int .i64 ha ∧ iv = .int .i64 (j : Int) ∧ Hid ((⟨fa, ha, la⟩ : RM.Sp) = RM.go s.st (RM.bg r) ((l.take j).map (RM.wf s.ws))) ∧ Hid (ha = -1 → t = la) ∧ Hid (RM.Ok s.st ⟨fa, ha, la⟩) ∧ Hid (la ≤ r.2 + 68002 * (j : Int)) ∧ Hid (Below X.heap.size X W)) (fun _ _ _ iv _ => i + 1 - (intOf iv).toNat)
  case atStart => exact ⟨0, r.2, r.1, -1, r.2, Nat.zero_le _, rfl, rfl, rfl, rfl, rfl, fun _ => rfl, HOK, by show r.2 ≤ _; omega, Below.refl _ _⟩
  case round =>
    obtain ⟨j, t, fa, ha, la, hj, rfl, rfl, rfl, rfl, HA, HT, HO, HLE, HBW⟩ := hrel
    by_cases hlt : j ≤ i
    · have hjz : (j : Int) ≤ (i : Int) := by omega
      obtain ⟨y, hy⟩ : ∃ y, l[j]? = some y := ⟨_, List.getElem?_eq_getElem (by omega)⟩
      have hyr := HX.out y (List.mem_of_getElem? hy)
      obtain ⟨k, rfl⟩ : ∃ k : Nat, y = (k : Int) := ⟨y.toNat, by omega⟩
      obtain ⟨gl, ol, rfl, hcy⟩ := (HL.out.below' HBW.out).at hy
      obtain ⟨q, hq⟩ : ∃ q, s.ws[k]? = some q := ⟨_, List.getElem?_eq_getElem (by omega)⟩
      obtain ⟨gw, ow, rfl, hcq, _⟩ := (HW.out.below' HBW.out).at hq
      have hkz : (k : Int) < (s.ws.length : Int) := by omega
      have hjl : (j : Int) < (l.length : Int) := by omega
      have HN1 := Hid.intro' (HN.out.below' HBW.out)
      have c14 : wr.cell? ⟨w.heap.size, 14, none⟩ = some (.slice (some ⟨gw, ow, none⟩) s.ws.length kw) := HN1.out.cell 14
      have HWF : Hid (RM.wf s.ws (k : Int) = q.1) := RM.wf_get hq
      have HFR := Hid.intro' (HZ.out.wf hyr.1 hyr.2)
      have HA2 : Hid (RM.nx s.st ⟨fa, ha, la⟩ q.1 = RM.go s.st (RM.bg r) ((l.take (j + 1)).map (RM.wf s.ws))) := by
        show _ = _
        rw [take_snoc hy, List.map_append, RM.go_append, ← HA.out, List.map_cons, List.map_nil, HWF.out]; rfl
      rw [HWF.out] at HFR
      obtain ⟨q1, q2⟩ := q
      have HO2 := Hid.intro' (RM.nx_ok HZ.out.rt HO.out HFR.out.1 HFR.out.2)
      have HAL := Hid.intro' (RM.ar_le HZ.out.rt HO.out q1)
      have HAN := Hid.intro' (RM.ar_nn HZ.out.rt HO.out q1)
      have HDW := Hid.intro' (RM.dw_bd HZ.out.rt)
      have HTR := Hid.intro' (SM.trav_bd HZ.out.rt fa q1)
      have HLN := Hid.intro' HO.out.l0
      have HLL := Hid.intro' (show la ≤ 80000000 by have := HLE.out; have := HRA.out; omega)
      clear hy hq hyr
      simp only at hcq
      by_cases hh : ha = -1
      · subst hh
        have HNX : Hid (RM.nx s.st ⟨fa, -1, la⟩ q1 = ⟨q1, la + SM.trav s.st fa q1, la + SM.trav s.st fa q1 + RM.dw s.st⟩) := by
          show _ = _
          unfold RM.nx
          rw [if_neg (fun h => h.1 rfl)]
        have htl : t = la := HT.out rfl
        subst htl
        go_wp2_with fail
        go_region
        clear hcy hcq c14
        have HN2 := Hid.intro' HN1.out.drew
        have HBW2 := Hid.intro' HBW.out.drew
        generalize wr.drew = Wd at HN2 HBW2 ⊢
        go_wp2_with (refine wpList_load23n rfl _ rfl w.heap.size s.st _ _ rfl HN2.out ?_)
        refine (rtravel_any s.st HZ.out.rt fa q1 _).mono ?_
        rintro e W3 ⟨rfl, hb3⟩
        have HB3 := Hid.intro' (below_class HBW2.out hb3)
        generalize hTR : SM.trav s.st fa q1 = tr at HTR HNX
        have hw1 : IntKind.i64.wrap (t + tr) = t + tr := IntWalk.i64_in _ (by have := HTR.out; have := HLL.out; have := HLN.out; omega)
        clear hb3 hTR
        go_wp2
        go_roundw
        case rel =>
          refine ⟨j + 1, _, q1, t + tr, t + tr + RM.dw s.st, by omega, rfl, rfl, by go_num, by go_num, ?_, ?_, ?_, ?_, HB3⟩
          · have h1 := HA2.out; rw [HNX.out] at h1; exact h1
          · intro h2; have := HTR.out; have := HLN.out; omega
          · have h1 := HO2.out; rw [HNX.out] at h1; exact h1
          · show t + tr + RM.dw s.st ≤ _
            have := HTR.out; have := HDW.out; have := HLE.out
            omega
        case measure => simp [intOf]; omega
      · have HH := Hid.intro' (show 0 ≤ ha ∧ la = ha + RM.dw s.st from HO.out.hh.resolve_left hh)
        have hge : 0 ≤ ha := HH.out.1
        by_cases hf : q1 = fa
        · subst hf
          have HNX : Hid (RM.nx s.st ⟨q1, ha, la⟩ q1 = ⟨q1, ha, la⟩) := by
            show _ = _
            unfold RM.nx
            rw [if_pos ⟨hh, rfl⟩]
          clear hh
          go_wp2_with fail
          go_region
          clear hcy hcq c14
          have HBW2 := Hid.intro' HBW.out.drew
          generalize wr.drew = Wd at HBW2 ⊢
          go_wp2
          go_roundw
          case rel =>
            refine ⟨j + 1, t, q1, ha, la, by omega, rfl, rfl, rfl, by go_num, ?_, HT, HO, ?_, HBW2⟩
            · have h1 := HA2.out; rw [HNX.out] at h1; exact h1
            · show la ≤ _
              have := HLE.out
              omega
          case measure => simp [intOf]; omega
        · have HNX : Hid (RM.nx s.st ⟨fa, ha, la⟩ q1 = ⟨q1, la + SM.trav s.st fa q1, la + SM.trav s.st fa q1 + RM.dw s.st⟩) := by
            show _ = _
            unfold RM.nx
            rw [if_neg (fun h => hf h.2.symm)]
          have hfz : (q1 == fa) = false := by rw [beq_eq_false_iff_ne]; exact hf
          clear hh
          go_wp2_with fail
          go_region
          clear hcy hcq c14
          have HN2 := Hid.intro' HN1.out.drew
          have HBW2 := Hid.intro' HBW.out.drew
          generalize wr.drew = Wd at HN2 HBW2 ⊢
          have c5 : Wd.cell? ⟨w.heap.size, 5, none⟩ = some (.int .i64 s.st.opn) := HN2.out.cell 5
          have c6 : Wd.cell? ⟨w.heap.size, 6, none⟩ = some (.int .i64 s.st.wai) := HN2.out.cell 6
          have c7 : Wd.cell? ⟨w.heap.size, 7, none⟩ = some (.int .i64 s.st.clo) := HN2.out.cell 7
          have o1 := HZ.out.rt.opn1; have o2 := HZ.out.rt.opn2; have o3 := HZ.out.rt.wai1; have o4 := HZ.out.rt.wai2; have o5 := HZ.out.rt.clo1; have o6 := HZ.out.rt.clo2
          have HHB := Hid.intro' (show ha ≤ 80000000 by have := HH.out.2; have := HDW.out; have := HLL.out; omega)
          have w1 : IntKind.i64.wrap (ha + s.st.opn) = ha + s.st.opn := IntWalk.i64_in _ (by have := HHB.out; omega)
          have w2 : IntKind.i64.wrap (ha + s.st.opn + s.st.wai) = ha + s.st.opn + s.st.wai := IntWalk.i64_in _ (by have := HHB.out; omega)
          have w3 : IntKind.i64.wrap (ha + s.st.opn + s.st.wai + s.st.clo) = ha + s.st.opn + s.st.wai + s.st.clo := IntWalk.i64_in _ (by have := HHB.out; omega)
          have w4 : IntKind.i64.wrap (ha + s.st.opn + s.st.wai + s.st.clo + 2) = la := by rw [IntWalk.i64_in _ (by have := HHB.out; omega)]; have := HH.out.2; unfold RM.dw at this; omega
          clear o1 o2 o3 o4 o5 o6
          go_wp2_with (refine wpList_load23n rfl _ rfl w.heap.size s.st _ _ rfl HN2.out ?_)
          refine (rtravel_any s.st HZ.out.rt fa q1 _).mono ?_
          rintro e W3 ⟨rfl, hb3⟩
          have HB3 := Hid.intro' (below_class HBW2.out hb3)
          generalize hTR : SM.trav s.st fa q1 = tr at HTR HNX
          have hw1 : IntKind.i64.wrap (la + tr) = la + tr := IntWalk.i64_in _ (by have := HTR.out; have := HLL.out; have := HLN.out; omega)
          clear hb3 hTR
          go_wp2
          go_roundw
          case rel =>
            refine ⟨j + 1, _, q1, la + tr, la + tr + RM.dw s.st, by omega, rfl, rfl, by go_num, by go_num, ?_, ?_, ?_, ?_, HB3⟩
            · have h1 := HA2.out; rw [HNX.out] at h1; exact h1
            · intro h2; have := HTR.out; have := HLN.out; omega
            · have h1 := HO2.out; rw [HNX.out] at h1; exact h1
            · show la + tr + RM.dw s.st ≤ _
              have := HTR.out; have := HDW.out; have := HLE.out
              omega
          case measure => simp [intOf]; omega
    · have hjz : ¬ (j : Int) ≤ (i : Int) := by omega
      have HE : Hid (ha = T) := by
        show _ = _
        have h1 := HA.out
        rw [show j = i + 1 by omega, take_snoc HI.out, List.map_append, RM.go_append] at h1
        have h2 : (⟨fa, ha, la⟩ : RM.Sp) = RM.nx s.st (RM.go s.st (RM.bg r) ((l.take i).map (RM.wf s.ws))) (RM.wf s.ws x) := h1
        rw [RM.nx_eq (RM.go_ok HZ.out.rt HOK.out (HZ.out.inn fun y hy => HX.out y (List.mem_of_mem_take hy)))] at h2
        rw [← HTT.out]
        exact congrArg RM.Sp.he h2
      have HBE := Hid.intro' (below_class HB.out HBW.out)
      go_wp2
      go_ret
      exact ⟨ret_int HE.out, HBE.out⟩

theorem rtime_any (s : Sn) (D : Nat → Prop) (vc vw vl : Value) (c i : Nat) (r : Int × Int) (l : List Int) (w : World) (hc : R2 D w vc s.cs) (hw : R2 D w vw s.ws) (hl : RI D w vl l) (hr : s.cs[c]? = some r) (x : Int) (hi : l[i]? = some x)
    (z : RM.Rz s.st s.ws s.cs) (hx : ∀ x ∈ l, 0 ≤ x ∧ x < s.ws.length) (hib : i ≤ 1000) (hra : r.2 ≤ 10000000) :
    Calls Try.prog 75 #[.agg (nv s.st vc vw).toArray, .int .i64 (c : Int), vl, .int .i64 (i : Int)] w fun e w' => e = .returned (.int .i64 (RM.ar s.st (RM.go s.st (RM.bg r) ((l.take i).map (RM.wf s.ws))) (RM.wf s.ws x))) ∧ Below w.heap.size w w' :=
  rtime_at s D vc vw vl c i r l w hc hw hl hr x hi z hx hib hra _ rfl

end Go.Proofs.Ytdfdkddjkhcgdah

/-
  A REGION THAT DRAWS ITS ORDER, in three parts: its head reads and calls (the callees may make memory, and leave all that was there); then new variables are made; then they are stored into.
  The making of a variable waits for nothing: it may come up between any two of the head's operations, so that its block's number hangs on the order. Here: ONE walk of the head, in lexical order, serves every order; the new variables' blocks are letters.
  No program is named here.
-/
namespace Go.Proofs.Ytdfdkddjkhcgdah
open Go.RowKit

section
variable {P : Program} {ops : Array Oper} {md : Region.Mode} {W0 : World}

/-- in this state, in every world that has grown out of W0, the operation leaves v, and a world that has grown out of the one that it got -/
def Calm (P : Program) (ops : Array Oper) (W0 : World) (o : Oper) (v : Value) (a : Act) : Prop :=
  (Region.wanted o (yielded ops a.tmps) = true ∧ ∀ w, Below W0.heap.size W0 w → o.quietAt P a (fun w2 => Below w.heap.size w w2) w v) ∨
  (Region.wanted o (yielded ops a.tmps) = false ∧ v = undef)
theorem Calm.same {o : Oper} {v : Value} {a a' : Act} (h : Calm P ops W0 o v a) (he : execOp a'.eval o = execOp a.eval o) (hw : Region.wanted o (yielded ops a'.tmps) = Region.wanted o (yielded ops a.tmps)) : Calm P ops W0 o v a' := by
  unfold Calm Oper.quietAt at *
  rw [he, hw]
  exact h

/-- one operation of the head -/
def Oper.calm (P : Program) (W0 : World) (o : Oper) (a : Act) (K : Act → Prop) : Prop :=
  ∃ v, (∀ w, Below W0.heap.size W0 w → o.quietAt P a (fun w2 => Below w.heap.size w w2) w v) ∧ K (a.put o.dst v)
/-- the walk of the head, in lexical order -/
def wpCalm (P : Program) (ops : Array Oper) (W0 : World) (Q : Act → Prop) : List Oper → Act → Prop
  | [], a => Q a
  | o :: rest, a => if Region.wanted o (yielded ops a.tmps) then Oper.calm P W0 o a (wpCalm P ops W0 Q rest) else wpCalm P ops W0 Q rest (a.put o.dst undef)
theorem wpCalm_nil {Q : Act → Prop} {a : Act} (h : Q a) : wpCalm P ops W0 Q [] a := h
theorem wpCalm_mono {Q Q' : Act → Prop} (hQ : ∀ a, Q a → Q' a) : ∀ (l : List Oper) (a : Act), wpCalm P ops W0 Q l a → wpCalm P ops W0 Q' l a
  | [], a, h => hQ a h
  | o :: l, a, h => by
    unfold wpCalm at *
    split
    · rename_i hw
      rw [if_pos hw] at h
      obtain ⟨v, h1, h2⟩ := h
      exact ⟨v, h1, wpCalm_mono hQ l _ h2⟩
    · rename_i hw
      rw [if_neg hw] at h
      exact wpCalm_mono hQ l _ h
theorem wpCalm_cons {Q : Act → Prop} {a : Act} {o : Oper} {rest : List Oper} (h : wpCalm P ops W0 Q (o :: rest) a) : ∃ v, Calm P ops W0 o v a ∧ wpCalm P ops W0 Q rest (a.put o.dst v) := by
  unfold wpCalm at h
  by_cases hw : Region.wanted o (yielded ops a.tmps) = true
  · rw [if_pos hw] at h
    obtain ⟨v, h1, h2⟩ := h
    exact ⟨v, .inl ⟨hw, h1⟩, h2⟩
  · rw [if_neg hw] at h
    exact ⟨undef, .inr ⟨by simpa using hw, rfl⟩, h⟩

/-! ### the orders of the head -/
/-- what may come up next, of the first n -/
def rdy (md : Region.Mode) (ops : Array Oper) (n : Nat) (done : Nat → Bool) (i : Nat) : Prop :=
  i < n ∧ done i = false ∧ ∃ o, ops[i]? = some o ∧ ∀ e ∈ o.after, Region.binds md e = true → done e.on = true
/-- one more is done -/
def more (done : Nat → Bool) (i : Nat) : Nat → Bool := fun j => if j = i then true else done j
theorem more_ne {done : Nat → Bool} {i j : Nat} (h : j ≠ i) : more done i j = done j := if_neg h
theorem more_true {done : Nat → Bool} {i j : Nat} (h : done j = true) : more done i j = true := by unfold more; split <;> first | rfl | exact h
theorem more_comm (done : Nat → Bool) (i j : Nat) : more (more done i) j = more (more done j) i := by
  funext k; unfold more; split <;> split <;> rfl
theorem rdy_more {n : Nat} {done : Nat → Bool} {i j : Nat} (h : rdy md ops n done j) (hne : j ≠ i) : rdy md ops n (more done i) j := by
  obtain ⟨h1, h2, o, ho, hall⟩ := h
  exact ⟨h1, by rw [more_ne hne]; exact h2, o, ho, fun e he hb => more_true (hall e he hb)⟩

/-- whatever order the head takes -/
def AnyF (P : Program) (md : Region.Mode) (ops : Array Oper) (W0 : World) (n : Nat) (Q : Act → Prop) : Nat → (Nat → Bool) → Act → Prop
  | 0, done, a => (∀ i, i < n → done i = true) ∧ Q a
  | f + 1, done, a => (∃ i, rdy md ops n done i) ∧ ∀ i o, ops[i]? = some o → rdy md ops n done i → ∃ v, Calm P ops W0 o v a ∧ AnyF P md ops W0 n Q f (more done i) (a.put o.dst v)

theorem anyF_first {n : Nat} {Q : Act → Prop} {i : Nat} {oi : Oper} {v : Value} (hi : ops[i]? = some oi) (hsel : ∀ (j : Nat) (o : Oper) cs b, ops[j]? = some o → o.op ≠ .select cs b) :
    ∀ (f : Nat) (done : Nat → Bool) (a : Act),
      (∀ j oj, ops[j]? = some oj → j < n → j ≠ i → done j = false → (∀ e ∈ oj.after, Region.binds md e = true → e.on ≠ i) → oi.apart ops oj = true) →
      rdy md ops n done i → Calm P ops W0 oi v a → AnyF P md ops W0 n Q f (more done i) (a.put oi.dst v) → AnyF P md ops W0 n Q (f + 1) done a := by
  intro f
  induction f with
  | zero =>
    intro done a _ hr hy H
    refine ⟨⟨i, hr⟩, fun j oj hj hrj => ?_⟩
    by_cases hji : j = i
    · subst hji
      obtain rfl : oi = oj := Option.some.inj (hi.symm.trans hj)
      exact ⟨v, hy, H⟩
    · have h1 := H.1 j hrj.1
      rw [more_ne hji, hrj.2.1] at h1
      cases h1
  | succ f ih =>
    intro done a hfree hr hy H
    refine ⟨⟨i, hr⟩, fun j oj hj hrj => ?_⟩
    by_cases hji : j = i
    · subst hji
      obtain rfl : oi = oj := Option.some.inj (hi.symm.trans hj)
      exact ⟨v, hy, H⟩
    · obtain ⟨u, hu, hn⟩ := H.2 j oj hj (rdy_more hrj hji)
      have hno : ∀ e ∈ oj.after, Region.binds md e = true → e.on ≠ i := fun e he hb heq => by
        obtain ⟨_, _, o', ho', hall⟩ := hrj
        obtain rfl : o' = oj := Option.some.inj (ho'.symm.trans hj)
        have h1 := hall e he hb
        rw [heq, hr.2.1] at h1
        cases h1
      obtain ⟨h1, h2, h3⟩ := Oper.apart_spec (hfree j oj hj hrj.1 hji hrj.2.1 hno)
      have k1 : Calm P ops W0 oj u a := hu.same (execOp_put oj (fun cs b => hsel j oj cs b hj) a oi.dst v h1).symm (wanted_put oj a oi.dst v h1).symm
      have k2 : Calm P ops W0 oi v (a.put oj.dst u) := hy.same (execOp_put oi (fun cs b => hsel i oi cs b hi) a oj.dst u h3) (wanted_put oi a oj.dst u h3)
      refine ⟨u, k1, ih (more done j) (a.put oj.dst u) (fun k ok hk hkn hki hun hno' => hfree k ok hk hkn hki ?_ hno') (rdy_more hr (Ne.symm hji)) k2 ?_⟩
      · by_cases hkj : k = j
        · subst hkj; exact hrj.2.1
        · rwa [more_ne hkj] at hun
      · rw [more_comm, ← Act.put_comm a v u h2]
        exact hn

/-- the head's lexical order is one of its orders, and all that don't wait for one another are apart -/
def headB (md : Region.Mode) (ops : Array Oper) (n : Nat) : Bool :=
  (List.range n).all fun i => match ops[i]? with
    | none => false
    | some oi => (oi.after.all fun e => !Region.binds md e || decide (e.on < i)) && (List.range n).all fun j => decide (j ≤ i) || Region.waitsFor md ops j i || match ops[j]? with
      | none => true
      | some oj => oi.apart ops oj
theorem headB_on {n i : Nat} {oi : Oper} (h : headB md ops n = true) (hi : i < n) (ho : ops[i]? = some oi) : ∀ e ∈ oi.after, Region.binds md e = true → e.on < i := fun e he hb => by
  have h1 := List.all_eq_true.1 h i (List.mem_range.2 hi)
  simp only [ho, Bool.and_eq_true] at h1
  have h2 := Array.all_eq_true_iff_forall_mem.1 h1.1 e he
  simpa [hb] using h2
theorem headB_apart {n i j : Nat} {oi oj : Oper} (h : headB md ops n = true) (hi : i < n) (ho : ops[i]? = some oi) (hj : j < n) (hoj : ops[j]? = some oj) (hij : i < j)
    (hno : ∀ e ∈ oj.after, Region.binds md e = true → e.on ≠ i) : oi.apart ops oj = true := by
  have h1 := List.all_eq_true.1 h i (List.mem_range.2 hi)
  simp only [ho, Bool.and_eq_true] at h1
  have h2 := List.all_eq_true.1 h1.2 j (List.mem_range.2 hj)
  simp only [hoj, Bool.or_eq_true, decide_eq_true_eq] at h2
  rcases h2 with (h2 | h2) | h2
  · omega
  · obtain ⟨o', ho', e, he, hb, hon⟩ := Region.waitsFor_spec h2
    obtain rfl : o' = oj := Option.some.inj (ho'.symm.trans hoj)
    exact absurd hon (hno e he hb)
  · exact h2

theorem anyF_lex {n : Nat} {Q : Act → Prop} (hsel : Region.noSelect ops = true) (hB : headB md ops n = true) : ∀ (l : List Oper) (k : Nat) (a : Act), (∀ j, j < l.length → l[j]? = ops[k + j]?) → k + l.length = n →
    wpCalm P ops W0 Q l a → AnyF P md ops W0 n Q l.length (fun j => decide (j < k)) a
  | [], k, a, _, hk, h => ⟨fun i hi => decide_eq_true (by simp only [List.length_nil] at hk; omega), h⟩
  | o :: l, k, a, hl, hk, h => by
    have h0 : ops[k]? = some o := by simpa using (hl 0 (by simp)).symm
    have hkn : k < n := by simp only [List.length_cons] at hk; omega
    obtain ⟨v, hy, hK⟩ := wpCalm_cons h
    have IH := anyF_lex (Q := Q) hsel hB l (k + 1) (a.put o.dst v) (fun j hj => by have := hl (j + 1) (by simp; omega); simpa [Nat.add_assoc, Nat.add_comm 1 j] using this) (by simp only [List.length_cons] at hk; omega) hK
    have e : (fun j => decide (j < k + 1)) = more (fun j => decide (j < k)) k := by
      funext j
      unfold more
      split
      · rename_i hjk; subst hjk; simp
      · by_cases hjk : j < k
        · simp [hjk]; omega
        · simp [hjk]; omega
    rw [e] at IH
    refine anyF_first h0 (Region.noSelect_spec hsel) l.length _ a (fun j oj hj hjn hne hun hno => ?_) ⟨hkn, by simp, o, h0, fun e he hb => decide_eq_true (headB_on hB hkn h0 e he hb)⟩ hy IH
    have : ¬ j < k := of_decide_eq_false hun
    exact headB_apart hB hkn h0 hjn hj (by omega) hno

/-! ### the new variables -/
/-- where operation number j puts its value -/
def dstOf (ops : Array Oper) (j : Nat) : Option Tmp := (ops[j]?).bind (·.dst)
/-- the new variables' pointers, over a frame -/
def ov (ops : Array Oper) : List (Nat × Nat) → Act → Act
  | [], a => a
  | p :: σ, a => (ov ops σ a).put (dstOf ops p.1) (.pointer (some ⟨p.2, 0, none⟩))
/-- an operation that makes a variable -/
structure IsNew (P : Program) (ops : Array Oper) (j : Nat) (o : Oper) (Z : Obj) : Prop where
  here : ops[j]? = some o
  after : o.after = #[]
  wants : ∀ tmps, Region.wanted o (yielded ops tmps) = true
  runs : ∀ (a : Act) w, (execOp a.eval o).run P w = .ok (.value (.pointer (some ⟨w.heap.size, 0, none⟩))) (w.alloc Z)
/-- the new variables are apart from the head -/
def newB (ops : Array Oper) (n m : Nat) : Bool :=
  (List.range m).all fun j => decide (j < n) || match ops[j]? with
    | none => false
    | some oj => (List.range n).all fun i => match ops[i]? with
      | none => false
      | some oi => oj.apart ops oi
theorem newB_spec {n m j i : Nat} {oi : Oper} (h : newB ops n m = true) (h1 : n ≤ j) (h2 : j < m) (hi : i < n) (ho : ops[i]? = some oi) :
    (∀ d, dstOf ops j = some d → d ∉ oi.looksAt ops) ∧ (∀ d, dstOf ops j = some d → oi.dst ≠ some d) := by
  have k1 := List.all_eq_true.1 h j (List.mem_range.2 h2)
  simp only [Bool.or_eq_true, decide_eq_true_eq] at k1
  rcases k1 with k1 | k1
  · omega
  · cases hj : ops[j]? with
    | none => simp [hj] at k1
    | some oj =>
      simp only [hj] at k1
      have k2 := List.all_eq_true.1 k1 i (List.mem_range.2 hi)
      simp only [ho] at k2
      obtain ⟨a1, a2, _⟩ := Oper.apart_spec k2
      have e : dstOf ops j = oj.dst := by unfold dstOf; rw [hj]; rfl
      rw [e]
      exact ⟨a1, a2⟩

theorem ov_exec {oi : Oper} (hs : ∀ cs b, oi.op ≠ .select cs b) (a : Act) : ∀ σ : List (Nat × Nat), (∀ p ∈ σ, ∀ d, dstOf ops p.1 = some d → d ∉ oi.looksAt ops) → execOp (ov ops σ a).eval oi = execOp a.eval oi
  | [], _ => rfl
  | p :: σ, h => (execOp_put oi hs _ _ _ (h p (List.mem_cons_self ..))).trans (ov_exec hs a σ fun q hq => h q (List.mem_cons_of_mem _ hq))
theorem ov_wanted {oi : Oper} (a : Act) : ∀ σ : List (Nat × Nat), (∀ p ∈ σ, ∀ d, dstOf ops p.1 = some d → d ∉ oi.looksAt ops) → Region.wanted oi (yielded ops (ov ops σ a).tmps) = Region.wanted oi (yielded ops a.tmps)
  | [], _ => rfl
  | p :: σ, h => (wanted_put oi _ _ _ (h p (List.mem_cons_self ..))).trans (ov_wanted a σ fun q hq => h q (List.mem_cons_of_mem _ hq))
theorem ov_put {x : Option Tmp} (a : Act) (v : Value) : ∀ σ : List (Nat × Nat), (∀ p ∈ σ, ∀ d, dstOf ops p.1 = some d → x ≠ some d) → (ov ops σ a).put x v = ov ops σ (a.put x v)
  | [], _ => rfl
  | p :: σ, h => by
    show ((ov ops σ a).put _ _).put x v = (ov ops σ (a.put x v)).put _ _
    rw [Act.put_comm _ _ _ (h p (List.mem_cons_self ..)), ov_put a v σ fun q hq => h q (List.mem_cons_of_mem _ hq)]

theorem wp_of_calm {o : Oper} {a : Act} {w : World} {v : Value} {K : Act → World → Prop} {Q : Exit → Act → World → Prop} (h : o.quietAt P a (fun w2 => Below w.heap.size w w2) w v)
    (hk : ∀ w2, Below w.heap.size w w2 → K (a.put o.dst v) w2) : o.wp P a w K Q := by
  unfold Oper.quietAt at h
  unfold Oper.wp
  generalize (execOp a.eval o).run P w = r at *
  cases r with
  | ok x w' =>
    cases x <;> simp only [Oper.quietUpon] at h <;> simp only [Oper.upon]
    case value u => obtain ⟨rfl, rfl⟩ := h; exact hk _ (Below.refl _ _)
    case skip => obtain ⟨rfl, rfl⟩ := h; exact hk _ (Below.refl _ _)
    case enter f args =>
      obtain ⟨rfl, hc⟩ := h
      exact hc.mono fun e w2 hh => by obtain ⟨rfl, hb⟩ := hh; exact hk w2 hb
  | halt x w' => simp only [Oper.quietUpon] at h

/-! ### how many are left -/
def left (ls : Array Bool) : Nat → Nat
  | 0 => 0
  | m + 1 => left ls m + if ls.getD m false = true then 0 else 1
theorem left_none {ls : Array Bool} : ∀ {m : Nat}, left ls m = 0 → ∀ i, i < m → ls.getD i false = true
  | m + 1, h, i, hi => by
    unfold left at h
    by_cases him : i = m
    · subst him
      by_cases hh : ls.getD i false = true
      · exact hh
      · rw [if_neg hh] at h; omega
    · exact left_none (m := m) (by omega) i (by omega)
theorem left_some {ls : Array Bool} : ∀ {m : Nat}, left ls m ≠ 0 → ∃ i, i < m ∧ ls.getD i false = false
  | 0, h => absurd rfl h
  | m + 1, h => by
    by_cases hh : ls.getD m false = true
    · unfold left at h
      rw [if_pos hh] at h
      obtain ⟨i, h1, h2⟩ := left_some (m := m) (by omega)
      exact ⟨i, by omega, h2⟩
    · exact ⟨m, by omega, by simpa using hh⟩
theorem left_same {ls : Array Bool} {i : Nat} : ∀ {m : Nat}, m ≤ i → left (ls.setIfInBounds i true) m = left ls m
  | 0, _ => rfl
  | m + 1, h => by unfold left; rw [left_same (m := m) (by omega), getD_set_ne false (by omega)]
theorem left_set {ls : Array Bool} {i : Nat} (hs : i < ls.size) (hu : ls.getD i false = false) : ∀ {m : Nat}, i < m → left (ls.setIfInBounds i true) m + 1 = left ls m
  | m + 1, h => by
    unfold left
    by_cases him : i = m
    · subst him
      rw [left_same (Nat.le_refl _), if_pos (by simp [hs]), if_neg (by rw [hu]; simp)]
    · have := left_set hs hu (m := m) (by omega)
      rw [getD_set_ne false him]
      omega

/-- the first m are listed, no other -/
def upto (ops : Array Oper) (m : Nat) : Array Bool := ((List.range ops.size).map fun i => decide (i < m)).toArray
theorem getD_set_self {ls : Array Bool} {i : Nat} (h : i < ls.size) (d : Bool) : (ls.setIfInBounds i true).getD i d = true := by simp [h]
theorem upto_of {ls : Array Bool} {m : Nat} (hs : ls.size = ops.size) (h1 : ∀ i, i < m → ls.getD i false = true) (h2 : ∀ i, m ≤ i → ls.getD i false = false) : ls = upto ops m := by
  apply Array.ext
  · simp [upto, hs]
  · intro i hi hi'
    have e : ls.getD i false = ls[i] := by simp [hi]
    rw [← e]
    by_cases hm : i < m
    · rw [h1 i hm]; simp [upto, hm]
    · rw [h2 i (by omega)]; simp [upto, hm]

/-- all that a state is held to -/
structure Sok (ops : Array Oper) (W0 : World) (Z : Nat → Obj) (n m : Nat) (ls : Array Bool) (σ : List (Nat × Nat)) (w : World) : Prop where
  size : ls.size = ops.size
  tail : ∀ t, m ≤ t → ls.getD t false = false
  some : ∀ p ∈ σ, n ≤ p.1 ∧ p.1 < m ∧ ls.getD p.1 false = true ∧ W0.heap.size ≤ p.2 ∧ p.2 < w.heap.size ∧ w.heap[p.2]? = some (Z p.1)
  all : ∀ j, n ≤ j → j < m → ls.getD j false = true → ∃ D, (j, D) ∈ σ
  keys : (σ.map (·.1)).Nodup
  apart : (σ.map (·.2)).Nodup
  bel : Below W0.heap.size W0 w
theorem Sok.grow {Z : Nat → Obj} {n m : Nat} {ls : Array Bool} {σ : List (Nat × Nat)} {w w2 : World} (h : Sok ops W0 Z n m ls σ w) (hb : Below w.heap.size w w2) : Sok ops W0 Z n m ls σ w2 :=
  ⟨h.size, h.tail, fun p hp => by
    obtain ⟨a1, a2, a3, a4, a5, a6⟩ := h.some p hp
    exact ⟨a1, a2, a3, a4, Nat.lt_of_lt_of_le a5 hb.size, (hb.block p.2 a5).trans a6⟩, h.all, h.keys, h.apart, below_class h.bel hb⟩
theorem Sok.head {Z : Nat → Obj} {n m : Nat} {ls : Array Bool} {σ : List (Nat × Nat)} {w : World} (h : Sok ops W0 Z n m ls σ w) {i : Nat} (hi : i < n) (hnm : n ≤ m) : Sok ops W0 Z n m (ls.setIfInBounds i true) σ w :=
  ⟨by simp [h.size], fun t ht => by rw [getD_set_ne false (by omega)]; exact h.tail t ht, fun p hp => by
    obtain ⟨a1, a2, a3, a4, a5, a6⟩ := h.some p hp
    exact ⟨a1, a2, getD_set_true a3, a4, a5, a6⟩, fun j h1 h2 h3 => h.all j h1 h2 (by rwa [getD_set_ne false (by omega)] at h3), h.keys, h.apart, h.bel⟩
theorem Sok.made {Z : Nat → Obj} {n m : Nat} {ls : Array Bool} {σ : List (Nat × Nat)} {w : World} (h : Sok ops W0 Z n m ls σ w) {i : Nat} (h1 : n ≤ i) (h2 : i < m) (hs : i < ls.size) (hu : ls.getD i false = false) :
    Sok ops W0 Z n m (ls.setIfInBounds i true) ((i, w.heap.size) :: σ) (w.alloc (Z i)) := by
  refine ⟨by simp [h.size], fun t ht => by rw [getD_set_ne false (by omega)]; exact h.tail t ht, fun p hp => ?_, fun j j1 j2 j3 => ?_, ?_, ?_, h.bel.alloc h.bel.size _⟩
  · rcases List.mem_cons.1 hp with rfl | hp
    · exact ⟨h1, h2, getD_set_self hs false, h.bel.size, by simp, World.alloc_heap_new w _⟩
    · obtain ⟨a1, a2, a3, a4, a5, a6⟩ := h.some p hp
      exact ⟨a1, a2, getD_set_true a3, a4, by simp; omega, (Below.heap_alloc w _ p.2 a5).trans a6⟩
  · by_cases hji : i = j
    · subst hji; exact ⟨_, List.mem_cons_self ..⟩
    · rw [getD_set_ne false hji] at j3
      obtain ⟨D, hD⟩ := h.all j j1 j2 j3
      exact ⟨D, List.mem_cons_of_mem _ hD⟩
  · simp only [List.map_cons, List.nodup_cons]
    refine ⟨fun hm => ?_, h.keys⟩
    obtain ⟨p, hp, he⟩ := List.mem_map.1 hm
    have := (h.some p hp).2.2.1
    rw [he, hu] at this
    cases this
  · simp only [List.map_cons, List.nodup_cons]
    refine ⟨fun hm => ?_, h.apart⟩
    obtain ⟨p, hp, he⟩ := List.mem_map.1 hm
    have := (h.some p hp).2.2.2.2.1
    omega

/-- whatever order is drawn -/
theorem any_new {Q : Act → Prop} {Q' : Exit → Act → World → Prop} {Z : Nat → Obj} {n m g : Nat} (hsel : Region.noSelect ops = true) (hB : headB md ops n = true) (hN : newB ops n m = true) (hnm : n ≤ m) (hmo : m < ops.size)
    (hnew : ∀ j, n ≤ j → j < m → ∃ o, IsNew P ops j o (Z j)) (hsink : Region.sinkB md ops m = true) (hchain : Region.chainB md ops m = true)
    (hend : ∀ a σ w, Sok ops W0 Z n m (upto ops m) σ w → Q a → wpAny P md ops Q' g (upto ops m) (ov ops σ a) w) :
    ∀ (c : Nat) (ls : Array Bool) (done : Nat → Bool) (a : Act) (σ : List (Nat × Nat)) (w : World) (f : Nat), left ls m = c → (∀ i, i < n → ls.getD i false = done i) → HeadInv md ops m ls → Sok ops W0 Z n m ls σ w →
      AnyF P md ops W0 n Q f done a → wpAny P md ops Q' (c + g) ls (ov ops σ a) w := by
  intro c
  induction c with
  | zero =>
    intro ls done a σ w f hc hd _ hs hF
    have hall := left_none hc
    obtain rfl := upto_of hs.size hall hs.tail
    cases f with
    | zero => rw [Nat.zero_add]; exact hend a σ w hs hF.2
    | succ f =>
      obtain ⟨i, hi, hf, _⟩ := hF.1
      rw [← hd i hi, hall i (by omega)] at hf
      cases hf
  | succ c ih =>
    intro ls done a σ w f hc hd inv hs hF
    obtain ⟨i0, hi0, hu0⟩ := left_some (ls := ls) (m := m) (by omega)
    have hsz0 : i0 < ls.size := by rw [hs.size]; omega
    have notail : ∀ i ∈ Region.ready md ops ls, i < m := fun i hi => by
      rcases Nat.lt_or_ge i m with h | h
      · exact h
      · exact absurd hi (tail_waits hsink hchain hmo inv _ i0 rfl hi0 (getD_in hsz0 hu0) i h)
    rw [show c + 1 + g = (c + g) + 1 by omega]
    refine ⟨fun hnil => ?_, fun i hi => ?_⟩
    · exfalso
      rcases Nat.lt_or_ge i0 n with h | h
      · cases f with
        | zero =>
          have := hF.1 i0 h
          rw [← hd i0 h, hu0] at this
          cases this
        | succ f =>
          obtain ⟨i, hi, hf, o, ho, hall⟩ := hF.1
          have : i ∈ Region.ready md ops ls := mem_ready.2 ⟨getD_in (by rw [hs.size]; exact (Array.getElem?_eq_some_iff.1 ho).1) (by rw [hd i hi]; exact hf), o, ho, fun e he hb => by
            rw [hd e.on (by have := headB_on hB hi ho e he hb; omega)]; exact hall e he hb⟩
          rw [hnil] at this
          cases this
      · obtain ⟨o, ho⟩ := hnew i0 h hi0
        have : i0 ∈ Region.ready md ops ls := mem_ready.2 ⟨getD_in hsz0 hu0, o, ho.here, fun e he => by rw [ho.after] at he; simp at he⟩
        rw [hnil] at this
        cases this
    · have him := notail i hi
      obtain ⟨hun, o, ho, hall⟩ := mem_ready.1 hi
      have hu := getD_both hun
      have hsz : i < ls.size := by rw [hs.size]; omega
      have hc' : left (ls.setIfInBounds i true) m = c := by have := left_set hsz hu him; omega
      rcases Nat.lt_or_ge i n with hin | hin
      · have hr : rdy md ops n done i := ⟨hin, by rw [← hd i hin]; exact hu, o, ho, fun e he hb => by
          rw [← hd e.on (by have := headB_on hB hin ho e he hb; omega)]; exact hall e he hb⟩
        cases f with
        | zero =>
          have := hF.1 i hin
          rw [hr.2.1] at this
          cases this
        | succ f =>
          obtain ⟨v, hy, hn⟩ := hF.2 i o ho hr
          have hap : ∀ p ∈ σ, (∀ d, dstOf ops p.1 = some d → d ∉ o.looksAt ops) ∧ (∀ d, dstOf ops p.1 = some d → o.dst ≠ some d) := fun p hp => newB_spec hN (hs.some p hp).1 (hs.some p hp).2.1 hin ho
          have hd' : ∀ k, k < n → (ls.setIfInBounds i true).getD k false = more done i k := fun k hk => by
            by_cases hki : k = i
            · subst hki; rw [getD_set_self hsz]; unfold more; rw [if_pos rfl]
            · rw [getD_set_ne false (Ne.symm hki), more_ne hki]; exact hd k hk
          have go : ∀ w2, Below w.heap.size w w2 → wpAny P md ops Q' (c + g) (ls.setIfInBounds i true) ((ov ops σ a).put o.dst v) w2 := fun w2 hb => by
            rw [ov_put a v σ fun p hp => (hap p hp).2]
            exact ih _ _ _ σ w2 f hc' hd' (inv.set hi him) ((hs.head hin hnm).grow hb) hn
          unfold wpOp
          rw [ho]
          simp only [ov_wanted a σ fun p hp => (hap p hp).1]
          rcases hy with ⟨hw, hq⟩ | ⟨hw, rfl⟩
          · rw [if_pos hw]
            refine .inl (wp_of_calm (v := v) ?_ go)
            have := hq w hs.bel
            unfold Oper.quietAt at *
            rwa [ov_exec (Region.noSelect_spec hsel i o · · ho) a σ fun p hp => (hap p hp).1]
          · rw [if_neg (by rw [hw]; simp)]
            exact go w (Below.refl _ _)
      · obtain ⟨o', ho'⟩ := hnew i hin him
        obtain rfl : o' = o := Option.some.inj (ho'.here.symm.trans ho)
        unfold wpOp
        rw [ho]
        simp only
        rw [if_pos (ho'.wants _)]
        refine .inl ?_
        unfold Oper.wp
        rw [ho'.runs]
        simp only [Oper.upon]
        have e : dstOf ops i = o'.dst := by unfold dstOf; rw [ho]; rfl
        have := ih (ls.setIfInBounds i true) done a ((i, w.heap.size) :: σ) (w.alloc (Z i)) f hc' (fun k hk => by rw [getD_set_ne false (by omega)]; exact hd k hk) (inv.set hi him) (hs.made hin him hsz hu) hF
        unfold ov at this
        rw [e] at this
        exact this

/-- the region's shape, as one Bool -/
def shapeB (md : Region.Mode) (ops : Array Oper) (n m : Nat) : Bool :=
  Region.noSelect ops && headB md ops n && newB ops n m && decide (n ≤ m) && decide (m < ops.size) && Region.sinkB md ops m && Region.chainB md ops m && Region.seqB md ops (ops.size - m) m (upto ops m)
end

theorem wp_region_new {P : Program} {id : Nat} {Q : Exit → Act → World → Prop} {a : Act} {w : World} {l : List Oper} (n m : Nat) (Z : Nat → Obj) (hm : P.follows .mixedOrders = true) (hB : shapeB .any l.toArray n m = true)
    (hnew : ∀ j, n ≤ j → j < m → ∃ o, IsNew P l.toArray j o (Z j))
    (h : wpCalm P l.toArray w.drew (fun a' => ∀ σ w', Sok l.toArray w.drew Z n m (upto l.toArray m) σ w' → wpList P l.toArray Q (l.drop m) (ov l.toArray σ a') w') (l.take n) a) :
    (Code.region id l.toArray true).wp P Q a w := by
  simp only [shapeB, Bool.and_eq_true, decide_eq_true_eq] at hB
  obtain ⟨⟨⟨⟨⟨⟨⟨hsel, hhead⟩, hnewB⟩, hnm⟩, hmo⟩, hsink⟩, hchain⟩, hseq⟩ := hB
  have hmo' : m < l.length := by simpa using hmo
  have htl : (l.take n).length = n := by simp; omega
  have hdl : (l.drop m).length = l.toArray.size - m := by simp
  have inv0 : HeadInv .any l.toArray m (Array.replicate l.toArray.size false) :=
    ⟨by simp, fun j oj _ hl => (by rw [getD_replicate_false] at hl; cases hl), fun t _ ht => getD_in (by simpa using ht) (getD_replicate_false _ _)⟩
  have H := anyF_lex (md := .any) (n := n) hsel hhead (l.take n) 0 a (fun j hj => by
    have hj' : j < n := by rw [htl] at hj; exact hj
    simp [hj']) (by simpa using htl) h
  rw [htl] at H
  have hl0 : left (Array.replicate l.toArray.size false) m = m := by
    have : ∀ k, left (Array.replicate l.toArray.size false) k = k := fun k => by
      induction k with
      | zero => rfl
      | succ k ih => unfold left; rw [ih, getD_replicate_false]; simp
    exact this m
  refine wp_region_any hm ?_
  have := any_new (md := .any) (W0 := w.drew) (Q' := Q) (g := l.toArray.size - m) hsel hhead hnewB hnm hmo hnew hsink hchain (fun a' σ w' hs hQ => by
    have := wpAny_of_seq (md := .any) (Q' := Q) (l.drop m) m (upto l.toArray m) (ov l.toArray σ a') w' (fun j => by simp [List.getElem?_drop]) (by rw [hdl]; exact hseq) (hQ σ w' hs)
    rwa [hdl] at this) m (Array.replicate l.toArray.size false) (fun j => decide (j < 0)) a [] w.drew n hl0 (fun i _ => by rw [getD_replicate_false]; simp) inv0
    ⟨by simp, fun t _ => getD_replicate_false _ _, fun p hp => (by cases hp), fun j _ _ hj => (by rw [getD_replicate_false] at hj; cases hj), List.nodup_nil, List.nodup_nil, Below.refl _ _⟩ H
  rw [show m + (l.toArray.size - m) = l.toArray.size by omega] at this
  exact this

theorem upto_get {ops : Array Oper} {m i : Nat} (h1 : i < m) (h2 : i < ops.size) : (upto ops m).getD i false = true := by
  simp [upto, List.getElem?_range h2, h1]
theorem shapeB_size {ops : Array Oper} {n m : Nat} (h : shapeB .any ops n m = true) : m ≤ ops.size := by
  simp only [shapeB, Bool.and_eq_true, decide_eq_true_eq] at h
  exact Nat.le_of_lt h.1.1.1.2

/-- one new variable -/
theorem wp_region_new1 {P : Program} {id : Nat} {Q : Exit → Act → World → Prop} {a : Act} {w : World} {l : List Oper} (n : Nat) (d : Tmp) (Z : Obj) (hm : P.follows .mixedOrders = true) (hB : shapeB .any l.toArray n (n + 1) = true)
    (hd : dstOf l.toArray n = some d) (hnew : ∃ o, IsNew P l.toArray n o Z)
    (h : wpCalm P l.toArray w.drew (fun a' => ∀ D w', Below w.drew.heap.size w.drew w' → w.heap.size ≤ D → w'.heap[D]? = some Z → wpList P l.toArray Q (l.drop (n + 1)) (a'.put (some d) (.pointer (some ⟨D, 0, none⟩))) w') (l.take n) a) :
    (Code.region id l.toArray true).wp P Q a w := by
  refine wp_region_new n (n + 1) (fun _ => Z) hm hB (fun j h1 h2 => ?_) ?_
  · obtain rfl : j = n := by omega
    exact hnew
  refine wpCalm_mono (fun a' ha σ w' hs => ?_) _ a h
  obtain ⟨D, hD⟩ := hs.all n (Nat.le_refl _) (by omega) (upto_get (by omega) (shapeB_size hB))
  match σ, hs, hD with
  | [p], hs, hD =>
    obtain rfl : (n, D) = p := by simpa using hD
    obtain ⟨_, _, _, b4, _, b6⟩ := hs.some _ (List.mem_cons_self ..)
    show wpList P l.toArray Q _ (a'.put (dstOf l.toArray n) _) w'
    rw [hd]
    exact ha D w' hs.bel b4 b6
  | p :: q :: r, hs, _ =>
    exfalso
    have hk := hs.keys
    have h1 := hs.some p (by simp)
    have h2 := hs.some q (by simp)
    simp only [List.map_cons, List.nodup_cons, List.mem_cons, not_or] at hk
    omega

/-- two new variables -/
theorem wp_region_new2 {P : Program} {id : Nat} {Q : Exit → Act → World → Prop} {a : Act} {w : World} {l : List Oper} (n : Nat) (d e : Tmp) (Z Z' : Obj) (hm : P.follows .mixedOrders = true) (hB : shapeB .any l.toArray n (n + 2) = true)
    (hnew : ∃ o, IsNew P l.toArray n o Z) (hnew' : ∃ o, IsNew P l.toArray (n + 1) o Z') (hd : dstOf l.toArray n = some d) (he : dstOf l.toArray (n + 1) = some e) (hde : d ≠ e)
    (h : wpCalm P l.toArray w.drew (fun a' => ∀ D E w', Below w.drew.heap.size w.drew w' → w.heap.size ≤ D → w.heap.size ≤ E → D ≠ E → w'.heap[D]? = some Z → w'.heap[E]? = some Z' →
      wpList P l.toArray Q (l.drop (n + 2)) ((a'.put (some d) (.pointer (some ⟨D, 0, none⟩))).put (some e) (.pointer (some ⟨E, 0, none⟩))) w') (l.take n) a) :
    (Code.region id l.toArray true).wp P Q a w := by
  refine wp_region_new n (n + 2) (fun j => if j = n then Z else Z') hm hB (fun j h1 h2 => ?_) ?_
  · by_cases hj : j = n
    · subst hj; rw [if_pos rfl]; exact hnew
    · obtain rfl : j = n + 1 := by omega
      rw [if_neg hj]; exact hnew'
  refine wpCalm_mono (fun a' ha σ w' hs => ?_) _ a h
  obtain ⟨D, hD⟩ := hs.all n (Nat.le_refl _) (by omega) (upto_get (by omega) (Nat.le_trans (by omega) (shapeB_size hB)))
  obtain ⟨E, hE⟩ := hs.all (n + 1) (by omega) (by omega) (upto_get (by omega) (shapeB_size hB))
  have sD := hs.some _ hD
  have sE := hs.some _ hE
  simp only [if_pos, show ¬ (n + 1 = n) by omega, if_false] at sD sE
  have go : D ≠ E → wpList P l.toArray Q (l.drop (n + 2)) ((a'.put (some d) (.pointer (some ⟨D, 0, none⟩))).put (some e) (.pointer (some ⟨E, 0, none⟩))) w' := fun hne => ha D E w' hs.bel sD.2.2.2.1 sE.2.2.2.1 hne sD.2.2.2.2.2 sE.2.2.2.2.2
  clear sD sE
  match σ, hs, hD, hE with
  | [p], _, hD, hE =>
    exfalso
    have e1 : (n, D) = p := by simpa using hD
    have e2 : (n + 1, E) = p := by simpa using hE
    rw [← e2] at e1
    have := congrArg Prod.fst e1
    simp at this
  | [p, q], hs, hD, hE =>
    have hap := hs.apart
    simp only [List.map_cons, List.map_nil, List.nodup_cons, List.mem_cons, List.not_mem_nil, or_false] at hap hD hE
    rcases hD with rfl | rfl
    · rcases hE with hE | rfl
      · exact absurd (congrArg Prod.fst hE) (by simp)
      · show wpList P l.toArray Q _ ((a'.put (dstOf l.toArray (n + 1)) _).put (dstOf l.toArray n) _) w'
        rw [hd, he, ← Act.put_comm a' _ _ (fun k hk h => hde (Option.some.inj (hk.trans h.symm)))]
        exact go hap.1
    · rcases hE with rfl | hE
      · show wpList P l.toArray Q _ ((a'.put (dstOf l.toArray n) _).put (dstOf l.toArray (n + 1)) _) w'
        rw [hd, he]
        exact go fun h => hap.1 h.symm
      · exact absurd (congrArg Prod.fst hE) (by simp)
  | p :: q :: r :: t, hs, _, _ =>
    exfalso
    have hk := hs.keys
    have h1 := hs.some p (by simp)
    have h2 := hs.some q (by simp)
    have h3 := hs.some r (by simp)
    simp only [List.map_cons, List.nodup_cons, List.mem_cons, not_or] at hk
    omega

end Go.Proofs.Ytdfdkddjkhcgdah

/- A region that draws its order, reads and calls, and then stores. -/
namespace Go.Proofs.Ytdfdkddjkhcgdah
open Go.RowKit

/-- its head (the first n operations) reads and calls (callees may make memory); what is behind it waits for all of it -/
theorem wp_region_tail {P : Program} {id : Nat} {Q : Exit → Act → World → Prop} {a : Act} {w : World} {l : List Oper} (n : Nat) (hm : P.follows .mixedOrders = true) (hB : shapeB .any l.toArray n n = true)
    (h : wpCalm P l.toArray w.drew (fun a' => ∀ w', Below w.drew.heap.size w.drew w' → wpList P l.toArray Q (l.drop n) a' w') (l.take n) a) :
    (Code.region id l.toArray true).wp P Q a w := by
  refine wp_region_new n n (fun _ => .cells #[] 0) hm hB (fun j h1 h2 => by omega) ?_
  refine wpCalm_mono (fun a' ha σ w' hs => ?_) _ a h
  match σ, hs with
  | [], hs => exact ha w' hs.bel
  | p :: r, hs =>
    exfalso
    have h1 := hs.some p (by simp)
    omega
theorem calm_val {P : Program} {W0 : World} {K : Act → Prop} {o : Oper} {a : Act} (v : Value) (hrun : ∀ w, Below W0.heap.size W0 w → (execOp a.eval o).run P w = .ok (.value v) w) (h : K (a.put o.dst v)) : Oper.calm P W0 o a K :=
  ⟨v, fun w hw => by unfold Oper.quietAt; rw [hrun w hw]; exact ⟨rfl, rfl⟩, h⟩
section
variable {W0 : World} {K : Act → Prop} {o : Oper} {a : Act}
theorem calm_load27 (x : Operand) (b : Nat) (s : St) (vc vw : Value) (ho : o.op = .load 27 x) (hx : a.eval x = .pointer (some ⟨b, 0, none⟩)) (hr : ∀ w, Below W0.heap.size W0 w → NB w b s vc vw)
    (h : K (a.put o.dst (.agg (nv s vc vw).toArray))) : Oper.calm Try.prog W0 o a K :=
  calm_val _ (fun w hw => by unfold execOp; simp only [ho, hx, Sem.run_bind, Sem.run_pure, Result.andThen_ok, load27 w b s vc vw (hr w hw).range]) h
theorem calm_load3 (x : Operand) (b k : Nat) {v : Value} (ho : o.op = .load 3 x) (hx : a.eval x = .pointer (some ⟨b, k, none⟩)) (hr : ∀ w, Below W0.heap.size W0 w → w.cell? ⟨b, k, none⟩ = some v)
    (h : K (a.put o.dst v)) : Oper.calm Try.prog W0 o a K :=
  calm_val _ (fun w hw => by unfold execOp; simp only [ho, hx, Sem.run_bind, Sem.run_pure, Result.andThen_ok, load3 w b k v (hr w hw)]) h
theorem loadLI (w : World) (b o : Nat) (v : Value) (h : w.cell? ⟨b, o, none⟩ = some v) : (Instr.loadAt 58 (.pointer (some ⟨b, o, none⟩))).run Try.prog w = .ok v w := by simp [go_sem, h]
theorem calm_loadLI (x : Operand) (b k : Nat) {v : Value} (ho : o.op = .load 58 x) (hx : a.eval x = .pointer (some ⟨b, k, none⟩)) (hr : ∀ w, Below W0.heap.size W0 w → w.cell? ⟨b, k, none⟩ = some v)
    (h : K (a.put o.dst v)) : Oper.calm Try.prog W0 o a K :=
  calm_val _ (fun w hw => by unfold execOp; simp only [ho, hx, Sem.run_bind, Sem.run_pure, Result.andThen_ok, loadLI w b k v (hr w hw)]) h
theorem calm_ixI (x y : Operand) {g f n cap j : Nat} (ho : o.op = .indexAddr 58 x y) (hx : a.eval x = .slice (some ⟨g, f, none⟩) n cap) (hy : a.eval y = .int .i64 (j : Int)) (hj : j < n)
    (h : K (a.put o.dst (.pointer (some ⟨g, f + j, none⟩)))) : Oper.calm Try.prog W0 o a K :=
  calm_val _ (fun w hw => by unfold execOp; simp only [ho, hx, hy, Sem.run_bind, Sem.run_pure, Result.andThen_ok, ixI w rfl hj]) h
theorem calm_ixP (x y : Operand) {g f n cap j : Nat} (ho : o.op = .indexAddr 32 x y) (hx : a.eval x = .slice (some ⟨g, f, none⟩) n cap) (hy : a.eval y = .int .i64 (j : Int)) (hj : j < n)
    (h : K (a.put o.dst (.pointer (some ⟨g, f + j, none⟩)))) : Oper.calm Try.prog W0 o a K :=
  calm_val _ (fun w hw => by unfold execOp; simp only [ho, hx, hy, Sem.run_bind, Sem.run_pure, Result.andThen_ok, ixP w rfl hj]) h
end
section
variable {C : World → Prop} {K : Act → Prop} {o : Oper} {a : Act}
theorem quiet_loadLI (x : Operand) (b k : Nat) {v : Value} (ho : o.op = .load 58 x) (hx : a.eval x = .pointer (some ⟨b, k, none⟩)) (hr : ∀ w, C w → w.cell? ⟨b, k, none⟩ = some v)
    (h : K (a.put o.dst v)) : o.quiet Try.prog a C K :=
  quiet_val _ (fun w hw => by unfold execOp; simp only [ho, hx, Sem.run_bind, Sem.run_pure, Result.andThen_ok, loadLI w b k v (hr w hw)]) h
theorem quiet_ixI (x y : Operand) {g f n cap j : Nat} (ho : o.op = .indexAddr 58 x y) (hx : a.eval x = .slice (some ⟨g, f, none⟩) n cap) (hy : a.eval y = .int .i64 (j : Int)) (hj : j < n)
    (h : K (a.put o.dst (.pointer (some ⟨g, f + j, none⟩)))) : o.quiet Try.prog a C K :=
  quiet_val _ (fun w hw => by unfold execOp; simp only [ho, hx, hy, Sem.run_bind, Sem.run_pure, Result.andThen_ok, ixI w rfl hj]) h
theorem quiet_ixP (x y : Operand) {g f n cap j : Nat} (ho : o.op = .indexAddr 32 x y) (hx : a.eval x = .slice (some ⟨g, f, none⟩) n cap) (hy : a.eval y = .int .i64 (j : Int)) (hj : j < n)
    (h : K (a.put o.dst (.pointer (some ⟨g, f + j, none⟩)))) : o.quiet Try.prog a C K :=
  quiet_val _ (fun w hw => by unfold execOp; simp only [ho, hx, hy, Sem.run_bind, Sem.run_pure, Result.andThen_ok, ixP w rfl hj]) h
end

end Go.Proofs.Ytdfdkddjkhcgdah

/- Whether a plan may be, as the program tells it. -/
namespace Go.Proofs.Ytdfdkddjkhcgdah
open Go.RowKit

/-- may a plan of a snapshot be? -/
def fsb (s : Sn) (p : List (List Int)) : Bool := rgt s && decide (p.length = s.cs.length) && PM.feas (msk s) p
/-- what holds while a plan is looked at -/
structure Fq (w W : World) (B b sb lb : Nat) (s : Sn) (D G : Nat → Prop) (vc vw vp : Value) (p : List (List Int)) (vs : List Value) (st : List Bool) (ls : List (List Int)) : Prop where
  nb : NB W w.heap.size s.st vc vw
  nB : w.heap.size < B
  dq : Dq W B b sb lb vw vs G s.ws st ls
  rp : RL D W vp p
  dl : ∀ g, D g → g < w.heap.size
  bel : Below w.heap.size w W
  sl : st.length = s.ws.length
  BW : B ≤ W.heap.size
section
variable {w W W' : World} {B b sb lb : Nat} {s : Sn} {D G : Nat → Prop} {vc vw vp : Value} {p : List (List Int)} {vs vs' : List Value} {st st' : List Bool} {ls ls' : List (List Int)}
theorem Fq.next (h : Fq w W B b sb lb s D G vc vw vp p vs st ls) (hb : Below W.heap.size W W') : Fq w W' B b sb lb s D G vc vw vp p vs st ls :=
  ⟨h.nb.below' hb, h.nB, h.dq.below' hb, h.rp.below' hb, h.dl, below_class h.bel hb, h.sl, Nat.le_trans h.BW hb.size⟩
theorem Fq.step (h : Fq w W B b sb lb s D G vc vw vp p vs st ls) (hd : Dq W' B b sb lb vw vs' G s.ws st' ls') (hk : Kp (fp b sb lb vs) W W') (hs : st'.length = st.length) : Fq w W' B b sb lb s D G vc vw vp p vs' st' ls' := by
  have far : ∀ k, k < B → ¬ fp b sb lb vs k := fun k hk hf => by have := (h.dq.fp_lo hf).1; omega
  have hB := h.nB
  exact ⟨h.nb.kp hk (far _ h.nB), h.nB, hd, h.rp.keep hk.size fun g hg hlt => hk.block g hlt (far g (by have := h.dl g hg; omega)), h.dl, hk.below h.bel h.bel.size (fun i hi => far i (by omega)), hs.trans h.sl, Nat.le_trans h.BW hk.size⟩
end
theorem RI.base {w W : World} {v : Value} {l : List Int} (h : RI (fun g => g < w.heap.size) W v l) (hb : Below w.heap.size w W) : RI (fun g => g < w.heap.size) w v l := by
  obtain ⟨a, cap, rfl, hc, hn, h⟩ := h
  refine ⟨a, cap, rfl, hc, hn, ?_⟩
  rcases h with h | ⟨g, o, rfl, hd, _, h⟩
  · exact .inl h
  · exact .inr ⟨g, o, rfl, hd, hd, fun i y hy => (hb.cell (p := ⟨g, o + i, none⟩) hd).symm.trans (h i y hy)⟩
/-- what is left of the look: R is the whole's outcome -/
def Lf (R : Option (List Bool)) (ms : List Nat) (k : Nat) (st : List Bool) (l : List Int) (p : List (List Int)) : Prop := R = (PM.run1 ms k st l).bind fun st' => PM.runs ms (k + 1) st' p
theorem Lf.no {R : Option (List Bool)} {ms : List Nat} {k : Nat} {st : List Bool} {x : Int} {l : List Int} {p : List (List Int)} (h : Lf R ms k st (x :: l) p) (hx : ¬ (PM.okx ms k x = true ∧ st[x.toNat]? = some false)) : R = none := by
  unfold Lf at h
  rw [h, PM.run1, if_neg hx]; rfl
theorem Lf.yes {R : Option (List Bool)} {ms : List Nat} {k : Nat} {st : List Bool} {x : Int} {l : List Int} {p : List (List Int)} (h : Lf R ms k st (x :: l) p) (hx : PM.okx ms k x = true ∧ st[x.toNat]? = some false) : Lf R ms k (st.set x.toNat true) l p := by
  unfold Lf at h ⊢
  rw [h, PM.run1, if_pos hx]
theorem drop_cons {α : Type} {l : List α} {k : Nat} {x : α} (h : l[k]? = some x) : l.drop k = x :: l.drop (k + 1) := by
  obtain ⟨hk, rfl⟩ := List.getElem?_eq_some_iff.1 h
  exact List.drop_eq_getElem_cons hk
theorem feas_none {ms : List Nat} {p : List (List Int)} (h : PM.runs ms 0 (List.replicate ms.length false) p = none) : PM.feas ms p = false := by unfold PM.feas; rw [h]; rfl
theorem feas_some {ms : List Nat} {p : List (List Int)} {st : List Bool} (h : PM.runs ms 0 (List.replicate ms.length false) p = some st) : PM.feas ms p = st.all id := by unfold PM.feas; rw [h]; rfl

set_option maxHeartbeats 8000000 in
theorem feasible_any (s : Sn) (D : Nat → Prop) (vc vw vp : Value) (p : List (List Int)) (w : World) (hc : R2 D w vc s.cs) (hw : R2 D w vw s.ws) (hp : RL D w vp p) (hpl : p.length ≤ 1000) (hll : ∀ l ∈ p, l.length ≤ 1000) :
    Calls Try.prog 31 #[.agg (nv s.st vc vw).toArray, vp] w fun e w' => e = .returned (.bool (fsb s p)) ∧ Below w.heap.size w w' := by
  have HP : Hid (RL (fun g => g < w.heap.size) w vp p) := hp.mono fun g _ h _ => h
  have HW : Hid (R2 (fun g => g < w.heap.size) w vw s.ws) := hw.mono fun g _ h _ => h
  have hbx := (Below.refl w.heap.size w).alloc (Nat.le_refl _) (.cells (nv s.st vc vw).toArray 27)
  have HR := Hid.intro' (snapRight_any s D vc vw _ (hc.below' hbx) (hw.below' hbx))
  have HN := Hid.intro' (NB.new w s.st vc vw)
  have HB := Hid.intro' hbx
  obtain ⟨ac, kc, rfl, _, _⟩ := hc.form
  obtain ⟨aw, kw, rfl, _, _⟩ := hw.form
  obtain ⟨ap, kp, rfl, _, _⟩ := hp.form
  have HLL := Hid.intro' hll
  clear hc hw hp hbx hll
  go_enter Try.func31, Try.ntmps31
  go_wp2_with (refine wpList_load27g rfl _ rfl w.heap.size s.st _ _ rfl HN.out ?_)
  refine HR.out.mono ?_
  rintro e W1 ⟨rfl, hb1⟩
  have HN1 := Hid.intro' (HN.out.below' hb1)
  have HB1 := Hid.intro' (below_class HB.out hb1)
  have HZ1 := Hid.intro' (show w.heap.size < W1.heap.size by have := hb1.size; simp at this; omega)
  clear hb1 HR HN HB
  cases hr : rgt s with
  | false =>
    go_wp2
    go_ret
    exact ⟨ret_bool (by unfold fsb; rw [hr]; rfl), HB1.out⟩
  | true =>
    obtain ⟨n, hrs⟩ := rgt_rs hr
    have HRS := Hid.intro' hrs
    have HRR := Hid.intro' hr
    have hcl : s.cs.length = n := hrs.cl
    have hn8 : n ≤ 8 := hrs.n8
    have hwl : s.ws.length ≤ 128 := hrs.wl
    clear hrs hr
    have c13 : W1.cell? ⟨w.heap.size, 13, none⟩ = some (.slice ac s.cs.length kc) := HN1.out.cell 13
    have c14 : W1.cell? ⟨w.heap.size, 14, none⟩ = some (.slice aw s.ws.length kw) := HN1.out.cell 14
    rw [hcl] at c13
    have HCL := Hid.intro' hcl
    by_cases hpn : p.length = n
    · have q1 : ((p.length : Int) != (n : Int)) = false := by simp; omega
      have HPN := Hid.intro' hpn
      clear hcl hpn
      go_wp2_with fail
      clear c13 c14 q1
      refine (newDraft_any n (by omega) (fun g => g < w.heap.size) _ s.ws W1 (HW.out.below' HB1.out) (fun g hg => Nat.lt_of_lt_of_le hg HB1.out.size) (by omega)).mono ?_
      rintro e W2 ⟨b, sb, lb, rfl, hd2, hb2⟩
      have HF2 : Hid (Fq w W2 W1.heap.size b sb lb s (fun g => g < w.heap.size) (fun g => g < w.heap.size) (.slice ac s.cs.length kc) (.slice aw s.ws.length kw) (.slice ap p.length kp) p (List.replicate n (Value.slice none 0 0)) (List.replicate s.ws.length false) (List.replicate n [])) :=
        ⟨HN1.out.below' hb2, HZ1.out, hd2, HP.out.below' (below_class HB1.out hb2), fun _ h => h, below_class HB1.out hb2, by simp, hb2.size⟩
      clear hd2 hb2 HN1 HZ1
      generalize W1.heap.size = B at HF2
      obtain ⟨R, HR⟩ : ∃ R, Hid (PM.runs (msk s) 0 (List.replicate (msk s).length false) p = R) := ⟨_, Hid.intro' rfl⟩
      have HFN : Hid (R = none → fsb s p = false) := fun e => by
        show fsb s p = false
        have := HR.out
        rw [e] at this
        unfold fsb; rw [feas_none this]; simp
      have HFS : Hid (∀ st, R = some st → fsb s p = st.all id) := fun st e => by
        show fsb s p = st.all id
        have := HR.out
        rw [e] at this
        unfold fsb; rw [feas_some this, HRR.out, HPN.out, HCL.out]; simp
      have HML : Hid ((msk s).length = s.ws.length) := HRS.out.mm.len
      go_wp2_with fail
      go_loopw [29] (fun i wr => ∃ (k : Nat) (vs : List Value) (st : List Bool) (ls : List (List Int)), k ≤ p.length ∧ i = .int .i64 (k : Int) ∧ Hid (Fq w wr B b sb lb s (fun g => g < w.heap.size) (fun g => g < w.heap.size) (.slice ac s.cs.length kc) (.slice aw s.ws.length kw) (.slice ap p.length kp) p vs st ls) ∧
        Hid (R = PM.runs (msk s) k st (p.drop k) ∧ ls.length = n ∧ ∀ c, k ≤ c → c < n → ls[c]? = some [])) (fun i _ => p.length - (intOf i).toNat)
      case atStart =>
        refine ⟨0, _, _, _, Nat.zero_le _, rfl, HF2, ?_, by simp, fun c _ hc => by simp [hc]⟩
        rw [← HR.out, HML.out, List.drop_zero]
      case round =>
        obtain ⟨k, vs, st, ls, hk, rfl, HF, HI⟩ := hrel
        clear HF2
        by_cases hlt : k < p.length
        · have hkz : (k : Int) < (p.length : Int) := by omega
          obtain ⟨l, hl⟩ : ∃ l, p[k]? = some l := ⟨_, List.getElem?_eq_getElem hlt⟩
          obtain ⟨gp, op, rfl, u, hcu, hru⟩ := HF.out.rp.at hl
          obtain ⟨au, ku, rfl, _, _⟩ := hru.form
          have HL := Hid.intro' hl
          have hln : l.length ≤ 1000 := HLL.out l (List.mem_of_getElem? hl)
          have HRU3 := Hid.intro' (hru.base HF.out.bel)
          clear hl hru
          go_wp2_with fail
          have HK2 : Hid (Lf R (msk s) k st l (p.drop (k + 1))) := by
            show R = _
            rw [HI.out.1, drop_cons HL.out, PM.runs]
          have HLN := Hid.intro' HI.out.2.1
          have HEM := Hid.intro' HI.out.2.2
          have hkn : k < n := by have := HPN.out; omega
          clear HI hcu
          have HF3 := HF
          clear HF
          generalize wr = W3 at HF3 ⊢
          go_loopw [36] (fun i wr => ∃ (j : Nat) (vs : List Value) (st : List Bool) (ls : List (List Int)), j ≤ l.length ∧ i = .int .i64 (j : Int) ∧ Hid (Fq w wr B b sb lb s (fun g => g < w.heap.size) (fun g => g < w.heap.size) (.slice ac s.cs.length kc) (.slice aw s.ws.length kw) (.slice (some ⟨gp, op, none⟩) p.length kp) p vs st ls) ∧
            Hid (Lf R (msk s) k st (l.drop j) (p.drop (k + 1))) ∧ Hid (ls.length = n ∧ ∃ l', ls[k]? = some l' ∧ l'.length ≤ j) ∧ Hid (∀ c, k < c → c < n → ls[c]? = some [])) (fun i _ => l.length - (intOf i).toNat)
          case atStart => exact ⟨0, vs, st, ls, Nat.zero_le _, rfl, HF3, HK2, ⟨HLN.out, [], HEM.out k (Nat.le_refl _) hkn, Nat.le_refl _⟩, fun c h1 h2 => HEM.out c (by omega) h2⟩
          case round =>
            clear HF3 HK2 HLN HEM
            obtain ⟨j, vs, st, ls, hj, rfl, HF, HK, HLN, HEM⟩ := hrel
            by_cases hjl : j < l.length
            · have hjz : (j : Int) < (l.length : Int) := by omega
              obtain ⟨x, hx⟩ : ∃ x, l[j]? = some x := ⟨_, List.getElem?_eq_getElem hjl⟩
              obtain ⟨gu, ou, rfl, hcx⟩ := (HRU3.out.below' HF.out.bel).at hx
              have c14 : wr.cell? ⟨w.heap.size, 14, none⟩ = some (.slice aw s.ws.length kw) := HF.out.nb.cell 14
              have HDC := Hid.intro' (drop_cons hx)
              have HXX := Hid.intro' hx
              have HK1 : Hid (Lf R (msk s) k st (x :: l.drop (j + 1)) (p.drop (k + 1))) := by
                have h := HK.out
                rw [HDC.out] at h
                exact h
              clear HK hx
              by_cases hx0 : x < 0
              · have HNO := Hid.intro' (HFN.out (HK1.out.no fun h => by have := (PM.okx_iff.1 h.1).1; omega))
                go_wp2
                go_ret
                exact ⟨ret_bool HNO.out.symm, HF.out.bel⟩
              · by_cases hx1 : (s.ws.length : Int) ≤ x
                · have HNO := Hid.intro' (HFN.out (HK1.out.no fun h => by have := (PM.okx_iff.1 h.1).2.1; have := HML.out; omega))
                  have q1 : decide (x < 0) = false := decide_eq_false hx0
                  clear hx0
                  go_wp2
                  go_ret
                  exact ⟨ret_bool HNO.out.symm, HF.out.bel⟩
                · obtain ⟨i, rfl⟩ : ∃ i : Nat, x = (i : Int) := ⟨x.toNat, by omega⟩
                  have hiw : i < s.ws.length := by omega
                  have q1 : decide ((i : Int) < 0) = false := decide_eq_false hx0
                  have q2 : decide ((s.ws.length : Int) ≤ (i : Int)) = false := decide_eq_false hx1
                  obtain ⟨y, hy⟩ : ∃ y, s.ws[i]? = some y := ⟨_, List.getElem?_eq_getElem hiw⟩
                  obtain ⟨z, hz⟩ : ∃ z, st[i]? = some z := ⟨_, List.getElem?_eq_getElem (by rw [HF.out.sl]; exact hiw)⟩
                  obtain ⟨m, hm, hym⟩ := HRS.out.mm.eq i y hy
                  have hmt := mayTake_any HF.out.dq k i m z y (by omega) hz hy hym
                  have HIFF : Hid ((PM.okx (msk s) k (i : Int) = true ∧ st[(i : Int).toNat]? = some false) ↔ (!z && PM.bt m k) = true) := by
                    show _ ↔ _
                    rw [PM.okx_iff, Int.toNat_natCast, hz, hm, Option.getD_some]
                    have := HML.out
                    constructor
                    · rintro ⟨⟨_, _, h1⟩, h2⟩
                      cases h2
                      rw [h1]; rfl
                    · intro h
                      rw [Bool.and_eq_true] at h
                      refine ⟨⟨by omega, by omega, h.2⟩, ?_⟩
                      cases z
                      · rfl
                      · cases h.1
                  have HZ := Hid.intro' hz
                  clear hx0 hx1 hy hz hm hym
                  cases hq : (!z && PM.bt m k) with
                  | false =>
                    rw [hq] at hmt HIFF
                    have HNO := Hid.intro' (HFN.out (HK1.out.no fun h => by have := HIFF.out.1 h; cases this))
                    go_wp2_with (go_at_call 66; refine hmt.mono ?_; rintro e w' ⟨rfl, rfl⟩)
                    go_ret
                    exact ⟨ret_bool HNO.out.symm, HF.out.bel⟩
                  | true =>
                    rw [hq] at hmt HIFF
                    have HK3 := Hid.intro' (HK1.out.yes (HIFF.out.2 rfl))
                    obtain ⟨l', hl', hll'⟩ := HLN.out.2
                    have HTK := Hid.intro' (take_any HF.out.dq k i z l' HZ.out hl' (by omega) HF.out.BW)
                    go_wp2_with (go_at_call 66; refine hmt.mono ?_; rintro e w' ⟨rfl, rfl⟩)
                    refine HTK.out.mono ?_
                    rintro e W5 ⟨⟨v, rfl⟩, vs', hd5, hk5, _⟩
                    have HF5 := Hid.intro' (HF.out.step hd5 hk5 (by rw [List.length_set]))
                    have HL5 : Hid ((ls.set k (l' ++ [(i : Int)])).length = n ∧ ∃ l'', (ls.set k (l' ++ [(i : Int)]))[k]? = some l'' ∧ l''.length ≤ j + 1) :=
                      ⟨by rw [List.length_set]; exact HLN.out.1, l' ++ [(i : Int)], by rw [List.getElem?_set_self (by rw [HLN.out.1]; exact hkn)], by simp; exact hll'⟩
                    have HE5 : Hid (∀ c, k < c → c < n → (ls.set k (l' ++ [(i : Int)]))[c]? = some []) := fun c h1 h2 => by
                      show _ = _
                      rw [List.getElem?_set_ne (by omega)]; exact HEM.out c h1 h2
                    rw [Int.toNat_natCast] at HK3
                    clear hd5 hk5 HTK hmt hcx c14 HF HLN HEM HK1
                    go_wp2
                    go_roundw
                    case rel => exact ⟨j + 1, vs', st.set i true, _, by omega, by go_num, HF5, HK3, HL5, HE5⟩
                    case measure => simp [intOf]; omega
            · have hjz : ¬ (j : Int) < (l.length : Int) := by omega
              have HK2 : Hid (R = PM.runs (msk s) (k + 1) st (p.drop (k + 1))) := by
                show R = _
                have h := HK.out
                unfold Lf at h
                rw [h, List.drop_of_length_le (by omega), PM.run1]; rfl
              go_wp2
              go_roundw
              case rel => exact ⟨k + 1, vs, st, ls, by omega, by go_num, HF, HK2.out, HLN.out.1, fun c h1 h2 => HEM.out c (by omega) h2⟩
              case measure => simp [intOf]; omega
        · have hkz : ¬ (k : Int) < (p.length : Int) := by omega
          have HS := Hid.intro' (HFS.out st (by rw [HI.out.1, List.drop_of_length_le (by omega), PM.runs]))
          go_wp2_with fail
          refine (nothingLeft_any HF.out.dq (by have := HF.out.sl; omega)).mono ?_
          rintro e w' ⟨rfl, rfl⟩
          go_wp2
          go_ret
          exact ⟨ret_bool HS.out.symm, HF.out.bel⟩
    · have q1 : ((p.length : Int) != (n : Int)) = true := by simp; omega
      have HQ : Hid (fsb s p = false) := by
        show fsb s p = false
        unfold fsb; rw [HCL.out, decide_eq_false hpn]; simp
      clear hpn hcl
      go_wp2
      go_ret
      exact ⟨ret_bool HQ.out.symm, HB1.out⟩
end Go.Proofs.Ytdfdkddjkhcgdah

/- Each want's time, and the cost, as the document tells them. -/
namespace Go.Proofs.Ytdfdkddjkhcgdah
open Go.RowKit

namespace RM
variable {s : St} {ws : List (Int × Int)}
theorem pr1_get {r : Int × Int} {l : List Int} {j : Nat} {x : Int} (h : l[j]? = some x) : (pr1 s ws r l)[j]? = some (x, ar s (go s (bg r) ((l.take j).map (wf ws))) (wf ws x)) := by
  have h4 : (l.map (wf ws))[j]? = some (wf ws x) := by rw [List.getElem?_map, h]; rfl
  have h5 := tm_get (s := s) (a := bg r) h4
  rw [← List.map_take] at h5
  unfold pr1
  rw [List.getElem?_zip_eq_some]
  exact ⟨h, h5⟩
theorem pr1_length (r : Int × Int) (l : List Int) : (pr1 s ws r l).length = l.length := by
  unfold pr1
  rw [List.length_zip, tm_length, List.length_map, Nat.min_self]
theorem prs_snoc : ∀ {k : Nat} {cs : List (Int × Int)} {p : List (List Int)} {r : Int × Int} {l : List Int}, cs[k]? = some r → p[k]? = some l → prs s ws (cs.take (k + 1)) (p.take (k + 1)) = prs s ws (cs.take k) (p.take k) ++ pr1 s ws r l
  | _, [], _, _, _, h, _ => by simp at h
  | _, _ :: _, [], _, _, _, h => by simp at h
  | 0, r0 :: cs, l0 :: p, r, l, h1, h2 => by
    simp at h1 h2
    subst h1 h2
    simp [prs]
  | k + 1, r0 :: cs, l0 :: p, r, l, h1, h2 => by
    have := prs_snoc (k := k) (cs := cs) (p := p) (r := r) (l := l) (by simpa using h1) (by simpa using h2)
    rw [List.take_succ_cons, List.take_succ_cons, List.take_succ_cons, List.take_succ_cons]
    show pr1 s ws r0 l0 ++ prs s ws (cs.take (k + 1)) (p.take (k + 1)) = (pr1 s ws r0 l0 ++ prs s ws (cs.take k) (p.take k)) ++ pr1 s ws r l
    rw [this, List.append_assoc]
/-- what is written behind k lists, and j wants of the next one -/
def wto (s : St) (ws cs : List (Int × Int)) (p : List (List Int)) (r : Int × Int) (l : List Int) (k j : Nat) : List Int := put (List.replicate ws.length 0) (prs s ws (cs.take k) (p.take k) ++ (pr1 s ws r l).take j)
def wtk (s : St) (ws cs : List (Int × Int)) (p : List (List Int)) (k : Nat) : List Int := put (List.replicate ws.length 0) (prs s ws (cs.take k) (p.take k))
variable {cs : List (Int × Int)} {p : List (List Int)}
theorem wto_zero (r : Int × Int) (l : List Int) (k : Nat) : wto s ws cs p r l k 0 = wtk s ws cs p k := by unfold wto wtk; rw [List.take_zero, List.append_nil]
theorem wto_succ {r : Int × Int} {l : List Int} {k j : Nat} {x : Int} (h : l[j]? = some x) : wto s ws cs p r l k (j + 1) = (wto s ws cs p r l k j).set x.toNat (ar s (go s (bg r) ((l.take j).map (wf ws))) (wf ws x)) := by
  unfold wto
  rw [take_snoc (pr1_get h), ← List.append_assoc, put_append _ [_]]
  rfl
theorem wto_end {r : Int × Int} {l : List Int} {k : Nat} (h1 : cs[k]? = some r) (h2 : p[k]? = some l) : wto s ws cs p r l k l.length = wtk s ws cs p (k + 1) := by
  unfold wto wtk
  rw [prs_snoc h1 h2, List.take_of_length_le (l := pr1 s ws r l) (by rw [pr1_length]; exact Nat.le_refl _)]
theorem wtk_zero : wtk s ws cs p 0 = List.replicate ws.length 0 := by unfold wtk; simp [prs, put]
theorem wtk_end {k : Nat} (h1 : cs.length ≤ k) (h2 : p.length ≤ k) : wtk s ws cs p k = wts s ws cs p := by
  unfold wtk wts
  rw [List.take_of_length_le h1, List.take_of_length_le h2]
theorem wto_length (r : Int × Int) (l : List Int) (k j : Nat) : (wto s ws cs p r l k j).length = ws.length := by unfold wto; rw [put_length, List.length_replicate]
end RM

/-- what holds while times are written -/
structure Wq (w W : World) (cb : Nat) (s : Sn) (D : Nat → Prop) (vc vw vp : Value) (p : List (List Int)) (o : List Int) : Prop where
  nb : NB W w.heap.size s.st vc vw
  ow : OI W (w.heap.size + 1) (.slice (some ⟨cb, 0, none⟩) s.ws.length s.ws.length) o
  rp : RL D W vp p
  rc : R2 D W vc s.cs
  rw : R2 D W vw s.ws
  dl : ∀ g, D g → g < w.heap.size
  bel : Below w.heap.size w W
section
variable {w W W' : World} {cb : Nat} {s : Sn} {D : Nat → Prop} {vc vw vp : Value} {p : List (List Int)} {o : List Int}
theorem Wq.next (h : Wq w W cb s D vc vw vp p o) (hb : Below W.heap.size W W') : Wq w W' cb s D vc vw vp p o :=
  ⟨h.nb.below' hb, h.ow.keep fun g hg => hb.block g (h.ow.lt g hg).2, h.rp.below' hb, h.rc.below' hb, h.rw.below' hb, h.dl, below_class h.bel hb⟩
theorem Wq.put (h : Wq w W cb s D vc vw vp p o) (i : Nat) (x : Int) : Wq w (W.setCell ⟨cb, i, none⟩ (.int .i64 x)) cb s D vc vw vp p (o.set i x) := by
  have hl := (h.ow.lt cb rfl).1
  have keep : ∀ k, k ≠ cb → (W.setCell ⟨cb, i, none⟩ (.int .i64 x)).heap[k]? = W.heap[k]? := fun k hk => Below.heap_setCell W ⟨cb, i, none⟩ _ k hk
  have kd : ∀ g, D g → g < W.heap.size → (W.setCell ⟨cb, i, none⟩ (.int .i64 x)).heap[g]? = W.heap[g]? := fun g hg _ => keep g (by have := h.dl g hg; omega)
  have hs : W.heap.size ≤ (W.setCell ⟨cb, i, none⟩ (.int .i64 x)).heap.size := by simp [World.setCell]
  exact ⟨(keep _ (by omega)).trans h.nb, h.ow.put i x, h.rp.keep hs kd, h.rc.keep hs kd, h.rw.keep hs kd, h.dl, h.bel.setCell (p := ⟨cb, i, none⟩) (by show _ ≤ cb; omega) _⟩
end
theorem ic_rep (n : Nat) : ic (List.replicate n 0) = List.replicate n (Value.int .i64 0) := by unfold ic; rw [List.map_replicate]

theorem cell_lt {W : World} {g o : Nat} {v : Value} (h : W.cell? ⟨g, o, none⟩ = some v) : g < W.heap.size := by
  obtain ⟨ob, ho, _⟩ := cells_of_cell h
  exact (Array.getElem?_eq_some_iff.1 ho).1
set_option maxHeartbeats 8000000 in
theorem rwaits_any (s : Sn) (D : Nat → Prop) (vc vw vp : Value) (p : List (List Int)) (w : World) (hc : R2 D w vc s.cs) (hw : R2 D w vw s.ws) (hp : RL D w vp p) (hf : fsb s p = true) (hll : ∀ l ∈ p, l.length ≤ 1000) :
    Calls Try.prog 38 #[.agg (nv s.st vc vw).toArray, vp] w fun e w' => ∃ v, e = .returned v ∧ OI w' w.heap.size v (RM.wts s.st s.ws s.cs p) ∧ Below w.heap.size w w' := by
  have hf3 : rgt s = true ∧ p.length = s.cs.length ∧ PM.feas (msk s) p = true := by unfold fsb at hf; simp [Bool.and_eq_true] at hf; exact ⟨hf.1.1, hf.1.2, hf.2⟩
  obtain ⟨n, hrs⟩ := rgt_rs hf3.1
  have HZ := Hid.intro' (rgt_rz hf3.1)
  have HAF := Hid.intro' (rgt_after hf3.1)
  have HPC := Hid.intro' hf3.2.1
  have HRG : Hid (∀ x ∈ p.flatten, 0 ≤ x ∧ x < s.ws.length) := fun x hx => by
    have := RM.fz_range (PM.feas_iff.1 hf3.2.2) x hx
    rw [show (msk s).length = s.ws.length from hrs.mm.len] at this
    exact this
  have hwl : s.ws.length ≤ 128 := hrs.wl
  have hpl : p.length ≤ 8 := by have := hrs.cl; have := hrs.n8; have := hf3.2.1; omega
  have HP : Hid (RL (fun g => g < w.heap.size) w vp p) := hp.mono fun g _ h _ => h
  have HW : Hid (R2 (fun g => g < w.heap.size) w vw s.ws) := hw.mono fun g _ h _ => h
  have HC : Hid (R2 (fun g => g < w.heap.size) w vc s.cs) := hc.mono fun g _ h _ => h
  have hbx := (Below.refl w.heap.size w).alloc (Nat.le_refl _) (.cells (nv s.st vc vw).toArray 27)
  have HN := Hid.intro' (NB.new w s.st vc vw)
  have HB := Hid.intro' hbx
  obtain ⟨ac, kc, rfl, _, _⟩ := hc.form
  obtain ⟨aw, kw, rfl, _, _⟩ := hw.form
  obtain ⟨ap, kp, rfl, _, _⟩ := hp.form
  have HLL := Hid.intro' hll
  have hmk := mkI s.ws.length (by omega)
  have c14 : (w.alloc (.cells (nv s.st (.slice ac s.cs.length kc) (.slice aw s.ws.length kw)).toArray 27)).cell? ⟨w.heap.size, 14, none⟩ = some (.slice aw s.ws.length kw) := HN.out.cell 14
  clear hc hw hp hbx hll hf hf3 hrs
  go_enter Try.func38, Try.ntmps38
  go_wp2_with fail
  have HS1 : Hid ((w.alloc (.cells (nv s.st (.slice ac s.cs.length kc) (.slice aw s.ws.length kw)).toArray 27)).heap.size = w.heap.size + 1) := by show _ = _; simp
  clear c14 hmk
  generalize w.alloc (.cells (nv s.st (.slice ac s.cs.length kc) (.slice aw s.ws.length kw)).toArray 27) = X at HN HB HS1 ⊢
  have hbY := (Below.refl X.heap.size X).alloc (Nat.le_refl _) (.cells (Array.replicate s.ws.length (Value.int .i64 0)) 3)
  have HQ0 : Hid (Wq w (X.alloc (.cells (Array.replicate s.ws.length (Value.int .i64 0)) 3)) (w.heap.size + 1) s (fun g => g < w.heap.size) (.slice ac s.cs.length kc) (.slice aw s.ws.length kw) (.slice ap p.length kp) p (RM.wtk s.st s.ws s.cs p 0)) := by
    have hb2 := below_class HB.out hbY
    refine ⟨HN.out.below' hbY, ?_, HP.out.below' hb2, HC.out.below' hb2, HW.out.below' hb2, fun _ h => h, hb2⟩
    have := OI.lit (B := w.heap.size + 1) X (List.replicate s.ws.length 0) (by rw [HS1.out]; exact Nat.le_refl _) (by rw [List.length_replicate]; unfold maxLen; omega)
    rw [ic_rep, List.length_replicate, List.toArray_replicate, HS1.out] at this
    rw [RM.wtk_zero]
    exact this
  clear hbY HN HB HS1 HP HC HW
  generalize X.alloc (.cells (Array.replicate s.ws.length (Value.int .i64 0)) 3) = Y at HQ0 ⊢
  generalize w.heap.size + 1 = cb at HQ0 ⊢
  go_loopw [6] (fun i wr => ∃ k : Nat, k ≤ p.length ∧ i = .int .i64 (k : Int) ∧ Hid (Wq w wr cb s (fun g => g < w.heap.size) (.slice ac s.cs.length kc) (.slice aw s.ws.length kw) (.slice ap p.length kp) p (RM.wtk s.st s.ws s.cs p k))) (fun i _ => p.length - (intOf i).toNat)
  case atStart => exact ⟨0, Nat.zero_le _, rfl, HQ0⟩
  case round =>
    obtain ⟨k, hk, rfl, HQ⟩ := hrel
    clear HQ0
    by_cases hlt : k < p.length
    · have hkz : (k : Int) < (p.length : Int) := by omega
      obtain ⟨l, hl⟩ : ∃ l, p[k]? = some l := ⟨_, List.getElem?_eq_getElem hlt⟩
      obtain ⟨r, hr⟩ : ∃ r, s.cs[k]? = some r := ⟨_, List.getElem?_eq_getElem (by have := HPC.out; omega)⟩
      have HL := Hid.intro' hl
      have HR := Hid.intro' hr
      have HLX : Hid (∀ x ∈ l, 0 ≤ x ∧ x < s.ws.length) := fun x hx => HRG.out x (List.mem_flatten.2 ⟨l, List.mem_of_getElem? HL.out, hx⟩)
      have hln : l.length ≤ 1000 := HLL.out l (List.mem_of_getElem? hl)
      have HQ2 : Hid (Wq w wr cb s (fun g => g < w.heap.size) (.slice ac s.cs.length kc) (.slice aw s.ws.length kw) (.slice ap p.length kp) p (RM.wto s.st s.ws s.cs p r l k 0)) := by
        show Wq _ _ _ _ _ _ _ _ _ _
        rw [RM.wto_zero]; exact HQ.out
      clear hl hr HQ
      go_wp2_with fail
      generalize wr = W3 at HQ2 ⊢
      go_loopw [7] (fun i wr => ∃ j : Nat, j ≤ l.length ∧ i = .int .i64 (j : Int) ∧ Hid (Wq w wr cb s (fun g => g < w.heap.size) (.slice ac s.cs.length kc) (.slice aw s.ws.length kw) (.slice ap p.length kp) p (RM.wto s.st s.ws s.cs p r l k j))) (fun i _ => l.length - (intOf i).toNat)
      case atStart => exact ⟨0, Nat.zero_le _, rfl, HQ2⟩
      case round =>
        clear HQ2
        obtain ⟨j, hj, rfl, HQ⟩ := hrel
        obtain ⟨gp, op, rfl, u, hcu, hru⟩ := HQ.out.rp.at HL.out
        obtain ⟨au, ku, rfl, _, _⟩ := hru.form
        have HRU := Hid.intro' hru
        have HCU := Hid.intro' hcu
        by_cases hjl : j < l.length
        · have hjz : (j : Int) < (l.length : Int) := by omega
          obtain ⟨x, hx⟩ : ∃ x, l[j]? = some x := ⟨_, List.getElem?_eq_getElem hjl⟩
          have hxr := HLX.out x (List.mem_of_getElem? hx)
          obtain ⟨i, rfl⟩ : ∃ i : Nat, x = (i : Int) := ⟨x.toNat, by omega⟩
          obtain ⟨gu, ou, rfl, hcx⟩ := HRU.out.at hx
          obtain ⟨T, HT⟩ : ∃ T, Hid (RM.ar s.st (RM.go s.st (RM.bg r) ((l.take j).map (RM.wf s.ws))) (RM.wf s.ws (i : Int)) = T) := ⟨_, Hid.intro' rfl⟩
          have HB2 : Hid (∀ w', Below wr.drew.heap.size wr.drew w' → Below wr.heap.size wr w') := fun w' hw => ((Below.refl _ wr).drew).trans hw
          have HNB : Hid (∀ w', Below wr.drew.heap.size wr.drew w' → NB w' w.heap.size s.st (.slice ac s.cs.length kc) (.slice aw s.ws.length kw)) := fun w' hw => HQ.out.nb.below' (HB2.out w' hw)
          have HCW : Hid (∀ w', Below wr.drew.heap.size wr.drew w' → w'.cell? ⟨gp, op + k, none⟩ = some (.slice (some ⟨gu, ou, none⟩) l.length ku)) := fun w' hw => by
            have h1 := (HQ.out.rp.below' (HB2.out w' hw))
            have hlt2 : gp < wr.heap.size := cell_lt HCU.out
            exact ((HB2.out w' hw).cell (p := ⟨gp, op + k, none⟩) hlt2).trans HCU.out
          have HCX : Hid (∀ w', Below wr.drew.heap.size wr.drew w' → w'.cell? ⟨gu, ou + j, none⟩ = some (.int .i64 (i : Int))) := fun w' hw => ((HB2.out w' hw).cell (p := ⟨gu, ou + j, none⟩) (cell_lt hcx)).trans hcx
          have HTM : Hid (∀ w', Below wr.drew.heap.size wr.drew w' → Calls Try.prog 75 #[.agg (nv s.st (.slice ac s.cs.length kc) (.slice aw s.ws.length kw)).toArray, .int .i64 (k : Int), .slice (some ⟨gu, ou, none⟩) l.length ku, .int .i64 (j : Int)] w' fun e w'' => e = .returned (.int .i64 T) ∧ Below w'.heap.size w' w'') := fun w' hw => by
            have hb := HB2.out w' hw
            exact rtime_at s _ _ _ _ k j r l w' (HQ.out.rc.below' hb) (HQ.out.rw.below' hb) (HRU.out.below' hb) HR.out (i : Int) hx HZ.out HLX.out (by omega) (by have := HAF.out r (List.mem_of_getElem? HR.out); omega) T HT
          have HST : Hid (RM.wto s.st s.ws s.cs p r l k (j + 1) = (RM.wto s.st s.ws s.cs p r l k j).set i T) := by
            show _ = _
            rw [RM.wto_succ hx, Int.toNat_natCast, HT.out]
          have hiw : i < s.ws.length := by omega
          have hcx2 := hcx
          clear hx hru hxr hcx2
          go_wp2_with fail
          clear hcu hcx
          refine wp_region_tail 17 (by kernel_rfl) (by kernel_rfl) ?_
          simp only [List.take_succ_cons, List.take_zero, List.drop_succ_cons, List.drop_zero]
          unfold wpCalm
          generalize hK : wpCalm Try.prog _ _ _ _ = K
          unfold Oper.calm
          go_simp
          refine ⟨_, fun _ _ => rfl, ?_⟩
          subst hK
          unfold wpCalm
          generalize hK : wpCalm Try.prog _ _ _ _ = K
          unfold Oper.calm
          go_simp
          refine ⟨_, fun _ _ => rfl, ?_⟩
          subst hK
          unfold wpCalm
          generalize hK : wpCalm Try.prog _ _ _ _ = K
          unfold Oper.calm
          go_simp
          refine ⟨_, fun _ _ => rfl, ?_⟩
          subst hK
          unfold wpCalm
          generalize hK : wpCalm Try.prog _ _ _ _ = K
          rw [if_pos (by go_simp)]
          refine calm_ixP _ _ rfl rfl rfl hlt ?_
          go_simp
          subst hK
          unfold wpCalm
          generalize hK : wpCalm Try.prog _ _ _ _ = K
          rw [if_pos (by go_simp)]
          refine calm_loadLI _ _ _ rfl rfl HCW.out ?_
          go_simp
          subst hK
          unfold wpCalm
          generalize hK : wpCalm Try.prog _ _ _ _ = K
          unfold Oper.calm
          go_simp
          refine ⟨_, fun _ _ => rfl, ?_⟩
          subst hK
          unfold wpCalm
          generalize hK : wpCalm Try.prog _ _ _ _ = K
          rw [if_pos (by go_simp)]
          refine calm_ixI _ _ rfl rfl rfl hjl ?_
          go_simp
          subst hK
          unfold wpCalm
          generalize hK : wpCalm Try.prog _ _ _ _ = K
          rw [if_pos (by go_simp)]
          refine calm_load3 _ _ _ rfl rfl HCX.out ?_
          go_simp
          subst hK
          unfold wpCalm
          generalize hK : wpCalm Try.prog _ _ _ _ = K
          rw [if_pos (by go_simp)]
          refine calm_load27 _ w.heap.size s.st _ _ rfl rfl HNB.out ?_
          go_simp
          subst hK
          unfold wpCalm
          generalize hK : wpCalm Try.prog _ _ _ _ = K
          unfold Oper.calm
          go_simp
          refine ⟨_, fun _ _ => rfl, ?_⟩
          subst hK
          unfold wpCalm
          generalize hK : wpCalm Try.prog _ _ _ _ = K
          unfold Oper.calm
          go_simp
          refine ⟨_, fun _ _ => rfl, ?_⟩
          subst hK
          unfold wpCalm
          generalize hK : wpCalm Try.prog _ _ _ _ = K
          unfold Oper.calm
          go_simp
          refine ⟨_, fun _ _ => rfl, ?_⟩
          subst hK
          unfold wpCalm
          generalize hK : wpCalm Try.prog _ _ _ _ = K
          rw [if_pos (by go_simp)]
          refine calm_ixP _ _ rfl rfl rfl hlt ?_
          go_simp
          subst hK
          unfold wpCalm
          generalize hK : wpCalm Try.prog _ _ _ _ = K
          rw [if_pos (by go_simp)]
          refine calm_loadLI _ _ _ rfl rfl HCW.out ?_
          go_simp
          subst hK
          unfold wpCalm
          generalize hK : wpCalm Try.prog _ _ _ _ = K
          unfold Oper.calm
          go_simp
          refine ⟨_, fun _ _ => rfl, ?_⟩
          subst hK
          unfold wpCalm
          generalize hK : wpCalm Try.prog _ _ _ _ = K
          unfold Oper.calm
          go_simp
          refine ⟨_, fun w' hw => HTM.out w' hw, ?_⟩
          subst hK
          unfold wpCalm
          generalize hK : wpCalm Try.prog _ _ _ _ = K
          rw [if_pos (by go_simp)]
          refine calm_ixI _ _ rfl rfl rfl hiw ?_
          go_simp
          subst hK
          refine wpCalm_nil ?_
          intro W4 hb4
          have HQ4 := Hid.intro' (HQ.out.next (HB2.out W4 hb4))
          obtain ⟨y, hy⟩ : ∃ y, (RM.wto s.st s.ws s.cs p r l k j)[i]? = some y := ⟨_, List.getElem?_eq_getElem (by rw [RM.wto_length]; exact hiw)⟩
          have s4 : W4.cell? ⟨cb, i, none⟩ = some (.int .i64 y) := HQ4.out.ow.cell hy
          have t4 := HQ4.out.ow.fr i
          have HQ5 := Hid.intro' (HQ4.out.put i T)
          rw [← HST.out] at HQ5
          clear hy hb4 HB2 HNB HCW HCX HTM HQ HQ4 HRU HCU
          go_wp2
          go_roundw
          case rel => exact ⟨j + 1, by omega, by go_num, HQ5⟩
          case measure => simp [intOf]; omega
        · have hjz : ¬ (j : Int) < (l.length : Int) := by omega
          have HQ2 : Hid (Wq w wr cb s (fun g => g < w.heap.size) (.slice ac s.cs.length kc) (.slice aw s.ws.length kw) (.slice (some ⟨gp, op, none⟩) p.length kp) p (RM.wtk s.st s.ws s.cs p (k + 1))) := by
            show Wq _ _ _ _ _ _ _ _ _ _
            rw [← RM.wto_end HR.out HL.out, show l.length = j by omega]; exact HQ.out
          go_wp2
          go_roundw
          case rel => exact ⟨k + 1, by omega, by go_num, HQ2⟩
          case measure => simp [intOf]; omega
    · have hkz : ¬ (k : Int) < (p.length : Int) := by omega
      have HE : Hid (OI wr w.heap.size (.slice (some ⟨cb, 0, none⟩) s.ws.length s.ws.length) (RM.wts s.st s.ws s.cs p) ∧ Below w.heap.size w wr) := by
        have h1 := HQ.out.ow
        rw [RM.wtk_end (by have := HPC.out; omega) (by omega)] at h1
        exact ⟨h1.mono (by omega), HQ.out.bel⟩
      go_wp2
      go_ret
      exact ⟨_, rfl, HE.out.1, HE.out.2⟩

end Go.Proofs.Ytdfdkddjkhcgdah

/- The cost, as the document tells it; whether two lists are one. -/
namespace Go.Proofs.Ytdfdkddjkhcgdah
open Go.RowKit

namespace RM
theorem put_mem {t : Int} : ∀ {q : List (Int × Int)} {o : List Int}, t ∈ put o q → t ∈ o ∨ ∃ x ∈ q, x.2 = t
  | [], _, h => .inl h
  | x :: q, o, h => by
    rcases put_mem (q := q) (o := o.set x.1.toNat x.2) h with h | ⟨y, hy, e⟩
    · rcases List.mem_or_eq_of_mem_set h with h | h
      · exact .inl h
      · exact .inr ⟨x, by simp, h.symm⟩
    · exact .inr ⟨y, by simp [hy], e⟩
theorem prs_bd {s : St} {ws cs : List (Int × Int)} {p : List (List Int)} (z : Rz s ws cs) (hp : ∀ x ∈ p.flatten, 0 ≤ x ∧ x < ws.length) (hc : ∀ r ∈ cs, r.2 ≤ 1000000) (hl : ∀ l ∈ p, l.length ≤ 1000) : ∀ x ∈ prs s ws cs p, 0 ≤ x.2 ∧ x.2 ≤ 80000000 := fun x hx => by
  obtain ⟨w, t⟩ := x
  obtain ⟨c, i, r, l, h1, h2, h3, h4⟩ := prs_where hx
  have hall : ∀ x ∈ l, 0 ≤ x ∧ x < ws.length := fun x hx => hp x (List.mem_flatten.2 ⟨l, List.mem_of_getElem? h2, hx⟩)
  have hin := z.inn (l := l.take i) fun x hx => hall x (List.mem_of_mem_take hx)
  have ok0 := z.cr r (List.mem_of_getElem? h1)
  have ok := go_ok z.rt ok0 hin
  have g1 := ar_nn z.rt ok (wf ws w)
  have g2 := ar_le z.rt ok (wf ws w)
  have g3 := go_le z.rt ok0 hin
  have g4 := hc r (List.mem_of_getElem? h1)
  have g5 := hl l (List.mem_of_getElem? h2)
  have g6 := (List.getElem?_eq_some_iff.1 h3).1
  rw [List.length_map, List.length_take] at g3
  have g7 : (bg r).le = r.2 := rfl
  show 0 ≤ t ∧ t ≤ _
  omega
theorem wts_bd {s : St} {ws cs : List (Int × Int)} {p : List (List Int)} (z : Rz s ws cs) (hp : ∀ x ∈ p.flatten, 0 ≤ x ∧ x < ws.length) (hc : ∀ r ∈ cs, r.2 ≤ 1000000) (hl : ∀ l ∈ p, l.length ≤ 1000) : ∀ t ∈ wts s ws cs p, 0 ≤ t ∧ t ≤ 80000000 := fun t ht => by
  rcases put_mem ht with h | ⟨x, hx, e⟩
  · rw [List.mem_replicate] at h; omega
  · rw [← e]; exact prs_bd z hp hc hl x hx
theorem sum_bd {B : Int} : ∀ {l : List Int}, (∀ t ∈ l, 0 ≤ t ∧ t ≤ B) → 0 ≤ l.sum ∧ l.sum ≤ B * (l.length : Int)
  | [], _ => by simp
  | a :: l, h => by
    have h1 := h a (by simp)
    have h2 := sum_bd (l := l) fun t ht => h t (by simp [ht])
    rw [List.sum_cons, List.length_cons, Int.natCast_add, Int.mul_add]
    omega
end RM
/-- what is known of a plan that may be -/
structure Fs (s : Sn) (p : List (List Int)) : Prop where
  rg : rgt s = true
  rz : RM.Rz s.st s.ws s.cs
  fz : PM.Fz (msk s) p
  pc : s.cs.length = p.length
  ml : (msk s).length = s.ws.length
  wl : s.ws.length ≤ 128
  p1 : 1 ≤ p.length
  p8 : p.length ≤ 8
  fr : ∀ x ∈ p.flatten, 0 ≤ x ∧ x < s.ws.length
  af : ∀ r ∈ s.cs, r.2 ≤ 1000000
theorem fsb_fs {s : Sn} {p : List (List Int)} (hf : fsb s p = true) : Fs s p := by
  have hf3 : rgt s = true ∧ p.length = s.cs.length ∧ PM.feas (msk s) p = true := by unfold fsb at hf; simp [Bool.and_eq_true] at hf; exact ⟨hf.1.1, hf.1.2, hf.2⟩
  obtain ⟨n, hrs⟩ := rgt_rs hf3.1
  have h1 := hrs.cl
  have h2 := hrs.n8
  have h3 := hrs.n1
  have h4 := hf3.2.1
  refine ⟨hf3.1, rgt_rz hf3.1, PM.feas_iff.1 hf3.2.2, hf3.2.1.symm, hrs.mm.len, hrs.wl, by omega, by omega, fun x hx => ?_, rgt_after hf3.1⟩
  have := RM.fz_range (PM.feas_iff.1 hf3.2.2) x hx
  rw [show (msk s).length = s.ws.length from hrs.mm.len] at this
  exact this
/-- what a plan costs -/
theorem Fs.sum {s : Sn} {p : List (List Int)} (h : Fs s p) : (RM.wts s.st s.ws s.cs p).sum = RM.cst s.st s.ws s.cs p := RM.wts_sum h.fz h.ml h.pc
theorem Fs.bd {s : Sn} {p : List (List Int)} (h : Fs s p) (hl : ∀ l ∈ p, l.length ≤ 1000) : ∀ t ∈ RM.wts s.st s.ws s.cs p, 0 ≤ t ∧ t ≤ 80000000 := RM.wts_bd h.rz h.fr h.af hl
theorem Fs.cost {s : Sn} {p : List (List Int)} (h : Fs s p) (hl : ∀ l ∈ p, l.length ≤ 1000) : 0 ≤ RM.cst s.st s.ws s.cs p ∧ RM.cst s.st s.ws s.cs p ≤ 10240000000 := by
  have h1 := RM.sum_bd (h.bd hl)
  rw [h.sum, RM.wts_length] at h1
  have := h.wl
  omega

set_option maxHeartbeats 4000000 in
theorem rcost_any (s : Sn) (D : Nat → Prop) (vc vw vp : Value) (p : List (List Int)) (w : World) (hc : R2 D w vc s.cs) (hw : R2 D w vw s.ws) (hp : RL D w vp p) (hf : fsb s p = true) (hll : ∀ l ∈ p, l.length ≤ 1000) :
    Calls Try.prog 18 #[.agg (nv s.st vc vw).toArray, vp] w fun e w' => e = .returned (.int .i64 (RM.cst s.st s.ws s.cs p)) ∧ Below w.heap.size w w' := by
  have HFS := Hid.intro' (fsb_fs hf)
  have hbx := (Below.refl w.heap.size w).alloc (Nat.le_refl _) (.cells (nv s.st vc vw).toArray 27)
  have HN := Hid.intro' (NB.new w s.st vc vw)
  have HB := Hid.intro' hbx
  have HRW := Hid.intro' (rwaits_any s D vc vw vp p _ (hc.below' hbx) (hw.below' hbx) (hp.below' hbx) hf hll)
  have HS := Hid.intro' (fsb_fs hf).sum
  have HL : Hid ((RM.wts s.st s.ws s.cs p).length = s.ws.length) := RM.wts_length
  have hwl : s.ws.length ≤ 128 := (fsb_fs hf).wl
  have HBD := Hid.intro' ((fsb_fs hf).bd hll)
  clear hc hw hp hf hll hbx
  generalize hwt : RM.wts s.st s.ws s.cs p = ts at HRW HS HL HBD
  clear hwt
  generalize RM.cst s.st s.ws s.cs p = cst at HS
  go_enter Try.func18, Try.ntmps18
  go_wp2_with (refine wpList_load27g rfl _ rfl w.heap.size s.st _ _ rfl HN.out ?_)
  refine HRW.out.mono ?_
  rintro e W1 ⟨v, rfl, ho, hb1⟩
  obtain ⟨av, kv, rfl⟩ := ho.slice
  rw [HL.out] at ho ⊢
  have HO := Hid.intro' ho
  have HB1 := Hid.intro' (below_class HB.out hb1)
  clear ho hb1 HN HRW HB
  go_wp2_with fail
  go_loopw [6, 7] (fun n i wr => ∃ (j : Nat) (t : Int), j ≤ s.ws.length ∧ i = .int .i64 (j : Int) ∧ n = .int .i64 t ∧ Hid (wr = W1) ∧ Hid (t = (ts.take j).sum)) (fun _ i _ => s.ws.length - (intOf i).toNat)
  case atStart => exact ⟨0, 0, Nat.zero_le _, rfl, rfl, rfl, by show _ = _; simp⟩
  case round =>
    obtain ⟨j, t, hj, rfl, rfl, HW1, HT⟩ := hrel
    obtain rfl : wr = W1 := HW1.out
    by_cases hlt : j < s.ws.length
    · have hjz : (j : Int) < (s.ws.length : Int) := by omega
      obtain ⟨y, hy⟩ : ∃ y, ts[j]? = some y := ⟨_, List.getElem?_eq_getElem (by have := HL.out; omega)⟩
      obtain ⟨gv, ov, rfl, hcy⟩ := (HO.out.ri (D := fun _ => True) fun _ _ => trivial).at hy
      have hyb := HBD.out y (List.mem_of_getElem? hy)
      have hsb := RM.sum_bd (B := 80000000) (l := ts.take j) fun t ht => HBD.out t (List.mem_of_mem_take ht)
      rw [← HT.out, List.length_take] at hsb
      have HT2 : Hid (t + y = (ts.take (j + 1)).sum) := by
        show _ = _
        rw [take_snoc hy, List.sum_append, ← HT.out]; simp
      have hw1 : IntKind.i64.wrap (t + y) = t + y := IntWalk.i64_in _ (by omega)
      clear hy hyb hsb
      go_wp2
      go_roundw
      case rel => exact ⟨j + 1, t + y, by omega, by go_num, by go_num, trivial, HT2⟩
      case measure => simp [intOf]; omega
    · have hjz : ¬ (j : Int) < (s.ws.length : Int) := by omega
      have HE : Hid (t = cst) := by
        show t = _
        rw [HT.out, List.take_of_length_le (by have := HL.out; omega)]; exact HS.out
      go_wp2
      go_ret
      exact ⟨ret_int HE.out, HB1.out⟩

end Go.Proofs.Ytdfdkddjkhcgdah
