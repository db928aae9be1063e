/- A new plan on its way; whether a plan may be, as the program tells it. -/
import Derived.Test.YtkcppidmbojglafPlG
namespace Go.Proofs.Ytkcppidmbojglaf
open Go.RowKit

theorem made_one (z : Value) (hz : z.cells = #[z]) (n : Nat) : madeCells z.cells n = (List.replicate n z).toArray := by
  apply Array.ext
  · rw [size_madeCells]; simp
  · intro i h1 h2
    simp only [madeCells, hz, List.getElem_toArray, List.getElem_replicate]
    simp [Nat.mod_one]
theorem info_h {t : TypeId} {v : Value} {a b : Nat} (h : (Try.prog.info? t).map (fun i => (i.zero, i.size, i.bytes)) = some (some v, a, b)) : ∃ i, Try.prog.info? t = some i ∧ i.zero = some v ∧ i.size = a ∧ i.bytes = b := by
  obtain ⟨i, h1, h2⟩ := Option.map_eq_some_iff.1 h
  simp only [Prod.mk.injEq] at h2
  exact ⟨i, h1, h2.1, h2.2.1, h2.2.2⟩
theorem infoHB : (Try.prog.info? 4).map (fun i => (i.zero, i.size, i.bytes)) = some (some (.bool false), 1, 1) := by kernel_rfl
theorem infoHL : (Try.prog.info? 38).map (fun i => (i.zero, i.size, i.bytes)) = some (some (.slice none 0 0), 1, 24) := by kernel_rfl
theorem infoHI : (Try.prog.info? 3).map (fun i => (i.zero, i.size, i.bytes)) = some (some (.int .i64 0), 1, 8) := by kernel_rfl
theorem mkB (n : Nat) (hn : n ≤ 1000) (W : World) : (Instr.makeSlice 81 (.int .i64 (n : Int)) (.int .i64 (n : Int))).run Try.prog W = .ok (.slice (some ⟨W.heap.size, 0, none⟩) n n) (W.alloc (.cells (List.replicate n (Value.bool false)).toArray 4)) := by
  obtain ⟨i, hi, h1, h2, h3⟩ := info_h infoHB
  have := run_make (P := Try.prog) W 81 4 i _ Try.underlying81 hi h1 .i64 .i64 (n : Int) (n : Int) (by omega) (by omega) (by
    have : (i.bytes : Int) * (n : Int) ≤ 24 * 1000 := Int.mul_le_mul (by omega) (by omega) (by omega) (by omega)
    omega) (by omega)
  rw [this, h2, Int.toNat_natCast, made_one _ rfl, Nat.mul_one]
theorem mkL (n : Nat) (hn : n ≤ 1000) (W : World) : (Instr.makeSlice 34 (.int .i64 (n : Int)) (.int .i64 (n : Int))).run Try.prog W = .ok (.slice (some ⟨W.heap.size, 0, none⟩) n n) (W.alloc (.cells (List.replicate n (Value.slice none 0 0)).toArray 38)) := by
  obtain ⟨i, hi, h1, h2, h3⟩ := info_h infoHL
  have := run_make (P := Try.prog) W 34 38 i _ Try.underlying34 hi h1 .i64 .i64 (n : Int) (n : Int) (by omega) (by omega) (by
    have : (i.bytes : Int) * (n : Int) ≤ 24 * 1000 := Int.mul_le_mul (by omega) (by omega) (by omega) (by omega)
    omega) (by omega)
  rw [this, h2, Int.toNat_natCast, made_one _ rfl, Nat.mul_one]
theorem mkI (n : Nat) (hn : n ≤ 1000) (W : World) : (Instr.makeSlice 38 (.int .i64 (n : Int)) (.int .i64 (n : Int))).run Try.prog W = .ok (.slice (some ⟨W.heap.size, 0, none⟩) n n) (W.alloc (.cells (List.replicate n (Value.int .i64 0)).toArray 3)) := by
  obtain ⟨i, hi, h1, h2, h3⟩ := info_h infoHI
  have := run_make (P := Try.prog) W 38 3 i _ Try.underlying38 hi h1 .i64 .i64 (n : Int) (n : Int) (by omega) (by omega) (by
    have : (i.bytes : Int) * (n : Int) ≤ 24 * 1000 := Int.mul_le_mul (by omega) (by omega) (by omega) (by omega)
    omega) (by omega)
  rw [this, h2, Int.toNat_natCast, made_one _ rfl, Nat.mul_one]
theorem bv_rep (n : Nat) : bv (List.replicate n false) = List.replicate n (Value.bool false) := by unfold bv; rw [List.map_replicate]

theorem heap3 (w : World) (o1 o2 o3 : Obj) : (((w.alloc o1).alloc o2).alloc o3).heap[w.heap.size]? = some o1 ∧ (((w.alloc o1).alloc o2).alloc o3).heap[w.heap.size + 1]? = some o2 ∧ (((w.alloc o1).alloc o2).alloc o3).heap[w.heap.size + 1 + 1]? = some o3 := by
  have h1 := World.alloc_heap_new w o1
  have h2 := World.alloc_heap_new (w.alloc o1) o2
  have h3 := World.alloc_heap_new ((w.alloc o1).alloc o2) o3
  rw [World.size_alloc] at h2
  rw [World.size_alloc, World.size_alloc] at h3
  exact ⟨(Below.heap_alloc _ _ _ (by simp; omega)).trans ((Below.heap_alloc _ _ _ (by simp)).trans h1), (Below.heap_alloc _ _ _ (by simp)).trans h2, h3⟩

/-- a new one, whatever order its blocks have -/
theorem Dq.new {W W' : World} {G : Nat → Prop} {vw : Value} {ws : List (Int × Int)} {n m b sb lb : Nat} (hr : R2 G W vw ws) (hG : ∀ g, G g → g < W.heap.size) (hb : Below W.heap.size W W')
    (h1 : W'.heap[b]? = some (.cells [vw, .slice (some ⟨sb, 0, none⟩) m m, .slice (some ⟨lb, 0, none⟩) n n].toArray 83 (0, 0)))
    (h2 : W'.heap[sb]? = some (.cells (List.replicate m (Value.bool false)).toArray 4 (0, 0))) (h3 : W'.heap[lb]? = some (.cells (List.replicate n (Value.slice none 0 0)).toArray 38 (0, 0)))
    (n1 : b ≠ sb) (n2 : b ≠ lb) (n3 : sb ≠ lb) (l1 : W.heap.size ≤ b) (l2 : W.heap.size ≤ sb) (l3 : W.heap.size ≤ lb) :
    Dq W' W.heap.size b sb lb vw (List.replicate n (Value.slice none 0 0)) G ws (List.replicate m false) (List.replicate n []) := by
  have hnil : ∀ (c : Nat) v, (List.replicate n (Value.slice none 0 0))[c]? = some v → v = .slice none 0 0 := fun c v hv => by
    rw [List.getElem?_replicate] at hv
    split at hv
    · cases hv; rfl
    · cases hv
  refine ⟨by simpa using h1, by rw [bv_rep]; exact h2, h3, by simp, n1, n2, n3, fun c v l hv hl => ?_, fun c v g hv hg => ?_, fun c d v u g hv hu hg => ?_, l1, l2, l3, hr.below' hb, hG⟩
  · rw [hnil c v hv]
    rw [List.getElem?_replicate] at hl
    split at hl
    · cases hl; exact OI.nil _ _
    · cases hl
  · rw [hnil c v hv] at hg; cases hg
  · rw [hnil c v hv] at hg; cases hg

set_option maxHeartbeats 4000000 in
theorem newDraft_any (n : Nat) (hn : n ≤ 1000) (G : Nat → Prop) (vw : Value) (ws : List (Int × Int)) (w : World) (hr : R2 G w vw ws) (hG : ∀ g, G g → g < w.heap.size) (hws : ws.length ≤ 1000) :
    Calls Try.prog 32 #[.int .i64 (n : Int), vw] w fun e w' => ∃ b sb lb, e = .returned (.pointer (some ⟨b, 0, none⟩)) ∧
      Dq w' w.heap.size b sb lb vw (List.replicate n (Value.slice none 0 0)) G ws (List.replicate ws.length false) (List.replicate n []) ∧ Below w.heap.size w w' := by
  have HR := Hid.intro' hr
  have HG := Hid.intro' hG
  obtain ⟨a, cap, rfl, _, _⟩ := hr.form
  clear hr hG
  generalize hm : ws.length = m at hws
  rw [hm] at HR
  have k1 := mkB m hws
  have k2 := mkL n hn
  clear hm
  go_enter Try.func32, Try.ntmps32
  go_wp2_with fail
  go_region
  · have hb : Below w.heap.size w (((w.alloc (.cells (Array.replicate m (Value.bool false)) 4)).alloc (.cells (Array.replicate n (Value.slice none 0 0)) 38)).alloc (.cells #[.slice a m cap, .slice (some ⟨w.heap.size, 0, none⟩) m m, .slice (some ⟨w.heap.size + 1, 0, none⟩) n n] 83)).drew :=
      ((((Below.refl _ w).alloc (Nat.le_refl _) _).alloc (by simp) _).alloc (by simp; omega) _).drew
    obtain ⟨p1, p2, p3⟩ := heap3 w (.cells (Array.replicate m (Value.bool false)) 4) (.cells (Array.replicate n (Value.slice none 0 0)) 38) (.cells #[.slice a m cap, .slice (some ⟨w.heap.size, 0, none⟩) m m, .slice (some ⟨w.heap.size + 1, 0, none⟩) n n] 83)
    have HQ := Hid.intro' (And.intro (Dq.new (n := n) (m := m) (b := w.heap.size + 1 + 1) (sb := w.heap.size) (lb := w.heap.size + 1) HR.out HG.out hb p3 (by rw [List.toArray_replicate]; exact p1) (by rw [List.toArray_replicate]; exact p2) (by omega) (by omega) (by omega) (by omega) (by omega) (by omega)) hb)
    clear hb p1 p2 p3 k1 k2
    go_wp2
    go_ret
    exact ⟨_, _, _, rfl, HQ.out.1, HQ.out.2⟩
  · have hb : Below w.heap.size w (((w.alloc (.cells (Array.replicate n (Value.slice none 0 0)) 38)).alloc (.cells (Array.replicate m (Value.bool false)) 4)).alloc (.cells #[.slice a m cap, .slice (some ⟨w.heap.size + 1, 0, none⟩) m m, .slice (some ⟨w.heap.size, 0, none⟩) n n] 83)).drew :=
      ((((Below.refl _ w).alloc (Nat.le_refl _) _).alloc (by simp) _).alloc (by simp; omega) _).drew
    obtain ⟨p1, p2, p3⟩ := heap3 w (.cells (Array.replicate n (Value.slice none 0 0)) 38) (.cells (Array.replicate m (Value.bool false)) 4) (.cells #[.slice a m cap, .slice (some ⟨w.heap.size + 1, 0, none⟩) m m, .slice (some ⟨w.heap.size, 0, none⟩) n n] 83)
    have HQ := Hid.intro' (And.intro (Dq.new (n := n) (m := m) (b := w.heap.size + 1 + 1) (sb := w.heap.size + 1) (lb := w.heap.size) HR.out HG.out hb p3 (by rw [List.toArray_replicate]; exact p2) (by rw [List.toArray_replicate]; exact p1) (by omega) (by omega) (by omega) (by omega) (by omega) (by omega)) hb)
    clear hb p1 p2 p3 k1 k2
    go_wp2
    go_ret
    exact ⟨_, _, _, rfl, HQ.out.1, HQ.out.2⟩
theorem wok_iff' {fl : Int} {n : Nat} {x : Int × Int} : wok fl n x = true ↔ 0 ≤ x.1 ∧ x.1 < fl ∧ 0 < x.2 ∧ x.2 < 2 ^ n := by unfold wok; simp [and_assoc]
/-- the masks of a right snapshot's wants -/
def msk (s : Sn) : List Nat := s.ws.map fun y => y.2.toNat
/-- what is known of a right snapshot -/
structure Rs (s : Sn) (n : Nat) : Prop where
  ca : s.st.ca = (n : Int)
  n1 : 1 ≤ n
  n8 : n ≤ 8
  cl : s.cs.length = n
  wl : s.ws.length ≤ 128
  mm : Mk s.ws (msk s)
  lt : ∀ m ∈ msk s, m < 2 ^ n
theorem rgt_rs {s : Sn} (h : rgt s = true) : ∃ n, Rs s n := by
  unfold rgt at h
  simp only [Bool.and_eq_true, decide_eq_true_eq] at h
  obtain ⟨⟨⟨⟨h1, h2⟩, h3⟩, h4⟩, h5⟩ := h
  obtain ⟨n, hn8, hn1, hca⟩ := ca_nat ((rightB_iff _).1 h1)
  rw [hca, Int.toNat_natCast, List.all_eq_true] at h5
  have hlt : ∀ y ∈ s.ws, 0 < y.2 ∧ y.2 < 2 ^ n := fun y hy => by
    have := wok_iff'.1 (h5 y hy)
    exact ⟨this.2.2.1, this.2.2.2⟩
  refine ⟨n, hca, hn1, hn8, by omega, h3, ⟨by unfold msk; simp, fun i y hy => ?_⟩, fun m hm => ?_⟩
  · have h6 := hlt y (List.mem_of_getElem? hy)
    exact ⟨y.2.toNat, by unfold msk; rw [List.getElem?_map, hy]; rfl, by omega⟩
  · unfold msk at hm
    obtain ⟨y, hy, rfl⟩ := List.mem_map.1 hm
    have h6 := hlt y hy
    have h7 : ((2 ^ n : Nat) : Int) = 2 ^ n := by rw [Int.natCast_pow]; rfl
    omega

end Go.Proofs.Ytkcppidmbojglaf
