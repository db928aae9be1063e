/- Several texts in one, each with its own head. -/
import Derived.Test.YtkcppidmbojglagPlT
import Derived.Laws.MakeOwn
import Derived.Deep.RegionLaw
/- A plan on its way, in memory. -/
namespace Go.Proofs.Ytkcppidmbojglag
open Go.RowKit

/-- the cells of marks -/
def bv (st : List Bool) : List Value := st.map Value.bool
theorem bv_length (st : List Bool) : (bv st).length = st.length := by unfold bv; rw [List.length_map]
theorem bv_some {st : List Bool} {i : Nat} {x : Bool} (h : st[i]? = some x) : (bv st)[i]? = some (.bool x) := by
  unfold bv; rw [List.getElem?_map, h]; rfl
theorem bv_set (st : List Bool) (i : Nat) (x : Bool) : (bv st).set i (.bool x) = bv (st.set i x) := by unfold bv; rw [List.map_set]
/-- a store into a block that is known whole -/
theorem blk_set {W : World} {b : Nat} {C : List Value} {t : TypeId} (h : W.heap[b]? = some (.cells C.toArray t (0, 0))) (i : Nat) (v : Value) : (W.setCell ⟨b, i, none⟩ v).heap[b]? = some (.cells (C.set i v).toArray t (0, 0)) := by
  simp only [World.setCell, Array.getElem?_modify, if_true, h]; simp
theorem blk_cell {W : World} {b : Nat} {C : List Value} {t : TypeId} (h : W.heap[b]? = some (.cells C.toArray t (0, 0))) (i : Nat) : W.cell? ⟨b, i, none⟩ = C[i]? := by
  simp [World.cell?, h]
theorem blk_fr {W : World} {b : Nat} {C : List Value} {t : TypeId} (h : W.heap[b]? = some (.cells C.toArray t (0, 0))) (i : Nat) : W.frozen? ⟨b, i, none⟩ = false := by
  simp [World.frozen?, h]

/-- the masks of wants -/
structure Mk (ws : List (Int × Int)) (ms : List Nat) : Prop where
  len : ms.length = ws.length
  eq : ∀ (i : Nat) y, ws[i]? = some y → ∃ m, ms[i]? = some m ∧ y.2 = (m : Int)

theorem ixP0 (W : World) {g n cap j : Nat} (hj : j < n) : (Instr.indexAt 29 (.slice (some ⟨g, 0, none⟩) n cap) (.int .i64 (j : Int))).run Try.prog W = .ok (.pointer (some ⟨g, j, none⟩)) W := by
  have := ixP W (a := some ⟨g, 0, none⟩) (cap := cap) rfl hj
  rwa [Nat.zero_add] at this

end Go.Proofs.Ytkcppidmbojglag

/- What a plan on its way is asked, and what is done to it. -/
namespace Go.Proofs.Ytkcppidmbojglag
open Go.RowKit

theorem bt_bits (m c : Nat) : (bits .and .i64 ((m : Int) / 2 ^ c) 1 == 1) = PM.bt m c := by
  have h : (m : Int) / 2 ^ c = ((m / 2 ^ c : Nat) : Int) := by rw [Int.natCast_ediv, Int.natCast_pow]; rfl
  rw [h, i64_and1]
  unfold PM.bt
  rw [Bool.eq_iff_iff]
  simp only [beq_iff_eq]
  omega
/-- append of one number, at a step of a region that draws -/
theorem step_appendI {ops : Array Oper} {o : Oper} {a : Act} {W : World} {K : Act → World → Prop} {Q : Exit → Act → World → Prop} {E : Prop} (hgd : o.guard = none) (s x : Operand)
    (ho : o.op = .call { callee := .builtin .append, args := #[s, x], argTypes := #[36, 36] }) (B : Nat) {v : Value} {M : List Int} {y : Int} {b c : Nat} (hs : a.eval s = v) (hR : OI W B v M) (hM : M.length ≤ 1000000)
    (hx : a.eval x = .slice (some ⟨b, 0, none⟩) 1 c) (hy : W.cell? ⟨b, 0, none⟩ = some (.int .i64 y)) (hB : B ≤ W.heap.size)
    (h : ∀ g cap W', OI W' B (.slice (some ⟨g, 0, none⟩) (M.length + 1) cap) (M ++ [y]) → W.grownBy W' v.ownBlock → (v.ownBlock = some g ∨ g = W.heap.size) → K (a.put o.dst (.slice (some ⟨g, 0, none⟩) (M.length + 1) cap)) W') :
    if Region.wanted o (yielded ops a.tmps) = true then Oper.wp Try.prog o a W K Q else E := by
  obtain ⟨i0, hi, hz0, hz1, hz2⟩ := info_parts infoI
  refine step_append_lies W hgd s x 36 ho B 3 i0 _ 1 8 Try.underlying36 hi hz0 hz1 hz2 rfl (by decide) v M.length (ic M) hs hR ⟨b, 0, none⟩ 1 c (ic [y]) hx rfl ?_ (ic_one [y]) (by omega) (by unfold maxLen; omega) (by omega) hB W.heap.size rfl ?_
  · intro j u hj
    cases j with
    | zero =>
      simp [ic] at hj
      subst hj
      rw [Addr.add_mid]; exact hy
    | succ j => simp [ic] at hj
  · intro g cap W' hown hg hat _
    refine h g cap W' ?_ hg hat
    unfold OI
    rw [List.length_append, ic_append]
    exact hown

section
variable {W : World} {B b sb lb : Nat} {vw : Value} {vs : List Value} {G : Nat → Prop} {ws : List (Int × Int)} {st : List Bool} {ls : List (List Int)}
end
end Go.Proofs.Ytkcppidmbojglag

/- A plan on its way: the last want is taken back; whether a list may end; whether nothing is left. -/
namespace Go.Proofs.Ytkcppidmbojglag
open Go.RowKit

section
variable {W : World} {B b sb lb : Nat} {vw : Value} {vs : List Value} {G : Nat → Prop} {ws : List (Int × Int)} {st : List Bool} {ls : List (List Int)}
theorem shr1_any (m c : Nat) (hc : c ≤ 8) (W : World) : (binOp .shr 3 (.int .i64 (m : Int)) (.int .i64 ((c : Int) + 1))).run Try.prog W = .ok (.int .i64 ((m / 2 ^ (c + 1) : Nat) : Int)) W := by
  have := shr_any m (c + 1) (by omega) W
  rwa [Int.natCast_add] at this
theorem div_zero (m c : Nat) : ((m : Int) / 2 ^ (c + 1) == 0) = (m / 2 ^ (c + 1) == 0) := by
  have h : (m : Int) / 2 ^ (c + 1) = ((m / 2 ^ (c + 1) : Nat) : Int) := by rw [Int.natCast_ediv, Int.natCast_pow]; rfl
  rw [h, Bool.eq_iff_iff]
  simp only [beq_iff_eq]
  omega
end
end Go.Proofs.Ytkcppidmbojglag

/- A new plan on its way; whether a plan may be, as the program tells it. -/
namespace Go.Proofs.Ytkcppidmbojglag
open Go.RowKit

theorem made_one (z : Value) (hz : z.cells = #[z]) (n : Nat) : madeCells z.cells n = (List.replicate n z).toArray := by
  apply Array.ext
  · rw [size_madeCells]; simp
  · intro i h1 h2
    simp only [madeCells, hz, List.getElem_toArray, List.getElem_replicate]
    simp [Nat.mod_one]
theorem info_h {t : TypeId} {v : Value} {a b : Nat} (h : (Try.prog.info? t).map (fun i => (i.zero, i.size, i.bytes)) = some (some v, a, b)) : ∃ i, Try.prog.info? t = some i ∧ i.zero = some v ∧ i.size = a ∧ i.bytes = b := by
  obtain ⟨i, h1, h2⟩ := Option.map_eq_some_iff.1 h
  simp only [Prod.mk.injEq] at h2
  exact ⟨i, h1, h2.1, h2.2.1, h2.2.2⟩
theorem infoHB : (Try.prog.info? 4).map (fun i => (i.zero, i.size, i.bytes)) = some (some (.bool false), 1, 1) := by kernel_rfl
theorem infoHL : (Try.prog.info? 36).map (fun i => (i.zero, i.size, i.bytes)) = some (some (.slice none 0 0), 1, 24) := by kernel_rfl
theorem infoHI : (Try.prog.info? 3).map (fun i => (i.zero, i.size, i.bytes)) = some (some (.int .i64 0), 1, 8) := by kernel_rfl
theorem mkL (n : Nat) (hn : n ≤ 1000) (W : World) : (Instr.makeSlice 29 (.int .i64 (n : Int)) (.int .i64 (n : Int))).run Try.prog W = .ok (.slice (some ⟨W.heap.size, 0, none⟩) n n) (W.alloc (.cells (List.replicate n (Value.slice none 0 0)).toArray 36)) := by
  obtain ⟨i, hi, h1, h2, h3⟩ := info_h infoHL
  have := run_make (P := Try.prog) W 29 36 i _ Try.underlying29 hi h1 .i64 .i64 (n : Int) (n : Int) (by omega) (by omega) (by
    have : (i.bytes : Int) * (n : Int) ≤ 24 * 1000 := Int.mul_le_mul (by omega) (by omega) (by omega) (by omega)
    omega) (by omega)
  rw [this, h2, Int.toNat_natCast, made_one _ rfl, Nat.mul_one]
theorem mkI (n : Nat) (hn : n ≤ 1000) (W : World) : (Instr.makeSlice 36 (.int .i64 (n : Int)) (.int .i64 (n : Int))).run Try.prog W = .ok (.slice (some ⟨W.heap.size, 0, none⟩) n n) (W.alloc (.cells (List.replicate n (Value.int .i64 0)).toArray 3)) := by
  obtain ⟨i, hi, h1, h2, h3⟩ := info_h infoHI
  have := run_make (P := Try.prog) W 36 3 i _ Try.underlying36 hi h1 .i64 .i64 (n : Int) (n : Int) (by omega) (by omega) (by
    have : (i.bytes : Int) * (n : Int) ≤ 24 * 1000 := Int.mul_le_mul (by omega) (by omega) (by omega) (by omega)
    omega) (by omega)
  rw [this, h2, Int.toNat_natCast, made_one _ rfl, Nat.mul_one]
theorem bv_rep (n : Nat) : bv (List.replicate n false) = List.replicate n (Value.bool false) := by unfold bv; rw [List.map_replicate]

theorem heap3 (w : World) (o1 o2 o3 : Obj) : (((w.alloc o1).alloc o2).alloc o3).heap[w.heap.size]? = some o1 ∧ (((w.alloc o1).alloc o2).alloc o3).heap[w.heap.size + 1]? = some o2 ∧ (((w.alloc o1).alloc o2).alloc o3).heap[w.heap.size + 1 + 1]? = some o3 := by
  have h1 := World.alloc_heap_new w o1
  have h2 := World.alloc_heap_new (w.alloc o1) o2
  have h3 := World.alloc_heap_new ((w.alloc o1).alloc o2) o3
  rw [World.size_alloc] at h2
  rw [World.size_alloc, World.size_alloc] at h3
  exact ⟨(Below.heap_alloc _ _ _ (by simp; omega)).trans ((Below.heap_alloc _ _ _ (by simp)).trans h1), (Below.heap_alloc _ _ _ (by simp)).trans h2, h3⟩

theorem wok_iff' {fl : Int} {n : Nat} {x : Int × Int} : wok fl n x = true ↔ 0 ≤ x.1 ∧ x.1 < fl ∧ 0 < x.2 ∧ x.2 < 2 ^ n := by unfold wok; simp [and_assoc]
/-- the masks of a right snapshot's wants -/
def msk (s : Sn) : List Nat := s.ws.map fun y => y.2.toNat
/-- what is known of a right snapshot -/
structure Rs (s : Sn) (n : Nat) : Prop where
  ca : s.st.ca = (n : Int)
  n1 : 1 ≤ n
  n8 : n ≤ 8
  cl : s.cs.length = n
  wl : s.ws.length ≤ 128
  mm : Mk s.ws (msk s)
  lt : ∀ m ∈ msk s, m < 2 ^ n
theorem rgt_rs {s : Sn} (h : rgt s = true) : ∃ n, Rs s n := by
  unfold rgt at h
  simp only [Bool.and_eq_true, decide_eq_true_eq] at h
  obtain ⟨⟨⟨⟨h1, h2⟩, h3⟩, h4⟩, h5⟩ := h
  obtain ⟨n, hn8, hn1, hca⟩ := ca_nat ((rightB_iff _).1 h1)
  rw [hca, Int.toNat_natCast, List.all_eq_true] at h5
  have hlt : ∀ y ∈ s.ws, 0 < y.2 ∧ y.2 < 2 ^ n := fun y hy => by
    have := wok_iff'.1 (h5 y hy)
    exact ⟨this.2.2.1, this.2.2.2⟩
  refine ⟨n, hca, hn1, hn8, by omega, h3, ⟨by unfold msk; simp, fun i y hy => ?_⟩, fun m hm => ?_⟩
  · have h6 := hlt y (List.mem_of_getElem? hy)
    exact ⟨y.2.toNat, by unfold msk; rw [List.getElem?_map, hy]; rfl, by omega⟩
  · unfold msk at hm
    obtain ⟨y, hy, rfl⟩ := List.mem_map.1 hm
    have h6 := hlt y hy
    have h7 : ((2 ^ n : Nat) : Int) = 2 ^ n := by rw [Int.natCast_pow]; rfl
    omega

end Go.Proofs.Ytkcppidmbojglag

/- Whether a plan may be, as the program tells it. -/
namespace Go.Proofs.Ytkcppidmbojglag
open Go.RowKit

/-- may a plan of a snapshot be? -/
def fsb (s : Sn) (p : List (List Int)) : Bool := rgt s && decide (p.length = s.cs.length) && PM.feas (msk s) p
theorem RI.base {w W : World} {v : Value} {l : List Int} (h : RI (fun g => g < w.heap.size) W v l) (hb : Below w.heap.size w W) : RI (fun g => g < w.heap.size) w v l := by
  obtain ⟨a, cap, rfl, hc, hn, h⟩ := h
  refine ⟨a, cap, rfl, hc, hn, ?_⟩
  rcases h with h | ⟨g, o, rfl, hd, _, h⟩
  · exact .inl h
  · exact .inr ⟨g, o, rfl, hd, hd, fun i y hy => (hb.cell (p := ⟨g, o + i, none⟩) hd).symm.trans (h i y hy)⟩
/-- what is left of the look: R is the whole's outcome -/
def Lf (R : Option (List Bool)) (ms : List Nat) (k : Nat) (st : List Bool) (l : List Int) (p : List (List Int)) : Prop := R = (PM.run1 ms k st l).bind fun st' => PM.runs ms (k + 1) st' p
theorem Lf.no {R : Option (List Bool)} {ms : List Nat} {k : Nat} {st : List Bool} {x : Int} {l : List Int} {p : List (List Int)} (h : Lf R ms k st (x :: l) p) (hx : ¬ (PM.okx ms k x = true ∧ st[x.toNat]? = some false)) : R = none := by
  unfold Lf at h
  rw [h, PM.run1, if_neg hx]; rfl
theorem Lf.yes {R : Option (List Bool)} {ms : List Nat} {k : Nat} {st : List Bool} {x : Int} {l : List Int} {p : List (List Int)} (h : Lf R ms k st (x :: l) p) (hx : PM.okx ms k x = true ∧ st[x.toNat]? = some false) : Lf R ms k (st.set x.toNat true) l p := by
  unfold Lf at h ⊢
  rw [h, PM.run1, if_pos hx]
theorem drop_cons {α : Type} {l : List α} {k : Nat} {x : α} (h : l[k]? = some x) : l.drop k = x :: l.drop (k + 1) := by
  obtain ⟨hk, rfl⟩ := List.getElem?_eq_some_iff.1 h
  exact List.drop_eq_getElem_cons hk
theorem feas_none {ms : List Nat} {p : List (List Int)} (h : PM.runs ms 0 (List.replicate ms.length false) p = none) : PM.feas ms p = false := by unfold PM.feas; rw [h]; rfl
theorem feas_some {ms : List Nat} {p : List (List Int)} {st : List Bool} (h : PM.runs ms 0 (List.replicate ms.length false) p = some st) : PM.feas ms p = st.all id := by unfold PM.feas; rw [h]; rfl

end Go.Proofs.Ytkcppidmbojglag
