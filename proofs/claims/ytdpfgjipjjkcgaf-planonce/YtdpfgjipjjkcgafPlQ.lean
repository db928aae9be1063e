/- All: what it hands back. -/
import Derived.Test.YtdpfgjipjjkcgafPlP
import Derived.Deep.RegionWith
namespace Go.Proofs.Ytdpfgjipjjkcgaf
open Go.RowKit Go.Shelf

theorem infoW : (Try.prog.info? 40).map (fun i => (i.zero, i.size, i.bytes)) = some (some (.agg #[.int .i64 0, .int .i64 0]), 2, 16) := by kernel_rfl
/-- the cells of pairs -/
def pc (l : List (Int × Int)) : List Value := l.flatMap fun y => [.int .i64 y.1, .int .i64 y.2]
theorem pc_length (l : List (Int × Int)) : (pc l).length = l.length * 2 := by
  induction l with
  | nil => rfl
  | cons y r ih => show ([Value.int .i64 y.1, .int .i64 y.2] ++ pc r).length = _; rw [List.length_append, ih, List.length_cons]; simp; omega
theorem pc_get {l : List (Int × Int)} {i : Nat} {y : Int × Int} (h : l[i]? = some y) : (pc l)[i * 2]? = some (.int .i64 y.1) ∧ (pc l)[i * 2 + 1]? = some (.int .i64 y.2) := by
  induction l generalizing i with
  | nil => simp at h
  | cons z r ih =>
    cases i with
    | zero => simp at h; subst h; exact ⟨rfl, rfl⟩
    | succ i =>
      have := ih (i := i) (by simpa using h)
      show ([Value.int .i64 z.1, .int .i64 z.2] ++ pc r)[(i + 1) * 2]? = _ ∧ ([Value.int .i64 z.1, .int .i64 z.2] ++ pc r)[(i + 1) * 2 + 1]? = _
      rw [List.getElem?_append_right (by simp; omega), List.getElem?_append_right (by simp; omega)]
      simp only [List.length_cons, List.length_nil]
      rw [show (i + 1) * 2 - (0 + 1 + 1) = i * 2 by omega, show (i + 1) * 2 + 1 - (0 + 1 + 1) = i * 2 + 1 by omega]
      exact this
theorem pc_inv {l : List (Int × Int)} {j : Nat} {u : Value} (h : (pc l)[j]? = some u) : ∃ i y, l[i]? = some y ∧ ((j = i * 2 ∧ u = .int .i64 y.1) ∨ (j = i * 2 + 1 ∧ u = .int .i64 y.2)) := by
  have hj : j < l.length * 2 := by have := (List.getElem?_eq_some_iff.1 h).1; rwa [pc_length] at this
  have hi : j / 2 < l.length := by omega
  have hg := pc_get (List.getElem?_eq_getElem hi)
  refine ⟨j / 2, l[j / 2], List.getElem?_eq_getElem hi, ?_⟩
  by_cases e : j % 2 = 0
  · left
    have : j / 2 * 2 = j := by omega
    rw [this, h] at hg
    exact ⟨this.symm, Option.some.inj hg.1⟩
  · right
    have : j / 2 * 2 + 1 = j := by omega
    rw [this, h] at hg
    exact ⟨this.symm, Option.some.inj hg.2⟩
theorem pc_one (l : List (Int × Int)) : ∀ u ∈ pc l, u.oneCell' = true := by
  intro u hu
  obtain ⟨y, _, hy⟩ := List.mem_flatMap.1 hu
  simp at hy
  rcases hy with rfl | rfl <;> rfl
theorem own_r2 {W : World} {B : Nat} {v : Value} {l : List (Int × Int)} (h : W.ownsRow B 40 2 v l.length (pc l)) : R2 (fun g => B ≤ g) W v l := by
  rcases h.2 with ⟨h1, h2⟩ | ⟨g, cap, cur, hv, hb, hg, hc, hm, _⟩
  · obtain rfl : l = [] := List.length_eq_zero_iff.1 h2
    exact ⟨none, 0, h1, Nat.le_refl _, fun _ => rfl, .inl rfl⟩
  · subst hv
    refine ⟨_, cap, rfl, hc, (fun e => by cases e), .inr ⟨g, 0, rfl, hb, (Array.getElem?_eq_some_iff.1 hg).1, fun i y hy => ?_⟩⟩
    have h3 := pc_get hy
    have c1 := World.ownsRow.cells h (g := g) rfl _ _ h3.1
    have c2 := World.ownsRow.cells h (g := g) rfl _ _ h3.2
    rw [Addr.add_mid, Nat.zero_add] at c1 c2
    exact ⟨by rw [Nat.zero_add]; exact c1, by rw [Nat.zero_add]; exact c2⟩

set_option maxHeartbeats 1000000 in
theorem cloneW_any (D : Nat → Prop) (v : Value) (l : List (Int × Int)) (w : World) (h : R2 D w v l) (hl : l.length ≤ 1000) :
    Calls Try.prog 17 #[v] w fun e w' => ∃ v', e = .returned v' ∧ R2 (fun g => w.heap.size ≤ g) w' v' l ∧ Below w.heap.size w w' := by
  have q30 : ∀ (w : World) (a : Option Addr) (n c n' c' : Nat), (binOp .eql 25 (.slice a n c) (.slice none n' c')).run Try.prog w = .ok (.bool a.isNone) w := fun w a n c n' c' => Lib.run_eql_slice_nil w _ _ a n c n' c' Try.underlying25
  have HR := Hid.intro' h
  obtain ⟨a, cap, rfl, hc, hnil⟩ := h.form
  cases a with
  | none =>
    obtain rfl : cap = 0 := hnil rfl
    obtain rfl : l = [] := List.length_eq_zero_iff.1 (by omega)
    clear h
    go_enter Try.func17, Try.ntmps17
    go_wp2
    go_ret
    exact ⟨_, rfl, ⟨none, 0, rfl, Nat.le_refl _, fun _ => rfl, .inl rfl⟩, Below.refl _ _⟩
  | some ad =>
    clear h
    obtain ⟨i0, hi, hz0, hz1, hz2⟩ := info_parts infoW
    have HI : Hid (Try.prog.info? 40 = some i0 ∧ i0.zero = some (.agg #[.int .i64 0, .int .i64 0]) ∧ i0.size = 2 ∧ i0.bytes = 16) := ⟨hi, hz0, hz1, hz2⟩
    clear hi hz0 hz1 hz2
    go_enter Try.func17, Try.ntmps17
    go_wp2_with (at_builtin; refine wpList_append_own _ rfl _ _ 25 rfl w.heap.size 40 i0 _ 2 16 Try.underlying25 HI.out.1 HI.out.2.1 HI.out.2.2.1 HI.out.2.2.2 rfl (by decide) _ 0 [] rfl ?qc1 ad l.length cap (pc l) rfl ?qc2 ?qc3 (pc_one l) ?qc4 ?qc5 ?qc6 ?_)
    case qc1 => exact World.ownsRow_lit (e := 40) (size := 2) w #[] 0 (Nat.le_refl _) (by unfold maxLen; omega) (by simp)
    case qc2 => rw [pc_length]
    case qc3 =>
      intro j u hj
      obtain ⟨i, y, hy, h⟩ := pc_inv hj
      obtain ⟨g, o, e, h1, h2⟩ := (HR.out.alloc (.cells #[] 40)).at hy
      cases e
      rw [Addr.add_mid]
      rcases h with ⟨rfl, rfl⟩ | ⟨rfl, rfl⟩
      · exact h1
      · rw [← Nat.add_assoc]; exact h2
    case qc4 => unfold maxLen; omega
    case qc5 => omega
    case qc6 => simp
    intro v2 W2 ho2 hg2 _
    have hb2 : Below w.heap.size w W2 := ((Below.refl w.heap.size w).alloc (Nat.le_refl _) (.cells #[] 40)).grown hg2 (by simp) (fun k hk => by simp [Value.ownBlock] at hk; omega)
    have HO : Hid (R2 (fun g => w.heap.size ≤ g) W2 v2 l) := own_r2 (by simpa using ho2)
    have HB := Hid.intro' hb2
    clear ho2 hg2 hb2
    go_wp2
    go_ret
    exact ⟨v2, rfl, HO.out, HB.out⟩

/-- All's sequence of a snapshot that isn't right -/
theorem all1_seq (G : Nat → Prop) (w : World) : SeqF Try.prog 16 #[] (EA w.heap.size) (fun _ => False) G (fun xs => xs = []) (fun _ => False) w := by
  intro nn l J Jx W hW hJ _ hY h0
  show CallsIn Fence.wide nn Try.prog 16 #[.func (.yield l) #[] #[]] W _
  refine callsIn_of_wp Try.func16 rfl trivial ?_ rfl
  simp only [Try.ntmps16, List.size_toArray, List.length_cons, List.length_nil, Nat.reduceAdd, Nat.reduceSub, Array.replicate_succ, Array.replicate_zero, List.push_toArray, List.append_toArray, List.nil_append, List.cons_append]
  clear hY
  gi_wp2
  go_end0
  exact ⟨⟨_, rfl⟩, .inl ⟨[], _, rfl, h0⟩⟩

end Go.Proofs.Ytdpfgjipjjkcgaf
