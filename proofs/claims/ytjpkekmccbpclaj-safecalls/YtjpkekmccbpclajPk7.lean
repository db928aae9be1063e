/- Several texts in one, each with its own head. -/
import Derived.Test.YtjpkekmccbpclajPlE
import Derived.Test.YtjpkekmccbpclajPk6
import Derived.Test.YtjpkekmccbpclajPk5
import Derived.Deep.DeepCutAuto
import Derived.Deep.CutBlock
/- A plan on its way: the last want is taken back; whether a list may end; whether nothing is left. -/
namespace Go.Proofs.Ytjpkekmccbpclaj
open Go.RowKit

section
variable {W : World} {B b sb lb : Nat} {vw : Value} {vs : List Value} {G : Nat → Prop} {ws : List (Int × Int)} {st : List Bool} {ls : List (List Int)}
theorem shr1_any (m c : Nat) (hc : c ≤ 8) (W : World) : (binOp .shr 3 (.int .i64 (m : Int)) (.int .i64 ((c : Int) + 1))).run Try.prog W = .ok (.int .i64 ((m / 2 ^ (c + 1) : Nat) : Int)) W := by
  have := shr_any m (c + 1) (by omega) W
  rwa [Int.natCast_add] at this
theorem div_zero (m c : Nat) : ((m : Int) / 2 ^ (c + 1) == 0) = (m / 2 ^ (c + 1) == 0) := by
  have h : (m : Int) / 2 ^ (c + 1) = ((m / 2 ^ (c + 1) : Nat) : Int) := by rw [Int.natCast_ediv, Int.natCast_pow]; rfl
  rw [h, Bool.eq_iff_iff]
  simp only [beq_iff_eq]
  omega
end
end Go.Proofs.Ytjpkekmccbpclaj

/- A new plan on its way; whether a plan may be, as the program tells it. -/
namespace Go.Proofs.Ytjpkekmccbpclaj
open Go.RowKit

theorem made_one (z : Value) (hz : z.cells = #[z]) (n : Nat) : madeCells z.cells n = (List.replicate n z).toArray := by
  apply Array.ext
  · rw [size_madeCells]; simp
  · intro i h1 h2
    simp only [madeCells, hz, List.getElem_toArray, List.getElem_replicate]
    simp [Nat.mod_one]
theorem info_h {t : TypeId} {v : Value} {a b : Nat} (h : (Try.prog.info? t).map (fun i => (i.zero, i.size, i.bytes)) = some (some v, a, b)) : ∃ i, Try.prog.info? t = some i ∧ i.zero = some v ∧ i.size = a ∧ i.bytes = b := by
  obtain ⟨i, h1, h2⟩ := Option.map_eq_some_iff.1 h
  simp only [Prod.mk.injEq] at h2
  exact ⟨i, h1, h2.1, h2.2.1, h2.2.2⟩
theorem infoHB : (Try.prog.info? 4).map (fun i => (i.zero, i.size, i.bytes)) = some (some (.bool false), 1, 1) := by kernel_rfl
theorem infoHL : (Try.prog.info? 28).map (fun i => (i.zero, i.size, i.bytes)) = some (some (.slice none 0 0), 1, 24) := by kernel_rfl
theorem infoHI : (Try.prog.info? 3).map (fun i => (i.zero, i.size, i.bytes)) = some (some (.int .i64 0), 1, 8) := by kernel_rfl
theorem mkI (n : Nat) (hn : n ≤ 1000) (W : World) : (Instr.makeSlice 28 (.int .i64 (n : Int)) (.int .i64 (n : Int))).run Try.prog W = .ok (.slice (some ⟨W.heap.size, 0, none⟩) n n) (W.alloc (.cells (List.replicate n (Value.int .i64 0)).toArray 3)) := by
  obtain ⟨i, hi, h1, h2, h3⟩ := info_h infoHI
  have := run_make (P := Try.prog) W 28 3 i _ Try.underlying28 hi h1 .i64 .i64 (n : Int) (n : Int) (by omega) (by omega) (by
    have : (i.bytes : Int) * (n : Int) ≤ 24 * 1000 := Int.mul_le_mul (by omega) (by omega) (by omega) (by omega)
    omega) (by omega)
  rw [this, h2, Int.toNat_natCast, made_one _ rfl, Nat.mul_one]
theorem bv_rep (n : Nat) : bv (List.replicate n false) = List.replicate n (Value.bool false) := by unfold bv; rw [List.map_replicate]

theorem heap3 (w : World) (o1 o2 o3 : Obj) : (((w.alloc o1).alloc o2).alloc o3).heap[w.heap.size]? = some o1 ∧ (((w.alloc o1).alloc o2).alloc o3).heap[w.heap.size + 1]? = some o2 ∧ (((w.alloc o1).alloc o2).alloc o3).heap[w.heap.size + 1 + 1]? = some o3 := by
  have h1 := World.alloc_heap_new w o1
  have h2 := World.alloc_heap_new (w.alloc o1) o2
  have h3 := World.alloc_heap_new ((w.alloc o1).alloc o2) o3
  rw [World.size_alloc] at h2
  rw [World.size_alloc, World.size_alloc] at h3
  exact ⟨(Below.heap_alloc _ _ _ (by simp; omega)).trans ((Below.heap_alloc _ _ _ (by simp)).trans h1), (Below.heap_alloc _ _ _ (by simp)).trans h2, h3⟩

theorem wok_iff' {fl : Int} {n : Nat} {x : Int × Int} : wok fl n x = true ↔ 0 ≤ x.1 ∧ x.1 < fl ∧ 0 < x.2 ∧ x.2 < 2 ^ n := by unfold wok; simp [and_assoc]
/-- the masks of a right snapshot's wants -/
def msk (s : Sn) : List Nat := s.ws.map fun y => y.2.toNat
/-- what is known of a right snapshot -/
structure Rs (s : Sn) (n : Nat) : Prop where
  ca : s.st.ca = (n : Int)
  n1 : 1 ≤ n
  n8 : n ≤ 8
  cl : s.cs.length = n
  wl : s.ws.length ≤ 128
  mm : Mk s.ws (msk s)
  lt : ∀ m ∈ msk s, m < 2 ^ n
theorem rgt_rs {s : Sn} (h : rgt s = true) : ∃ n, Rs s n := by
  unfold rgt at h
  simp only [Bool.and_eq_true, decide_eq_true_eq] at h
  obtain ⟨⟨⟨⟨h1, h2⟩, h3⟩, h4⟩, h5⟩ := h
  obtain ⟨n, hn8, hn1, hca⟩ := ca_nat ((rightB_iff _).1 h1)
  rw [hca, Int.toNat_natCast, List.all_eq_true] at h5
  have hlt : ∀ y ∈ s.ws, 0 < y.2 ∧ y.2 < 2 ^ n := fun y hy => by
    have := wok_iff'.1 (h5 y hy)
    exact ⟨this.2.2.1, this.2.2.2⟩
  refine ⟨n, hca, hn1, hn8, by omega, h3, ⟨by unfold msk; simp, fun i y hy => ?_⟩, fun m hm => ?_⟩
  · have h6 := hlt y (List.mem_of_getElem? hy)
    exact ⟨y.2.toNat, by unfold msk; rw [List.getElem?_map, hy]; rfl, by omega⟩
  · unfold msk at hm
    obtain ⟨y, hy, rfl⟩ := List.mem_map.1 hm
    have h6 := hlt y hy
    have h7 : ((2 ^ n : Nat) : Int) = 2 ^ n := by rw [Int.natCast_pow]; rfl
    omega

end Go.Proofs.Ytjpkekmccbpclaj

/- Whether a plan may be, as the program tells it. -/
namespace Go.Proofs.Ytjpkekmccbpclaj
open Go.RowKit

/-- may a plan of a snapshot be? -/
def fsb (s : Sn) (p : List (List Int)) : Bool := rgt s && decide (p.length = s.cs.length) && PM.feas (msk s) p
theorem RI.base {w W : World} {v : Value} {l : List Int} (h : RI (fun g => g < w.heap.size) W v l) (hb : Below w.heap.size w W) : RI (fun g => g < w.heap.size) w v l := by
  obtain ⟨a, cap, rfl, hc, hn, h⟩ := h
  refine ⟨a, cap, rfl, hc, hn, ?_⟩
  rcases h with h | ⟨g, o, rfl, hd, _, h⟩
  · exact .inl h
  · exact .inr ⟨g, o, rfl, hd, hd, fun i y hy => (hb.cell (p := ⟨g, o + i, none⟩) hd).symm.trans (h i y hy)⟩
/-- what is left of the look: R is the whole's outcome -/
def Lf (R : Option (List Bool)) (ms : List Nat) (k : Nat) (st : List Bool) (l : List Int) (p : List (List Int)) : Prop := R = (PM.run1 ms k st l).bind fun st' => PM.runs ms (k + 1) st' p
theorem Lf.no {R : Option (List Bool)} {ms : List Nat} {k : Nat} {st : List Bool} {x : Int} {l : List Int} {p : List (List Int)} (h : Lf R ms k st (x :: l) p) (hx : ¬ (PM.okx ms k x = true ∧ st[x.toNat]? = some false)) : R = none := by
  unfold Lf at h
  rw [h, PM.run1, if_neg hx]; rfl
theorem Lf.yes {R : Option (List Bool)} {ms : List Nat} {k : Nat} {st : List Bool} {x : Int} {l : List Int} {p : List (List Int)} (h : Lf R ms k st (x :: l) p) (hx : PM.okx ms k x = true ∧ st[x.toNat]? = some false) : Lf R ms k (st.set x.toNat true) l p := by
  unfold Lf at h ⊢
  rw [h, PM.run1, if_pos hx]
theorem drop_cons {α : Type} {l : List α} {k : Nat} {x : α} (h : l[k]? = some x) : l.drop k = x :: l.drop (k + 1) := by
  obtain ⟨hk, rfl⟩ := List.getElem?_eq_some_iff.1 h
  exact List.drop_eq_getElem_cons hk
theorem feas_none {ms : List Nat} {p : List (List Int)} (h : PM.runs ms 0 (List.replicate ms.length false) p = none) : PM.feas ms p = false := by unfold PM.feas; rw [h]; rfl
theorem feas_some {ms : List Nat} {p : List (List Int)} {st : List Bool} (h : PM.runs ms 0 (List.replicate ms.length false) p = some st) : PM.feas ms p = st.all id := by unfold PM.feas; rw [h]; rfl

end Go.Proofs.Ytjpkekmccbpclaj

/- A plan with a want taken out, put in twice, put elsewhere; with a list turned round. No program is named here. -/
namespace Go.Proofs.Ytjpkekmccbpclaj.PM

/-- without w -/
def fw (w : Int) (l : List Int) : List Int := l.filter (fun x => decide (x ≠ w))
/-- w is put behind once for each time that it stands -/
def tw (w : Int) (l : List Int) : List Int := l ++ List.replicate (l.count w) w
theorem fw_snoc (w x : Int) (l : List Int) : fw w (l ++ [x]) = if x = w then fw w l else fw w l ++ [x] := by
  unfold fw
  rw [List.filter_append]
  by_cases h : x = w
  · simp [h]
  · simp [h]
theorem count_flat_set {x : Int} : ∀ {p : List (List Int)} {c : Nat} {l l' : List Int}, p[c]? = some l → (p.set c l').flatten.count x + l.count x = p.flatten.count x + l'.count x
  | [], _, _, _, h => by simp at h
  | a :: p, 0, l, l', h => by
    simp at h
    subst h
    simp only [List.set_cons_zero, List.flatten_cons, List.count_append]
    omega
  | a :: p, c + 1, l, l', h => by
    have := count_flat_set (x := x) (p := p) (c := c) (l := l) (l' := l') (by simpa using h)
    simp only [List.set_cons_succ, List.flatten_cons, List.count_append]
    omega
theorem count_fw (w x : Int) : ∀ (p : List (List Int)), (p.map (fw w)).flatten.count x = if x = w then 0 else p.flatten.count x
  | [] => by simp
  | l :: p => by
    rw [List.map_cons, List.flatten_cons, List.count_append, count_fw w x p, List.flatten_cons, List.count_append]
    have h : (fw w l).count x = if x = w then 0 else l.count x := by
      unfold fw
      by_cases e : x = w
      · subst e
        rw [if_pos rfl, List.count_eq_zero]
        intro hm
        simp at hm
      · rw [if_neg e, List.count_filter (by simp [e])]
    rw [h]
    split <;> omega
theorem count_tw (w : Int) : ∀ (p : List (List Int)), (p.map (tw w)).flatten.count w = 2 * p.flatten.count w
  | [] => by simp
  | l :: p => by
    rw [List.map_cons, List.flatten_cons, List.count_append, count_tw w p, List.flatten_cons, List.count_append]
    have h : (tw w l).count w = 2 * l.count w := by
      unfold tw
      rw [List.count_append, List.count_replicate_self]
      omega
    omega
theorem out_not {ms : List Nat} {p : List (List Int)} {w : Nat} (hw : w < ms.length) : ¬ Fz ms (p.map (fw (w : Int))) := fun h => by
  have := h.once w hw
  rw [count_fw, if_pos rfl] at this
  omega
theorem twice_not {ms : List Nat} {p : List (List Int)} {w : Nat} (hw : w < ms.length) (hp : Fz ms p) : ¬ Fz ms (p.map (tw (w : Int))) := fun h => by
  have := h.once w hw
  rw [count_tw, hp.once w hw] at this
  omega
theorem odd_iff {ms : List Nat} {p : List (List Int)} {w c : Nat} {l : List Int} (hw : w < ms.length) (hp : Fz ms p) (hc : p[c]? = some l) : Fz ms ((p.map (fw (w : Int))).set c (fw (w : Int) l ++ [(w : Int)])) ↔ bt (ms[w]?.getD 0) c = true := by
  have hcl := (List.getElem?_eq_some_iff.1 hc).1
  have hm : (p.map (fw (w : Int)))[c]? = some (fw (w : Int) l) := by rw [List.getElem?_map, hc]; rfl
  constructor
  · intro h
    have := h.ok c (fw (w : Int) l ++ [(w : Int)]) (by rw [List.getElem?_set_self (by simpa using hcl)]) (w : Int) (by simp)
    have h2 := (okx_iff.1 this).2.2
    rwa [Int.toNat_natCast] at h2
  · intro hb
    refine ⟨fun d k hd x hx => ?_, fun v hv => ?_⟩
    · by_cases e : c = d
      · subst e
        rw [List.getElem?_set_self (by simpa using hcl)] at hd
        cases hd
        rcases List.mem_append.1 hx with hx | hx
        · exact hp.ok c l hc x ((List.mem_filter.1 hx).1)
        · simp at hx
          subst hx
          exact okx_iff.2 ⟨by omega, by omega, by rw [Int.toNat_natCast]; exact hb⟩
      · rw [List.getElem?_set_ne e, List.getElem?_map] at hd
        cases hq : p[d]? with
        | none => rw [hq] at hd; simp at hd
        | some q =>
          rw [hq] at hd
          simp at hd
          subst hd
          exact hp.ok d q hq x ((List.mem_filter.1 hx).1)
    · have h1 := count_flat_set (x := (v : Int)) (l' := fw (w : Int) l ++ [(w : Int)]) hm
      rw [count_fw, List.count_append] at h1
      have h2 := hp.once v hv
      by_cases e : (v : Int) = (w : Int)
      · rw [if_pos e] at h1
        have h3 : [(w : Int)].count (v : Int) = 1 := by rw [e]; simp
        omega
      · rw [if_neg e] at h1
        have h3 : [(w : Int)].count (v : Int) = 0 := by rw [List.count_eq_zero]; simp; exact fun h => e (by omega)
        omega
theorem turned_fz {ms : List Nat} {p : List (List Int)} {c : Nat} {l l' : List Int} (hp : Fz ms p) (hc : p[c]? = some l) (hl : l'.Perm l) : Fz ms (p.set c l') := by
  have hcl := (List.getElem?_eq_some_iff.1 hc).1
  refine ⟨fun d k hd x hx => ?_, fun v hv => ?_⟩
  · by_cases e : c = d
    · subst e
      rw [List.getElem?_set_self hcl] at hd
      cases hd
      exact hp.ok c l hc x (hl.mem_iff.1 hx)
    · rw [List.getElem?_set_ne e] at hd
      exact hp.ok d k hd x hx
  · have h1 := count_flat_set (x := (v : Int)) (l' := l') hc
    have h2 := hp.once v hv
    rw [hl.count_eq] at h1
    omega
/-- who holds it -/
theorem home_lt {ms : List Nat} {p : List (List Int)} {w : Nat} (hw : w < ms.length) (hp : Fz ms p) : 0 < p.length := by
  cases p with
  | nil => have := hp.once w hw; simp at this
  | cons a p => simp

end Go.Proofs.Ytjpkekmccbpclaj.PM

/- Rows that grow, in blocks of their own: numbers, and lists of numbers. -/
namespace Go.Proofs.Ytjpkekmccbpclaj
open Go.RowKit Go.Shelf

/-- a row of slices that is owned -/
def OP (W : World) (B : Nat) (v : Value) (us : List Value) : Prop := W.ownsRow B 28 1 v us.length us
section
variable {W W' : World} {B : Nat} {v : Value} {us : List Value}
theorem OP.lt (h : OP W B v us) : ∀ g, v.ownBlock = some g → B ≤ g ∧ g < W.heap.size := World.ownsRow.lt h
theorem OP.keep (h : OP W B v us) (hk : ∀ g, v.ownBlock = some g → W'.heap[g]? = W.heap[g]?) : OP W' B v us := by
  refine ⟨h.1, ?_⟩
  rcases h.2 with h1 | ⟨g, cap, cur, hv, hb, hg, hc⟩
  · exact .inl h1
  · exact .inr ⟨g, cap, cur, hv, hb, (hk g (by rw [hv]; rfl)).trans hg, hc⟩
theorem OP.below' (h : OP W B v us) (hb : Below W.heap.size W W') : OP W' B v us := h.keep fun g hg => hb.block g (h.lt g hg).2
theorem OP.cell {g cap n : Nat} (h : OP W B (.slice (some ⟨g, 0, none⟩) n cap) us) {i : Nat} {u : Value} (hi : us[i]? = some u) : W.cell? ⟨g, i, none⟩ = some u := by
  have := World.ownsRow.cells h (g := g) rfl i u hi
  rwa [Addr.add_mid, Nat.zero_add] at this
/-- an owned row of lists that are read is a plan -/
theorem OP.rl {D : Nat → Prop} {g cap : Nat} {p : List (List Int)} (h : OP W B (.slice (some ⟨g, 0, none⟩) us.length cap) us) (hD : D g) (hlen : us.length = p.length) (hr : ∀ (i : Nat) u l, us[i]? = some u → p[i]? = some l → RI D W u l) : RL D W (.slice (some ⟨g, 0, none⟩) us.length cap) p := by
  have hlt := (h.lt g rfl).2
  have hcap : us.length ≤ cap := by
    rcases h.2 with ⟨h1, _⟩ | ⟨g', cap', cur, hv, _, _, hc, _⟩
    · cases h1
    · cases hv; exact hc
  refine ⟨_, cap, by rw [hlen], by omega, (fun e => by cases e), ?_⟩
  by_cases hp : p = []
  · exact .inl hp
  · refine .inr ⟨g, 0, rfl, hD, hlt, fun i l hl => ?_⟩
    have hi : i < us.length := by rw [hlen]; exact (List.getElem?_eq_some_iff.1 hl).1
    refine ⟨us[i], ?_, hr i _ l (List.getElem?_eq_getElem hi) hl⟩
    rw [Nat.zero_add]
    exact h.cell (List.getElem?_eq_getElem hi)
end
theorem infoP : (Try.prog.info? 28).map (fun i => (i.zero, i.size, i.bytes)) = some (some (.slice none 0 0), 1, 24) := by kernel_rfl
/-- a number is put behind a row of numbers -/
theorem wpList_appI {ops : Array Oper} {rest : List Oper} {o : Oper} {a : Act} {w : World} {Q : Exit → Act → World → Prop} (hgd : o.guard = none) (s x : Operand)
    (ho : o.op = .call { callee := .builtin .append, args := #[s, x], argTypes := #[28, 28] })
    (B : Nat) (v : Value) (l : List Int) (hs : a.eval s = v) (hown : OI w B v l) (g c : Nat) (y : Int) (hx : a.eval x = .slice (some ⟨g, 0, none⟩) 1 c) (hc : w.cell? ⟨g, 0, none⟩ = some (.int .i64 y))
    (h63 : l.length ≤ 1000000) (hB : B ≤ w.heap.size)
    (h : ∀ g' cap w', OI w' B (.slice (some ⟨g', 0, none⟩) (l.length + 1) cap) (l ++ [y]) → w.grownBy w' v.ownBlock → (v.ownBlock = some g' ∨ g' = w.heap.size) → g' < w'.heap.size → wpList Try.prog ops Q rest (a.put o.dst (.slice (some ⟨g', 0, none⟩) (l.length + 1) cap)) w') : wpList Try.prog ops Q (o :: rest) a w := by
  obtain ⟨i0, hi, hz0, hz1, hz2⟩ := info_parts infoI
  refine wpList_append_lies w hgd s x 28 ho B 3 i0 _ 1 8 Try.underlying28 hi hz0 hz1 hz2 rfl (by decide) v l.length (ic l) hs hown ⟨g, 0, none⟩ 1 c (ic [y]) hx rfl ?_ (ic_one [y]) (by omega) (by unfold maxLen; omega) (by omega) hB w.heap.size rfl ?_
  · intro j u hj
    cases j with
    | zero =>
      simp [ic] at hj
      subst hj
      rw [Addr.add_mid]; exact hc
    | succ j => simp [ic] at hj
  · intro g' cap w' h1 h2 h3 h4
    refine h g' cap w' ?_ h2 h3 h4
    unfold OI
    rw [List.length_append, ic_append]
    exact h1

theorem list_of' {α : Type} {P : Nat → α → Prop} : ∀ (n : Nat), (∀ i, i < n → ∃ z, P i z) → ∃ l : List α, l.length = n ∧ ∀ (i : Nat) z, l[i]? = some z → P i z
  | 0, _ => ⟨[], rfl, by simp⟩
  | n + 1, h => by
    obtain ⟨l, h1, h2⟩ := list_of' n (fun i hi => h i (by omega))
    obtain ⟨z, hz⟩ := h n (by omega)
    refine ⟨l ++ [z], by simp [h1], fun i x hx => ?_⟩
    by_cases hi : i < l.length
    · rw [List.getElem?_append_left hi] at hx; exact h2 i x hx
    · rw [List.getElem?_append_right (by omega)] at hx
      have hi0 : i - l.length = 0 := by
        have := (List.getElem?_eq_some_iff.1 hx).1
        simp at this
        omega
      rw [hi0] at hx
      simp at hx
      subst hx
      have : i = n := by omega
      subst this
      exact hz
section
variable {W W' : World} {B : Nat} {v : Value} {us : List Value}
theorem OP.nil (W : World) (hB : B ≤ W.heap.size) : OP (W.alloc (.cells #[] 28)) B (.slice (some ⟨W.heap.size, 0, none⟩) 0 0) [] :=
  World.ownsRow_lit (e := 28) (size := 1) W #[] 0 hB (by unfold maxLen; omega) (by simp)
theorem OP.len {a : Option Addr} {n cap : Nat} (h : OP W B (.slice a n cap) us) : n = us.length := by
  rcases h.2 with ⟨h1, h2⟩ | ⟨g, c, cur, h1, _⟩
  · cases h1; omega
  · cases h1; rfl
theorem OP.fr {g cap n : Nat} (h : OP W B (.slice (some ⟨g, 0, none⟩) n cap) us) (j : Nat) : W.frozen? ⟨g, j, none⟩ = false := by
  have hn := h.len
  subst hn
  exact World.ownsRow.frozenAt h j
/-- a list is written -/
theorem OP.put {g cap n : Nat} (h : OP W B (.slice (some ⟨g, 0, none⟩) n cap) us) (i : Nat) (u : Value) : OP (W.setCell ⟨g, i, none⟩ u) B (.slice (some ⟨g, 0, none⟩) n cap) (us.set i u) := by
  have hn := h.len
  subst hn
  have := (World.ownsRow.stored h i u).1
  unfold OP
  rw [List.length_set]
  exact this
theorem OP.mono {B' : Nat} (h : OP W B v us) (hB : B' ≤ B) : OP W B' v us := by
  refine ⟨h.1, ?_⟩
  rcases h.2 with h1 | ⟨g, cap, cur, hv, hb, hg⟩
  · exact .inl h1
  · exact .inr ⟨g, cap, cur, hv, by omega, hg⟩
end
/-- the slices of a plan that is read -/
theorem RL.slices {D : Nat → Prop} {W : World} {a : Option Addr} {n cap : Nat} {p : List (List Int)} (h : RL D W (.slice a n cap) p) : ∃ us : List Value, us.length = p.length ∧ (∀ u ∈ us, u.oneCell' = true) ∧ (∀ (i : Nat) u l, us[i]? = some u → p[i]? = some l → RI D W u l) ∧ ∀ ad, a = some ad → ∀ (j : Nat) u, us[j]? = some u → W.cell? (ad.add j) = some u := by
  obtain ⟨us, h1, h2⟩ := list_of' (P := fun i u => ∀ l, p[i]? = some l → RI D W u l ∧ ∀ ad, a = some ad → W.cell? (ad.add i) = some u) p.length (fun i hi => by
    have hl : p[i]? = some p[i] := List.getElem?_eq_getElem hi
    obtain ⟨g, o, rfl, u, hu, hr⟩ := h.at hl
    refine ⟨u, fun l hl' => ?_⟩
    rw [hl] at hl'
    cases hl'
    exact ⟨hr, fun ad e => by cases e; rw [Addr.add_mid]; exact hu⟩)
  have key : ∀ (i : Nat) u, us[i]? = some u → ∃ l, p[i]? = some l ∧ RI D W u l ∧ ∀ ad, a = some ad → W.cell? (ad.add i) = some u := fun i u hu => by
    have hi : i < p.length := by rw [← h1]; exact (List.getElem?_eq_some_iff.1 hu).1
    exact ⟨p[i], List.getElem?_eq_getElem hi, h2 i u hu _ (List.getElem?_eq_getElem hi)⟩
  refine ⟨us, h1, fun u hu => ?_, fun i u l hu hl => (h2 i u hu l hl).1, fun ad e j u hu => ?_⟩
  · obtain ⟨i, hi⟩ := List.getElem?_of_mem hu
    obtain ⟨l, _, hr, _⟩ := key i u hi
    obtain ⟨a', c', rfl, _, _⟩ := hr.form
    rfl
  · obtain ⟨l, _, _, hc⟩ := key j u hu
    exact hc ad e
end Go.Proofs.Ytjpkekmccbpclaj

/- What is wrong with a tick, as the document tells it. -/
namespace Go.Proofs.Ytjpkekmccbpclaj
open Go.RowKit Go.Shelf

/-- the faults that are found so far, in memory -/
def HB5 (W : World) (b : Nat) (f1 f2 f3 f4 : Bool) : Prop := W.heap[b]? = some (.cells #[.bool false, .bool f1, .bool f2, .bool f3, .bool f4] 52 (0, 0))
/-- a look at a tick, on its way -/
structure Ti (s : St) (W wr : World) (f1 f2 f3 f4 : Bool) : Prop where
  sb : SB wr W.heap.size s
  hb : HB5 wr (W.heap.size + 1) f1 f2 f3 f4
  be : Below W.heap.size W wr
section
variable {s : St} {W wr w' : World} {f1 f2 f3 f4 : Bool}
theorem Ti.lt (h : Ti s W wr f1 f2 f3 f4) : W.heap.size + 1 < wr.heap.size := (Array.getElem?_eq_some_iff.1 h.hb).1
theorem Ti.next (h : Ti s W wr f1 f2 f3 f4) (hb : Below wr.heap.size wr w') : Ti s W w' f1 f2 f3 f4 := ⟨h.sb.below' hb, (hb.block _ h.lt).trans h.hb, below_class h.be hb⟩
theorem Ti.set (h : Ti s W wr f1 f2 f3 f4) (i : Nat) {g1 g2 g3 g4 : Bool} (he : (#[Value.bool false, .bool f1, .bool f2, .bool f3, .bool f4] : Array Value).setIfInBounds i (.bool true) = #[.bool false, .bool g1, .bool g2, .bool g3, .bool g4]) : Ti s W (wr.setCell ⟨W.heap.size + 1, i, none⟩ (.bool true)) g1 g2 g3 g4 :=
  ⟨(Below.heap_setCell wr ⟨W.heap.size + 1, i, none⟩ _ W.heap.size (by simp)).trans h.sb, by have := heap_setCell_same wr _ i _ _ (.bool true) h.hb; rw [he] at this; exact this, h.be.setCell (by simp) _⟩
theorem Ti.same (h : Ti s W wr f1 f2 f3 f4) (i : Nat) {x : Bool} (he : (#[Value.bool false, .bool f1, .bool f2, .bool f3, .bool f4] : Array Value).setIfInBounds i (.bool x) = #[.bool false, .bool f1, .bool f2, .bool f3, .bool f4]) : Ti s W (wr.setCell ⟨W.heap.size + 1, i, none⟩ (.bool x)) f1 f2 f3 f4 :=
  ⟨(Below.heap_setCell wr ⟨W.heap.size + 1, i, none⟩ _ W.heap.size (by simp)).trans h.sb, by have := heap_setCell_same wr _ i _ _ (.bool x) h.hb; rw [he] at this; exact this, h.be.setCell (by simp) _⟩
theorem Ti.cell (h : Ti s W wr f1 f2 f3 f4) (i : Nat) : wr.cell? ⟨W.heap.size + 1, i, none⟩ = (#[Value.bool false, .bool f1, .bool f2, .bool f3, .bool f4] : Array Value)[i]? := by simp [World.cell?, show wr.heap[_]? = _ from h.hb]
theorem Ti.fr (h : Ti s W wr f1 f2 f3 f4) (i : Nat) : wr.frozen? ⟨W.heap.size + 1, i, none⟩ = false := by simp [World.frozen?, show wr.heap[_]? = _ from h.hb]
theorem Ti.grown (h : Ti s W wr f1 f2 f3 f4) {o : Option Nat} (hg : wr.grownBy w' o) (ho : ∀ g, o = some g → W.heap.size + 2 ≤ g) : Ti s W w' f1 f2 f3 f4 :=
  have hlt := h.lt
  have key : ∀ k, k < W.heap.size + 2 → w'.heap[k]? = wr.heap[k]? := fun k hk => hg.block k (by omega) (fun e => by have := ho k e.symm; omega)
  ⟨(key _ (by omega)).trans h.sb, (key _ (by omega)).trans h.hb, h.be.trans ⟨hg.os, hg.tape, hg.output, by have := hg.size; have := h.be.size; omega, fun k hk => key k (by omega)⟩⟩
end

set_option maxRecDepth 100000 in
set_option maxHeartbeats 8000000 in
theorem rtick_any (D : Nat → Prop) (s : St) (va vb vd vt : Value) (a b : List Cr) (wd wt : List Ca) (r : Bool) (W : World) (ha : RK D W va a) (hb : RK D W vb b) (hd : RC D W vd wd) (ht : RC D W vt wt) (la : a.length ≤ 20) (_lb : b.length ≤ 20) (ld : wd.length ≤ 150) (lt : wt.length ≤ 150) :
    Calls Try.prog 9 #[.agg (sv s).toArray, va, vb, vd, vt, .bool r] W fun e w' => ∃ v, e = .returned v ∧ OI w' W.heap.size v (SF.tk s a b wd wt r) ∧ Below W.heap.size W w' := by
  obtain ⟨aa, ka, rfl, -⟩ := ha.form
  obtain ⟨ab, kb, rfl, -⟩ := hb.form
  obtain ⟨ad, kd, rfl, -⟩ := hd.form
  obtain ⟨at', kt, rfl, -⟩ := ht.form
  have HA := Hid.intro' ha
  have HBB := Hid.intro' hb
  have HD := Hid.intro' hd
  have HTT := Hid.intro' ht
  have hb0 := ((Below.refl W.heap.size W).alloc (Nat.le_refl _) (.cells (sv s).toArray 23)).alloc (by simp) (.cells #[.bool false, .bool false, .bool false, .bool false, .bool false] 52)
  have HT0 : Hid (Ti s W ((W.alloc (.cells (sv s).toArray 23)).alloc (.cells #[.bool false, .bool false, .bool false, .bool false, .bool false] 52)) false false false false) := ⟨(SB.new W s).below' ((Below.refl _ _).alloc (Nat.le_refl _) _), by have := World.alloc_heap_new (W.alloc (.cells (sv s).toArray 23)) (.cells #[.bool false, .bool false, .bool false, .bool false, .bool false] 52); simpa [HB5] using this, hb0⟩
  clear ha hb hd ht hb0
  obtain ⟨out, HO⟩ : ∃ x, Hid (SF.tk s a b wd wt r = x) := ⟨_, Hid.intro' rfl⟩
  rw [HO.out]
  obtain ⟨na, hna⟩ : ∃ n, a.length = n := ⟨_, rfl⟩
  obtain ⟨nb, hnb⟩ : ∃ n, b.length = n := ⟨_, rfl⟩
  obtain ⟨nd, hnd⟩ : ∃ n, wd.length = n := ⟨_, rfl⟩
  obtain ⟨nt, hnt⟩ : ∃ n, wt.length = n := ⟨_, rfl⟩
  have HNA := Hid.intro' hna
  have HNB := Hid.intro' hnb
  have HND := Hid.intro' hnd
  have HNT := Hid.intro' hnt
  rw [hna] at HA la ⊢
  rw [hnb] at HBB ⊢
  rw [hnd] at HD ld ⊢
  rw [hnt] at HTT lt ⊢
  clear hna hnb hnd hnt
  go_enter Try.func9, Try.ntmps9
  go_upto_region 2 with (fail)
  generalize (W.alloc (.cells (sv s).toArray 23)).alloc (.cells #[.bool false, .bool false, .bool false, .bool false, .bool false] 52) = V at HT0 ⊢
  go_cut [] (fun W2 => ∃ f1 : Bool, Hid (f1 = (decide (na ≠ nb) || (decide ((nb : Int) ≠ s.ca) || decide (s.ca < 1)))) ∧ Hid (Ti s W W2 f1 false false false))
  case first =>
    have m1 : V.cell? ⟨W.heap.size, 1, none⟩ = some (.int .i64 s.ca) := HT0.out.sb.cell 1
    have d1 : V.cell? ⟨W.heap.size + 1, 1, none⟩ = some (.bool false) := HT0.out.cell 1
    have e1 := HT0.out.fr 1
    have HST := Hid.intro' (HT0.out.set 1 rfl)
    by_cases q1 : (na : Int) = (nb : Int)
    · by_cases q2 : (nb : Int) = s.ca
      · by_cases q3 : s.ca < 1
        · have HE : Hid (true = (decide (na ≠ nb) || (decide ((nb : Int) ≠ s.ca) || decide (s.ca < 1)))) := by show _ = _; simp [q3]
          go_wp2
          go_meet
          case rel => exact ⟨true, HE, HST⟩
        · have HE : Hid (false = (decide (na ≠ nb) || (decide ((nb : Int) ≠ s.ca) || decide (s.ca < 1)))) := by show _ = _; simp [q3, q2]; omega
          have HSF : Hid (Ti s W (V.setCell ⟨W.heap.size + 1, 1, none⟩ (.bool false)) false false false false) := HT0.out.same 1 rfl
          go_wp2
          go_meet
          case rel => exact ⟨false, HE, HSF⟩
      · have HE : Hid (true = (decide (na ≠ nb) || (decide ((nb : Int) ≠ s.ca) || decide (s.ca < 1)))) := by show _ = _; simp [q2]
        go_wp2
        go_meet
        case rel => exact ⟨true, HE, HST⟩
    · have HE : Hid (true = (decide (na ≠ nb) || (decide ((nb : Int) ≠ s.ca) || decide (s.ca < 1)))) := by show _ = _; simp; omega
      go_wp2
      go_meet
      case rel => exact ⟨true, HE, HST⟩
  case rest =>
    obtain ⟨f0, HF0, HT1⟩ := hcut
    clear HT0
    go_upto_block 0 with fail
    go_cut [] (fun W2 => ∃ f1 f3 : Bool, Hid (f1 = SF.h1 s a b) ∧ Hid (f3 = SF.aw r a b (min a.length b.length)) ∧ Hid (Ti s W W2 f1 false f3 false))
    case first =>
      go_wp2_with fail
      go_loopw [14] (fun iv wr => ∃ (n : Nat) (f1 f3 : Bool), n ≤ na ∧ n ≤ nb ∧ iv = .int .i64 (n : Int) ∧ Hid (f1 = (f0 || SF.lp s a b n)) ∧ Hid (f3 = SF.aw r a b n) ∧ Hid (Ti s W wr f1 false f3 false)) (fun iv _ => na - (intOf iv).toNat)
      case atStart => exact ⟨0, f0, false, Nat.zero_le _, Nat.zero_le _, rfl, by show _ = _; simp [SF.lp], rfl, HT1⟩
      case round =>
        clear HT1
        obtain ⟨n, f1, f3, hn1, hn2, rfl, HF1, HF3, HT⟩ := hrel
        by_cases hlt : n < na ∧ n < nb
        · obtain ⟨h1, h2⟩ := hlt
          have h1z : (n : Int) < (na : Int) := by omega
          have h2z : (n : Int) < (nb : Int) := by omega
          obtain ⟨x, hx⟩ : ∃ x, a[n]? = some x := ⟨_, List.getElem?_eq_getElem (by have := HNA.out; omega)⟩
          obtain ⟨y, hy⟩ : ∃ y, b[n]? = some y := ⟨_, List.getElem?_eq_getElem (by have := HNB.out; omega)⟩
          obtain ⟨ga, oa, e, hga, hra⟩ := (HA.out.below' HT.out.be).at hx
          subst e
          obtain ⟨gb, ob, e, hgb, hrb⟩ := (HBB.out.below' HT.out.be).at hy
          subst e
          have hixa : ∀ W : World, (Instr.indexAt 24 (.slice (some ⟨ga, oa, none⟩) na ka) (.int .i64 (n : Int))).run Try.prog W = .ok (.pointer (some ⟨ga, oa + n * 8, none⟩)) W := fun W => ixK W h1
          have hixb : ∀ W : World, (Instr.indexAt 24 (.slice (some ⟨gb, ob, none⟩) nb kb) (.int .i64 (n : Int))).run Try.prog W = .ok (.pointer (some ⟨gb, ob + n * 8, none⟩)) W := fun W => ixK W h2
          have HX := Hid.intro' hx
          have HY := Hid.intro' hy
          have HRA : Hid (∀ w', Below wr.heap.size wr w' → w'.rangeAt ga (oa + n * 8) (ckv x)) := fun w' hw => rng_below hra hga hw
          have HRB : Hid (∀ w', Below wr.heap.size wr w' → w'.rangeAt gb (ob + n * 8) (ckv y)) := fun w' hw => rng_below hrb hgb hw
          have HGA : Hid (ga < wr.heap.size ∧ gb < wr.heap.size) := ⟨hga, hgb⟩
          clear hx hy hra hrb hga hgb h1 h2
          go_upto_region 6 with (fail)
          obtain ⟨q, hq⟩ : ∃ q, sfB s x y = q := ⟨_, rfl⟩
          have HQ := Hid.intro' hq
          have HSB : Hid (∀ w', Below wr.heap.size wr w' → SB w' W.heap.size s) := fun w' hw => HT.out.sb.below' hw
          have HCL : Hid (∀ w', Calls Try.prog 18 #[.agg (sv s).toArray, .agg #[.int .i64 x.fl, .int .i64 x.tg, .int .i64 x.ti, .int .i64 x.d.ph, .int .i64 x.d.le, .int .i64 x.d.ru, .bool x.d.he, .bool x.fa], .agg #[.int .i64 y.fl, .int .i64 y.tg, .int .i64 y.ti, .int .i64 y.d.ph, .int .i64 y.d.le, .int .i64 y.d.ru, .bool y.d.he, .bool y.fa]] w' fun e w'' => e = .returned (.bool q) ∧ Below w'.heap.size w' w'') := fun w' => by
            have h := rcsafe_any s x y w'
            rwa [hq] at h
          clear hq
          refine wp_region_quiet (C := fun w' => Below wr.heap.size wr w') (by kernel_rfl) (by kernel_rfl) ((Below.refl _ _).drew) ?_
          simp only []
          unfold wpQuiet
          generalize hK : wpQuiet Try.prog _ _ _ _ = K
          rw [if_pos (by go_simp)]
          refine quiet_load23 _ _ s rfl rfl HSB.out ?_
          go_simp
          subst hK
          unfold wpQuiet
          generalize hK : wpQuiet Try.prog _ _ _ _ = K
          go_simp
          refine ⟨_, fun _ _ => rfl, ?_⟩
          subst hK
          unfold wpQuiet
          generalize hK : wpQuiet Try.prog _ _ _ _ = K
          go_simp
          refine ⟨_, fun _ _ => rfl, ?_⟩
          subst hK
          unfold wpQuiet
          generalize hK : wpQuiet Try.prog _ _ _ _ = K
          go_simp
          refine ⟨_, fun _ _ => rfl, ?_⟩
          subst hK
          unfold wpQuiet
          generalize hK : wpQuiet Try.prog _ _ _ _ = K
          rw [if_pos (by go_simp)]
          refine quiet_loadK _ _ _ rfl rfl HRA.out ?_
          go_simp
          subst hK
          unfold wpQuiet
          generalize hK : wpQuiet Try.prog _ _ _ _ = K
          go_simp
          refine ⟨_, fun _ _ => rfl, ?_⟩
          subst hK
          unfold wpQuiet
          generalize hK : wpQuiet Try.prog _ _ _ _ = K
          go_simp
          refine ⟨_, fun _ _ => rfl, ?_⟩
          subst hK
          unfold wpQuiet
          generalize hK : wpQuiet Try.prog _ _ _ _ = K
          go_simp
          refine ⟨_, fun _ _ => rfl, ?_⟩
          subst hK
          unfold wpQuiet
          generalize hK : wpQuiet Try.prog _ _ _ _ = K
          rw [if_pos (by go_simp)]
          refine quiet_loadK _ _ _ rfl rfl HRB.out ?_
          go_simp
          subst hK
          unfold wpQuiet
          generalize hK : wpQuiet Try.prog _ _ _ _ = K
          go_simp
          refine ⟨_, fun w' hw => (HCL.out w').mono fun e w'' hh => ⟨hh.1, below_class hw hh.2⟩, ?_⟩
          subst hK
          unfold wpQuiet
          generalize hK : wpQuiet Try.prog _ _ _ _ = K
          go_simp
          refine ⟨_, fun _ _ => rfl, ?_⟩
          subst hK
          refine wpQuiet_nil ?_
          intro W7 hb7
          have HT7 := Hid.intro' (HT.out.next hb7)
          have HA7 := Hid.intro' (HRA.out W7 hb7)
          have HB7 := Hid.intro' (HRB.out W7 hb7)
          have hg := HGA.out
          have HG7 : Hid (ga < W7.heap.size ∧ gb < W7.heap.size) := ⟨Nat.lt_of_lt_of_le hg.1 hb7.size, Nat.lt_of_lt_of_le hg.2 hb7.size⟩
          clear hb7 HRA HRB HSB HCL HT HGA hg
          go_upto_if 66 with (fail)
          go_cut [] (fun W2 => ∃ g1 : Bool, Hid (g1 = (f1 || !q)) ∧ Hid (Ti s W W2 g1 false f3 false))
          case first =>
            cases q
            · have d1 : W7.cell? ⟨W.heap.size + 1, 1, none⟩ = some (.bool f1) := HT7.out.cell 1
              have e1 := HT7.out.fr 1
              have HT8 := Hid.intro' (HT7.out.set 1 (g1 := true) rfl)
              go_wp2
              go_meet
              case rel => exact ⟨true, by show _ = _; simp, HT8⟩
            · go_wp2
              go_meet
              case rel => exact ⟨f1, by show _ = _; simp, HT7⟩
          case rest =>
            obtain ⟨g1, HG1, HT2⟩ := hcut
            obtain ⟨_, _, e, _, hra⟩ := (HA.out.below' HT2.out.be).at HX.out
            cases e
            obtain ⟨_, _, e, _, hrb⟩ := (HBB.out.below' HT2.out.be).at HY.out
            cases e
            have HNX : Hid (SF.lp s a b (n + 1) = (SF.lp s a b n || !q)) := by
              show (SF.lp s a b n || _) = _
              rw [HX.out, HY.out, ← HQ.out]
            have HNW : Hid (SF.aw r a b (n + 1) = (SF.aw r a b n || SF.aw1 r x y)) := by
              show (SF.aw r a b n || _) = _
              rw [HX.out, HY.out]
            have HG2 : Hid (g1 = (f0 || SF.lp s a b (n + 1))) := by show _ = _; rw [HG1.out, HF1.out, HNX.out, Bool.or_assoc]
            clear HNX HG1 HF1 HQ HT7 HA7 HB7 HG7
            obtain ⟨p, HP⟩ : ∃ p, Hid (SF.aw1 r x y = p) := ⟨_, Hid.intro' rfl⟩
            go_upto_region 8 with (fail)
            go_cut [92] (fun s92 W' => s92 = .bool p ∧ W' = wc)
            case first =>
              have x2 : wc.cell? ⟨ga, oa + n * 8 + 2, none⟩ = some (.int .i64 x.ti) := hra 2 _ rfl
              have y1 : wc.cell? ⟨gb, ob + n * 8 + 1, none⟩ = some (.int .i64 y.tg) := hrb 1 _ rfl
              have y2 : wc.cell? ⟨gb, ob + n * 8 + 2, none⟩ = some (.int .i64 y.ti) := hrb 2 _ rfl
              clear HNW HF3 HG2 HT2 HX HY HA HBB HD HTT HO
              cases r
              · have e : p = false := by rw [← HP.out]; rfl
                subst e
                go_wp2
                go_meet
                case rel => exact ⟨rfl, rfl⟩
              · by_cases q1 : y.ti = 0
                · have e : p = false := by rw [← HP.out]; unfold SF.aw1; simp [q1]
                  subst e
                  have d : (y.ti != 0) = false := by simp [q1]
                  clear q1 HP
                  go_wp2
                  go_meet
                  case rel => exact ⟨rfl, rfl⟩
                · have d : (y.ti != 0) = true := by simp [q1]
                  by_cases q2 : x.ti = 0
                  · have d2 : (x.ti == 0) = true := by simp [q2]
                    by_cases q3 : y.tg = 0
                    · have e : p = false := by rw [← HP.out]; unfold SF.aw1; simp [q3]
                      subst e
                      have d3 : (y.tg != 0) = false := by simp [q3]
                      clear q1 q2 q3 HP
                      go_wp2
                      go_meet
                      case rel => exact ⟨rfl, rfl⟩
                    · have e : p = true := by rw [← HP.out]; unfold SF.aw1; simp [q1, q2, q3]
                      subst e
                      have d3 : (y.tg != 0) = true := by simp [q3]
                      clear q1 q2 q3 HP
                      go_wp2
                      go_meet
                      case rel => exact ⟨rfl, rfl⟩
                  · have e : p = false := by rw [← HP.out]; unfold SF.aw1; simp [q2]
                    subst e
                    have d2 : (x.ti == 0) = false := by simp [q2]
                    clear q1 q2 HP
                    go_wp2
                    go_meet
                    case rel => exact ⟨rfl, rfl⟩
            case rest =>
              obtain ⟨rfl, hwc⟩ := hcut
              subst hwc
              have HF4 : Hid ((f3 || p) = SF.aw r a b (n + 1)) := by show _ = _; rw [HNW.out, HF3.out, HP.out]
              cases p
              · rw [Bool.or_false] at HF4
                go_wp2
                go_roundw
                case rel => exact ⟨n + 1, g1, f3, by omega, by omega, by go_num, HG2, HF4, HT2⟩
                case measure => simp [intOf]; omega
              · rw [Bool.or_true] at HF4
                have d1 : wc.cell? ⟨W.heap.size + 1, 3, none⟩ = some (.bool f3) := HT2.out.cell 3
                have e1 := HT2.out.fr 3
                have HT8 := Hid.intro' (HT2.out.set 3 (g3 := true) rfl)
                go_wp2
                go_roundw
                case rel => exact ⟨n + 1, g1, true, by omega, by omega, by go_num, HG2, HF4, HT8⟩
                case measure => simp [intOf]; omega
        · have HMN : Hid (n = min a.length b.length) := by have h1 := HNA.out; have h2 := HNB.out; show _ = _; omega
          have HE1 : Hid (f1 = SF.h1 s a b) := by show _ = _; unfold SF.h1; rw [HF1.out, HF0.out, ← HMN.out, HNA.out, HNB.out]
          have HE3 : Hid (f3 = SF.aw r a b (min a.length b.length)) := by show _ = _; rw [HF3.out, ← HMN.out]
          by_cases h1 : n < na
          · have h1z : (n : Int) < (na : Int) := by omega
            have h2z : ¬ ((n : Int) < (nb : Int)) := by omega
            clear hlt HF1 HF3 HMN
            go_wp2
            go_meet
            case rel => exact ⟨f1, f3, HE1, HE3, HT⟩
          · have h1z : ¬ ((n : Int) < (na : Int)) := by omega
            clear hlt HF1 HF3 HMN
            go_wp2
            go_meet
            case rel => exact ⟨f1, f3, HE1, HE3, HT⟩
    case rest =>
      obtain ⟨f1, f3, HF1, HF3, HT⟩ := hcut
      clear HT1 HF0
      go_upto_block 2 with fail
      go_cut [] (fun W2 => ∃ f2 : Bool, Hid (f2 = SF.vn a wd wt wd.length) ∧ Hid (Ti s W W2 f1 f2 f3 false))
      case first =>
        go_wp2_with fail
        go_loopw [15] (fun iv wr => ∃ (i : Nat) (f2 : Bool), i ≤ nd ∧ iv = .int .i64 (i : Int) ∧ Hid (f2 = SF.vn a wd wt i) ∧ Hid (Ti s W wr f1 f2 f3 false)) (fun iv _ => nd - (intOf iv).toNat)
        case atStart => exact ⟨0, false, Nat.zero_le _, rfl, rfl, HT⟩
        case round =>
          clear HT
          obtain ⟨i, f2, hi, rfl, HF2, HT⟩ := hrel
          by_cases hlt : i < nd
          · have hiz : (i : Int) < (nd : Int) := by omega
            obtain ⟨c, hc⟩ : ∃ c, wd[i]? = some c := ⟨_, List.getElem?_eq_getElem (by have := HND.out; omega)⟩
            obtain ⟨gd, od, e, hgd, hrd⟩ := (HD.out.below' HT.out.be).rng hc
            subst e
            have hixd : ∀ W : World, (Instr.indexAt 25 (.slice (some ⟨gd, od, none⟩) nd kd) (.int .i64 (i : Int))).run Try.prog W = .ok (.pointer (some ⟨gd, od + i * 4, none⟩)) W := fun W => ixCa W hlt
            have HCI := Hid.intro' hc
            have HRD := Hid.intro' hrd
            have hal := (Below.refl wr.heap.size wr).alloc (Nat.le_refl _) (.cells #[.int .i64 c.fl, .int .i64 c.ca, .int .i64 c.ag, .bool c.up] 43)
            have HTA := Hid.intro' (HT.out.next hal)
            have HKA := Hid.intro' (KB.new wr c)
            have HL := Hid.intro' (rlast_any D (.slice at' nt kt) wt c (wr.alloc (.cells #[.int .i64 c.fl, .int .i64 c.ca, .int .i64 c.ag, .bool c.up] 43)) (HTT.out.below' HTA.out.be) (by have := HNT.out; omega))
            have HNX : Hid (SF.vn a wd wt (i + 1) = (SF.vn a wd wt i || !SF.sd a wt c)) := by
              show (SF.vn a wd wt i || _) = _
              rw [HCI.out]
            clear hc hrd hgd hal
            go_wp2_with (first | (refine wpList_loadCl rfl _ rfl _ _ rfl HRD.out ?_))
            generalize wr.alloc (.cells #[.int .i64 c.fl, .int .i64 c.ca, .int .i64 c.ag, .bool c.up] 43) = V1 at HTA HKA HL ⊢
            generalize wr.heap.size = cb at HKA ⊢
            refine HL.out.mono ?_
            rintro e W2 ⟨rfl, hb2⟩
            have HT2 := Hid.intro' (HTA.out.next hb2)
            have HK2 := Hid.intro' (HKA.out.below' hb2)
            obtain ⟨k, hk⟩ : ∃ k, SF.la wt c wt.length = k := ⟨_, rfl⟩
            obtain ⟨z, hz⟩ : ∃ z, decide (0 ≤ k) = z := ⟨_, rfl⟩
            have HSD : Hid (SF.sd a wt c = (z || SF.op c a a.length)) := by show (decide (0 ≤ SF.la wt c wt.length) || _) = _; rw [hk, hz]
            rw [hk]
            clear hb2 hk HL HTA HKA HT HRD hixd
            go_wp2_with fail
            rename World => W0
            go_loopw [17, 18] (fun sv nv wr => ∃ (m : Nat) (q : Bool), m ≤ na ∧ sv = .bool q ∧ nv = .int .i64 (m : Int) ∧ Hid (q = (z || SF.op c a m)) ∧ Hid (Ti s W wr f1 f2 f3 false) ∧ Hid (KB wr cb c)) (fun _ nv _ => na - (intOf nv).toNat)
            case atStart => exact ⟨0, z, Nat.zero_le _, by first | rfl | (rw [hz]) | (simp [hz]), rfl, by show _ = _; simp [SF.op], HT2, HK2⟩
            case round =>
              clear HT2 HK2 hz
              obtain ⟨m, q, hm, rfl, rfl, HQ, HT, HK⟩ := hrel
              by_cases hml : m < na
              · have hmz : (m : Int) < (na : Int) := by omega
                obtain ⟨x, hx⟩ : ∃ x, a[m]? = some x := ⟨_, List.getElem?_eq_getElem (by have := HNA.out; omega)⟩
                obtain ⟨ga, oa, e, hga, hra⟩ := (HA.out.below' HT.out.be).at hx
                subst e
                have hixa : ∀ W : World, (Instr.indexAt 24 (.slice (some ⟨ga, oa, none⟩) na ka) (.int .i64 (m : Int))).run Try.prog W = .ok (.pointer (some ⟨ga, oa + m * 8, none⟩)) W := fun W => ixK W hml
                have HRA := Hid.intro' hra
                have HOP : Hid (SF.op c a (m + 1) = (SF.op c a m || SF.op1 c m x)) := by
                  show (SF.op c a m || _) = _
                  rw [hx]
                have hal := (Below.refl wr.heap.size wr).alloc (Nat.le_refl _) (.cells #[.int .i64 x.fl, .int .i64 x.tg, .int .i64 x.ti, .int .i64 x.d.ph, .int .i64 x.d.le, .int .i64 x.d.ru, .bool x.d.he, .bool x.fa] 36)
                have HT3 := Hid.intro' (HT.out.next hal)
                have HK3 := Hid.intro' (HK.out.below' hal)
                have HX3 := Hid.intro' (CB.new wr x)
                clear hx hra hga hal HT HK
                go_upto_region 19 with (refine wpList_loadK rfl _ rfl _ _ rfl HRA.out ?_)
                generalize wr.alloc (.cells #[.int .i64 x.fl, .int .i64 x.tg, .int .i64 x.ti, .int .i64 x.d.ph, .int .i64 x.d.le, .int .i64 x.d.ru, .bool x.d.he, .bool x.fa] 36) = V2 at HT3 HK3 HX3 ⊢
                generalize wr.heap.size = xb at HX3 ⊢
                have k0 : V2.cell? ⟨cb, 0, none⟩ = some (.int .i64 c.fl) := HK3.out.c0
                have k1 : V2.cell? ⟨cb, 1, none⟩ = some (.int .i64 c.ca) := HK3.out.c1
                have x0 := HX3.out.c0
                have x2 := HX3.out.c2
                have x3 := HX3.out.c3
                clear HRA hixa HX3
                cases q
                · by_cases q1 : c.ca = -1
                  · have d1 : (c.ca == -1) = true := by simp [q1]
                    by_cases q2 : x.ti = 0
                    · have d2 : (x.ti == 0) = true := by simp [q2]
                      by_cases q3 : x.fl = c.fl
                      · have d3 : (x.fl == c.fl) = true := by simp [q3]
                        by_cases q4 : x.d.ph = 2
                        · have d4 : (x.d.ph == 2) = true := by simp [q4]
                          have HQ2 : Hid (true = (z || SF.op c a (m + 1))) := by show _ = _; rw [HOP.out, ← Bool.or_assoc, ← HQ.out]; unfold SF.op1; simp [q1, q2, q3, q4]
                          clear HQ HOP q1 q2 q3 q4
                          go_wp2
                          go_roundw
                          case rel => exact ⟨m + 1, true, by omega, rfl, by go_num, HQ2, HT3, HK3⟩
                          case measure => simp [intOf]; omega
                        · have d4 : (x.d.ph == 2) = false := by simp [q4]
                          have HQ2 : Hid (false = (z || SF.op c a (m + 1))) := by show _ = _; rw [HOP.out, ← Bool.or_assoc, ← HQ.out]; unfold SF.op1; simp [q4]
                          clear HQ HOP q2 q3 q4 q1
                          go_wp2
                          go_roundw
                          case rel => exact ⟨m + 1, false, by omega, rfl, by go_num, HQ2, HT3, HK3⟩
                          case measure => simp [intOf]; omega
                      · have d3 : (x.fl == c.fl) = false := by simp [q3]
                        have HQ2 : Hid (false = (z || SF.op c a (m + 1))) := by show _ = _; rw [HOP.out, ← Bool.or_assoc, ← HQ.out]; unfold SF.op1; simp [q3]
                        clear HQ HOP q2 q3 q1
                        go_wp2
                        go_roundw
                        case rel => exact ⟨m + 1, false, by omega, rfl, by go_num, HQ2, HT3, HK3⟩
                        case measure => simp [intOf]; omega
                    · have d2 : (x.ti == 0) = false := by simp [q2]
                      have HQ2 : Hid (false = (z || SF.op c a (m + 1))) := by show _ = _; rw [HOP.out, ← Bool.or_assoc, ← HQ.out]; unfold SF.op1; simp [q2]
                      clear HQ HOP q2 q1
                      go_wp2
                      go_roundw
                      case rel => exact ⟨m + 1, false, by omega, rfl, by go_num, HQ2, HT3, HK3⟩
                      case measure => simp [intOf]; omega
                  · have d1 : (c.ca == -1) = false := by simp [q1]
                    by_cases q5 : c.ca = (m : Int)
                    · have d5 : (c.ca == (m : Int)) = true := by simp [q5]
                      by_cases q2 : x.ti = 0
                      · have d2 : (x.ti == 0) = true := by simp [q2]
                        by_cases q3 : x.fl = c.fl
                        · have d3 : (x.fl == c.fl) = true := by simp [q3]
                          by_cases q4 : x.d.ph = 2
                          · have d4 : (x.d.ph == 2) = true := by simp [q4]
                            have HQ2 : Hid (true = (z || SF.op c a (m + 1))) := by show _ = _; rw [HOP.out, ← Bool.or_assoc, ← HQ.out]; unfold SF.op1; simp [q5, q2, q3, q4]
                            clear HQ HOP q1 q5 q2 q3 q4
                            go_wp2
                            go_roundw
                            case rel => exact ⟨m + 1, true, by omega, rfl, by go_num, HQ2, HT3, HK3⟩
                            case measure => simp [intOf]; omega
                          · have d4 : (x.d.ph == 2) = false := by simp [q4]
                            have HQ2 : Hid (false = (z || SF.op c a (m + 1))) := by show _ = _; rw [HOP.out, ← Bool.or_assoc, ← HQ.out]; unfold SF.op1; simp [q4]
                            clear HQ HOP q2 q3 q4 q1 q5
                            go_wp2
                            go_roundw
                            case rel => exact ⟨m + 1, false, by omega, rfl, by go_num, HQ2, HT3, HK3⟩
                            case measure => simp [intOf]; omega
                        · have d3 : (x.fl == c.fl) = false := by simp [q3]
                          have HQ2 : Hid (false = (z || SF.op c a (m + 1))) := by show _ = _; rw [HOP.out, ← Bool.or_assoc, ← HQ.out]; unfold SF.op1; simp [q3]
                          clear HQ HOP q2 q3 q1 q5
                          go_wp2
                          go_roundw
                          case rel => exact ⟨m + 1, false, by omega, rfl, by go_num, HQ2, HT3, HK3⟩
                          case measure => simp [intOf]; omega
                      · have d2 : (x.ti == 0) = false := by simp [q2]
                        have HQ2 : Hid (false = (z || SF.op c a (m + 1))) := by show _ = _; rw [HOP.out, ← Bool.or_assoc, ← HQ.out]; unfold SF.op1; simp [q2]
                        clear HQ HOP q2 q1 q5
                        go_wp2
                        go_roundw
                        case rel => exact ⟨m + 1, false, by omega, rfl, by go_num, HQ2, HT3, HK3⟩
                        case measure => simp [intOf]; omega
                    · have d5 : (c.ca == (m : Int)) = false := by simp [q5]
                      have HQ2 : Hid (false = (z || SF.op c a (m + 1))) := by show _ = _; rw [HOP.out, ← Bool.or_assoc, ← HQ.out]; unfold SF.op1; simp [q1, q5]
                      clear HQ HOP q1 q5
                      go_wp2
                      go_roundw
                      case rel => exact ⟨m + 1, false, by omega, rfl, by go_num, HQ2, HT3, HK3⟩
                      case measure => simp [intOf]; omega
                · have HQ2 : Hid (true = (z || SF.op c a (m + 1))) := by show _ = _; rw [HOP.out, ← Bool.or_assoc, ← HQ.out]; rfl
                  clear HQ HOP
                  go_wp2
                  go_roundw
                  case rel => exact ⟨m + 1, true, by omega, rfl, by go_num, HQ2, HT3, HK3⟩
                  case measure => simp [intOf]; omega
              · have hmz : ¬ ((m : Int) < (na : Int)) := by omega
                have HMA : Hid (m = a.length) := by have := HNA.out; show _ = _; omega
                have HSD2 : Hid (SF.vn a wd wt (i + 1) = (f2 || !q)) := by show _ = _; rw [HNX.out, HSD.out, HF2.out, HQ.out, HMA.out]
                clear HNX HSD HMA HQ HF2
                cases q
                · rw [Bool.not_false, Bool.or_true] at HSD2
                  have d1 : wr.cell? ⟨W.heap.size + 1, 2, none⟩ = some (.bool f2) := HT.out.cell 2
                  have e1 := HT.out.fr 2
                  have HT8 := Hid.intro' (HT.out.set 2 (g2 := true) rfl)
                  go_wp2
                  go_roundw
                  case rel => exact ⟨i + 1, true, by omega, by go_num, HSD2.out.symm, HT8⟩
                  case measure => simp [intOf]; omega
                · rw [Bool.not_true, Bool.or_false] at HSD2
                  go_wp2
                  go_roundw
                  case rel => exact ⟨i + 1, f2, by omega, by go_num, HSD2.out.symm, HT⟩
                  case measure => simp [intOf]; omega
          · have hiz : ¬ ((i : Int) < (nd : Int)) := by omega
            have HE : Hid (f2 = SF.vn a wd wt wd.length) := by show _ = _; rw [HF2.out, HND.out, show i = nd by omega]
            go_wp2
            go_meet
            case rel => exact ⟨f2, HE, HT⟩
      case rest =>
        obtain ⟨f2, HF2, HT2⟩ := hcut
        clear HT HA HBB la
        go_upto_block 6 with fail
        go_cut [] (fun W2 => ∃ f4 : Bool, Hid (f4 = SF.yg wd wt wt.length) ∧ Hid (Ti s W W2 f1 f2 f3 f4))
        case first =>
          go_wp2_with fail
          go_loopw [20] (fun iv wr => ∃ (i : Nat) (f4 : Bool), i ≤ nt ∧ iv = .int .i64 (i : Int) ∧ Hid (f4 = SF.yg wd wt i) ∧ Hid (Ti s W wr f1 f2 f3 f4)) (fun iv _ => nt - (intOf iv).toNat)
          case atStart => exact ⟨0, false, Nat.zero_le _, rfl, rfl, HT2⟩
          case round =>
            clear HT2
            obtain ⟨i, f4, hi, rfl, HF4, HT⟩ := hrel
            by_cases hlt : i < nt
            · have hiz : (i : Int) < (nt : Int) := by omega
              obtain ⟨c, hc⟩ : ∃ c, wt[i]? = some c := ⟨_, List.getElem?_eq_getElem (by have := HNT.out; omega)⟩
              obtain ⟨gt, ot, e, hgt, hrt⟩ := (HTT.out.below' HT.out.be).rng hc
              subst e
              have hixt : ∀ W : World, (Instr.indexAt 25 (.slice (some ⟨gt, ot, none⟩) nt kt) (.int .i64 (i : Int))).run Try.prog W = .ok (.pointer (some ⟨gt, ot + i * 4, none⟩)) W := fun W => ixCa W hlt
              have HCI := Hid.intro' hc
              have HRT := Hid.intro' hrt
              have HL := Hid.intro' (rlast_any D (.slice (some ⟨gt, ot, none⟩) nt kt) wt c wr (HTT.out.below' HT.out.be) (by have := HNT.out; omega))
              obtain ⟨k1, hk1⟩ : ∃ k, SF.la wt c wt.length = k := ⟨_, rfl⟩
              obtain ⟨k2, hk2⟩ : ∃ k, SF.la wd c wd.length = k := ⟨_, rfl⟩
              have HKB := Hid.intro' (SF.la_bd wd c wd.length)
              have HK2 := Hid.intro' hk2
              have HNX : Hid (SF.yg wd wt (i + 1) = (SF.yg wd wt i || (decide (k1 ≠ i) || decide (c.ag ≠ SF.ag1 wd k2)))) := by
                show (SF.yg wd wt i || _) = _
                rw [HCI.out]
                show (_ || SF.yg1 wd wt i c) = _
                unfold SF.yg1
                rw [hk1, hk2]
              rw [hk1] at HL
              rw [hk2] at HKB
              clear hc hrt hgt hk1 hk2
              go_wp2_with (refine wpList_loadCl rfl _ rfl _ _ rfl HRT.out ?_)
              refine HL.out.mono ?_
              rintro e W2 ⟨rfl, hb2⟩
              have HT2 := Hid.intro' (HT.out.next hb2)
              clear HT HL hb2 HRT
              go_upto_if 164 with (fail)
              go_cut [] (fun W2 => ∃ g4 : Bool, Hid (g4 = (f4 || decide (k1 ≠ i))) ∧ Hid (Ti s W W2 f1 f2 f3 g4))
              case first =>
                by_cases q : k1 = (i : Int)
                · have d : (k1 != (i : Int)) = false := by simp [q]
                  have HE : Hid (f4 = (f4 || decide (k1 ≠ (i : Int)))) := by show _ = _; simp [q]
                  clear q
                  go_wp2
                  go_meet
                  case rel => exact ⟨f4, HE, HT2⟩
                · have d : (k1 != (i : Int)) = true := by simp [q]
                  have HE : Hid (true = (f4 || decide (k1 ≠ (i : Int)))) := by show _ = _; simp [q]
                  have d1 : W2.cell? ⟨W.heap.size + 1, 4, none⟩ = some (.bool f4) := HT2.out.cell 4
                  have e1 := HT2.out.fr 4
                  have HT8 := Hid.intro' (HT2.out.set 4 (g4 := true) rfl)
                  clear q
                  go_wp2
                  go_meet
                  case rel => exact ⟨true, HE, HT8⟩
              case rest =>
                obtain ⟨g4, HG4, HT3⟩ := hcut
                clear HT2
                obtain ⟨_, _, e, _, hrt⟩ := (HTT.out.below' HT3.out.be).rng HCI.out
                cases e
                have HRT := Hid.intro' hrt
                have HL : Hid (Calls Try.prog 19 #[.slice ad nd kd, .agg #[.int .i64 c.fl, .int .i64 c.ca, .int .i64 c.ag, .bool c.up]] wc fun e w' => e = .returned (.int .i64 k2) ∧ Below wc.heap.size wc w') := by
                  have h := rlast_any D (.slice ad nd kd) wd c wc (HD.out.below' HT3.out.be) (by have := HND.out; omega)
                  rwa [HK2.out] at h
                clear hrt
                go_wp2_with (refine wpList_loadCl rfl _ rfl _ _ rfl HRT.out ?_)
                refine HL.out.mono ?_
                rintro e W4 ⟨rfl, hb4⟩
                have HT4 := Hid.intro' (HT3.out.next hb4)
                clear HT3 HL hb4 HRT
                go_upto_if 173 with (fail)
                go_cut [22] (fun s22 W2 => s22 = .int .i64 (SF.ag1 wd k2) ∧ Hid (Ti s W W2 f1 f2 f3 g4))
                case first =>
                  by_cases q : 0 ≤ k2
                  · obtain ⟨jn, hj⟩ : ∃ j : Nat, k2 = j := ⟨k2.toNat, by omega⟩
                    subst hj
                    have hjl : jn < nd := by have := HKB.out.2; have := HND.out; omega
                    obtain ⟨y, hy⟩ : ∃ y, wd[jn]? = some y := ⟨_, List.getElem?_eq_getElem (by have := HND.out; omega)⟩
                    obtain ⟨gd, od, e, hgd, hrd⟩ := (HD.out.below' HT4.out.be).rng hy
                    subst e
                    have hixd : ∀ W : World, (Instr.indexAt 25 (.slice (some ⟨gd, od, none⟩) nd kd) (.int .i64 (jn : Int))).run Try.prog W = .ok (.pointer (some ⟨gd, od + jn * 4, none⟩)) W := fun W => ixCa W hjl
                    have y2 : W4.cell? ⟨gd, od + jn * 4 + 2, none⟩ = some (.int .i64 y.ag) := hrd 2 _ rfl
                    have HAG : Hid (NumM.cl (NumM.cl y.ag + NumM.cl 1) = SF.ag1 wd (jn : Int)) := by
                      show _ = _
                      unfold SF.ag1
                      rw [if_pos q, Int.toNat_natCast, hy]
                    have HAD := Hid.intro' (radd_any y.ag 1 W4)
                    clear hy hrd hgd
                    go_wp2_with (first | (go_at_call 20; refine HAD.out.mono ?_; rintro e w' ⟨rfl, rfl⟩))
                    go_meet
                    case rel => exact ⟨by rw [HAG.out], HT4⟩
                  · have HAG : Hid (1 = SF.ag1 wd k2) := by show _ = _; unfold SF.ag1; rw [if_neg q]
                    go_wp2
                    go_meet
                    case rel => exact ⟨by rw [← HAG.out], HT4⟩
                case rest =>
                  obtain ⟨rfl, HT5⟩ := hcut
                  clear HT4
                  obtain ⟨_, _, e, _, hrt⟩ := (HTT.out.below' HT5.out.be).rng HCI.out
                  cases e
                  have c2 := hrt 2 _ rfl
                  obtain ⟨w1, hw1⟩ : ∃ x, SF.ag1 wd k2 = x := ⟨_, rfl⟩
                  have HNY : Hid (SF.yg wd wt (i + 1) = (g4 || decide (c.ag ≠ w1))) := by show _ = _; rw [HNX.out, HG4.out, HF4.out, ← Bool.or_assoc, hw1]
                  rw [hw1]
                  clear hw1 hrt HNX HG4 HF4 HKB HK2
                  by_cases q : c.ag = w1
                  · have d : (c.ag != w1) = false := by simp [q]
                    have HE : Hid (g4 = SF.yg wd wt (i + 1)) := by show _ = _; rw [HNY.out]; simp [q]
                    clear q HNY
                    go_wp2
                    go_roundw
                    case rel => exact ⟨i + 1, g4, by omega, by go_num, HE, HT5⟩
                    case measure => simp [intOf]; omega
                  · have d : (c.ag != w1) = true := by simp [q]
                    have HE : Hid (true = SF.yg wd wt (i + 1)) := by show _ = _; rw [HNY.out]; simp [q]
                    have d1 : wc.cell? ⟨W.heap.size + 1, 4, none⟩ = some (.bool g4) := HT5.out.cell 4
                    have e1 := HT5.out.fr 4
                    have HT8 := Hid.intro' (HT5.out.set 4 (g4 := true) rfl)
                    clear q HNY
                    go_wp2
                    go_roundw
                    case rel => exact ⟨i + 1, true, by omega, by go_num, HE, HT8⟩
                    case measure => simp [intOf]; omega
            · have hiz : ¬ ((i : Int) < (nt : Int)) := by omega
              have HE : Hid (f4 = SF.yg wd wt wt.length) := by show _ = _; rw [HF4.out, HNT.out, show i = nt by omega]
              go_wp2
              go_meet
              case rel => exact ⟨f4, HE, HT⟩
        case rest =>
          obtain ⟨f4, HF4, HT3⟩ := hcut
          have HOU : Hid (SF.ft f1 f2 f3 f4 = out) := by show _ = _; rw [HF1.out, HF2.out, HF3.out, HF4.out]; exact HO.out
          clear HT2 HF1 HF2 HF3 HF4 HO HD HTT HNA HNB HND HNT
          have HO0 := Hid.intro' (OI.lit (B := W.heap.size + 2) wc [] (by have := HT3.out.lt; omega) (Nat.zero_le _))
          have HT4 := Hid.intro' (HT3.out.next ((Below.refl wc.heap.size wc).alloc (Nat.le_refl _) (.cells (ic []).toArray 3)))
          change Hid (OI (wc.alloc (.cells #[] 3)) (W.heap.size + 2) (.slice (some ⟨wc.heap.size, 0, none⟩) 0 0) []) at HO0
          change Hid (Ti s W (wc.alloc (.cells #[] 3)) f1 f2 f3 f4) at HT4
          clear HT3
          go_wp2_with fail
          generalize wc.alloc (.cells #[] 3) = V5 at HO0 HT4 ⊢
          go_loopw [23, 24] (fun ov iv wr => ∃ (k : Nat) (l : List Int), k ≤ 4 ∧ iv = .int .i64 ((k + 1 : Nat) : Int) ∧ Hid (l = SF.fk f1 f2 f3 f4 k) ∧ Hid (OI wr (W.heap.size + 2) ov l) ∧ Hid (Ti s W wr f1 f2 f3 f4)) (fun _ iv _ => 5 - (intOf iv).toNat)
          case atStart => exact ⟨0, [], by omega, rfl, rfl, HO0, HT4⟩
          case round =>
            clear HO0 HT4
            obtain ⟨k, l, hk, rfl, HL, HO, HT⟩ := hrel
            obtain ⟨ao, co, e⟩ := HO.out.slice
            subst e
            have hk5 : k = 0 ∨ k = 1 ∨ k = 2 ∨ k = 3 ∨ k = 4 := by omega
            rcases hk5 with rfl | rfl | rfl | rfl | rfl
            · cases f1
              · have d1 : wr.cell? ⟨W.heap.size + 1, 1, none⟩ = some (.bool false) := HT.out.cell 1
                have HL2 : Hid (l = SF.fk false f2 f3 f4 1) := by show _ = _; rw [HL.out]; show _ = SF.fk false f2 f3 f4 0 ++ []; rw [List.append_nil]
                clear HL
                go_wp2
                go_roundw
                case rel => exact ⟨1, l, by omega, rfl, HL2, HO, HT⟩
                case measure => simp [intOf]
              · have d1 : wr.cell? ⟨W.heap.size + 1, 1, none⟩ = some (.bool true) := HT.out.cell 1
                have HL2 : Hid (l ++ [1] = SF.fk true f2 f3 f4 1) := by show _ = _; rw [HL.out]; rfl
                have hll : l.length ≤ 1000000 := by rw [HL.out]; have := SF.fk_len true f2 f3 f4 0; omega
                have hal := (Below.refl wr.heap.size wr).alloc (Nat.le_refl _) (.cells #[.int .i64 1] 3)
                have HOA := Hid.intro' (HO.out.below' hal)
                have HTA := Hid.intro' (HT.out.next hal)
                have HCX : Hid ((wr.alloc (.cells #[.int .i64 1] 3)).cell? ⟨wr.heap.size, 0, none⟩ = some (.int .i64 1)) := (OI.lit (B := 0) wr [1] (Nat.zero_le _) (by unfold maxLen; simp)).cell (i := 0) rfl
                have HSZ : Hid (W.heap.size + 2 ≤ (wr.alloc (.cells #[.int .i64 1] 3)).heap.size) := by show _ ≤ _; have := HT.out.lt; simp; omega
                clear hal HL HO HT
                go_wp2_with (at_builtin; refine wpList_appI rfl _ _ rfl (W.heap.size + 2) _ l rfl HOA.out wr.heap.size 1 1 rfl HCX.out hll HSZ.out ?_)
                intro g' cap' W7 ho7 hg7 hat7 hlt7
                have HT7 := Hid.intro' (HTA.out.grown hg7 (fun g e => (HOA.out.lt g e).1))
                have HO7 := Hid.intro' ho7
                clear ho7 hg7 hat7 hlt7 HOA HTA HCX HSZ d1
                have hle : (l ++ [(1 : Int)]).length = l.length + 1 := by simp
                go_wp2
                go_roundw
                case rel => exact ⟨1, _, by omega, rfl, HL2, HO7, HT7⟩
                case measure => simp [intOf]
            · cases f2
              · have d1 : wr.cell? ⟨W.heap.size + 1, 2, none⟩ = some (.bool false) := HT.out.cell 2
                have HL2 : Hid (l = SF.fk f1 false f3 f4 2) := by show _ = _; rw [HL.out]; show _ = SF.fk f1 false f3 f4 1 ++ []; rw [List.append_nil]
                clear HL
                go_wp2
                go_roundw
                case rel => exact ⟨2, l, by omega, rfl, HL2, HO, HT⟩
                case measure => simp [intOf]
              · have d1 : wr.cell? ⟨W.heap.size + 1, 2, none⟩ = some (.bool true) := HT.out.cell 2
                have HL2 : Hid (l ++ [2] = SF.fk f1 true f3 f4 2) := by show _ = _; rw [HL.out]; rfl
                have hll : l.length ≤ 1000000 := by rw [HL.out]; have := SF.fk_len f1 true f3 f4 1; omega
                have hal := (Below.refl wr.heap.size wr).alloc (Nat.le_refl _) (.cells #[.int .i64 2] 3)
                have HOA := Hid.intro' (HO.out.below' hal)
                have HTA := Hid.intro' (HT.out.next hal)
                have HCX : Hid ((wr.alloc (.cells #[.int .i64 2] 3)).cell? ⟨wr.heap.size, 0, none⟩ = some (.int .i64 2)) := (OI.lit (B := 0) wr [2] (Nat.zero_le _) (by unfold maxLen; simp)).cell (i := 0) rfl
                have HSZ : Hid (W.heap.size + 2 ≤ (wr.alloc (.cells #[.int .i64 2] 3)).heap.size) := by show _ ≤ _; have := HT.out.lt; simp; omega
                clear hal HL HO HT
                go_wp2_with (at_builtin; refine wpList_appI rfl _ _ rfl (W.heap.size + 2) _ l rfl HOA.out wr.heap.size 1 2 rfl HCX.out hll HSZ.out ?_)
                intro g' cap' W7 ho7 hg7 hat7 hlt7
                have HT7 := Hid.intro' (HTA.out.grown hg7 (fun g e => (HOA.out.lt g e).1))
                have HO7 := Hid.intro' ho7
                clear ho7 hg7 hat7 hlt7 HOA HTA HCX HSZ d1
                have hle : (l ++ [(2 : Int)]).length = l.length + 1 := by simp
                go_wp2
                go_roundw
                case rel => exact ⟨2, _, by omega, rfl, HL2, HO7, HT7⟩
                case measure => simp [intOf]
            · cases f3
              · have d1 : wr.cell? ⟨W.heap.size + 1, 3, none⟩ = some (.bool false) := HT.out.cell 3
                have HL2 : Hid (l = SF.fk f1 f2 false f4 3) := by show _ = _; rw [HL.out]; show _ = SF.fk f1 f2 false f4 2 ++ []; rw [List.append_nil]
                clear HL
                go_wp2
                go_roundw
                case rel => exact ⟨3, l, by omega, rfl, HL2, HO, HT⟩
                case measure => simp [intOf]
              · have d1 : wr.cell? ⟨W.heap.size + 1, 3, none⟩ = some (.bool true) := HT.out.cell 3
                have HL2 : Hid (l ++ [3] = SF.fk f1 f2 true f4 3) := by show _ = _; rw [HL.out]; rfl
                have hll : l.length ≤ 1000000 := by rw [HL.out]; have := SF.fk_len f1 f2 true f4 2; omega
                have hal := (Below.refl wr.heap.size wr).alloc (Nat.le_refl _) (.cells #[.int .i64 3] 3)
                have HOA := Hid.intro' (HO.out.below' hal)
                have HTA := Hid.intro' (HT.out.next hal)
                have HCX : Hid ((wr.alloc (.cells #[.int .i64 3] 3)).cell? ⟨wr.heap.size, 0, none⟩ = some (.int .i64 3)) := (OI.lit (B := 0) wr [3] (Nat.zero_le _) (by unfold maxLen; simp)).cell (i := 0) rfl
                have HSZ : Hid (W.heap.size + 2 ≤ (wr.alloc (.cells #[.int .i64 3] 3)).heap.size) := by show _ ≤ _; have := HT.out.lt; simp; omega
                clear hal HL HO HT
                go_wp2_with (at_builtin; refine wpList_appI rfl _ _ rfl (W.heap.size + 2) _ l rfl HOA.out wr.heap.size 1 3 rfl HCX.out hll HSZ.out ?_)
                intro g' cap' W7 ho7 hg7 hat7 hlt7
                have HT7 := Hid.intro' (HTA.out.grown hg7 (fun g e => (HOA.out.lt g e).1))
                have HO7 := Hid.intro' ho7
                clear ho7 hg7 hat7 hlt7 HOA HTA HCX HSZ d1
                have hle : (l ++ [(3 : Int)]).length = l.length + 1 := by simp
                go_wp2
                go_roundw
                case rel => exact ⟨3, _, by omega, rfl, HL2, HO7, HT7⟩
                case measure => simp [intOf]
            · cases f4
              · have d1 : wr.cell? ⟨W.heap.size + 1, 4, none⟩ = some (.bool false) := HT.out.cell 4
                have HL2 : Hid (l = SF.fk f1 f2 f3 false 4) := by show _ = _; rw [HL.out]; show _ = SF.fk f1 f2 f3 false 3 ++ []; rw [List.append_nil]
                clear HL
                go_wp2
                go_roundw
                case rel => exact ⟨4, l, by omega, rfl, HL2, HO, HT⟩
                case measure => simp [intOf]
              · have d1 : wr.cell? ⟨W.heap.size + 1, 4, none⟩ = some (.bool true) := HT.out.cell 4
                have HL2 : Hid (l ++ [4] = SF.fk f1 f2 f3 true 4) := by show _ = _; rw [HL.out]; rfl
                have hll : l.length ≤ 1000000 := by rw [HL.out]; have := SF.fk_len f1 f2 f3 true 3; omega
                have hal := (Below.refl wr.heap.size wr).alloc (Nat.le_refl _) (.cells #[.int .i64 4] 3)
                have HOA := Hid.intro' (HO.out.below' hal)
                have HTA := Hid.intro' (HT.out.next hal)
                have HCX : Hid ((wr.alloc (.cells #[.int .i64 4] 3)).cell? ⟨wr.heap.size, 0, none⟩ = some (.int .i64 4)) := (OI.lit (B := 0) wr [4] (Nat.zero_le _) (by unfold maxLen; simp)).cell (i := 0) rfl
                have HSZ : Hid (W.heap.size + 2 ≤ (wr.alloc (.cells #[.int .i64 4] 3)).heap.size) := by show _ ≤ _; have := HT.out.lt; simp; omega
                clear hal HL HO HT
                go_wp2_with (at_builtin; refine wpList_appI rfl _ _ rfl (W.heap.size + 2) _ l rfl HOA.out wr.heap.size 1 4 rfl HCX.out hll HSZ.out ?_)
                intro g' cap' W7 ho7 hg7 hat7 hlt7
                have HT7 := Hid.intro' (HTA.out.grown hg7 (fun g e => (HOA.out.lt g e).1))
                have HO7 := Hid.intro' ho7
                clear ho7 hg7 hat7 hlt7 HOA HTA HCX HSZ d1
                have hle : (l ++ [(4 : Int)]).length = l.length + 1 := by simp
                go_wp2
                go_roundw
                case rel => exact ⟨4, _, by omega, rfl, HL2, HO7, HT7⟩
                case measure => simp [intOf]
            · have HE : Hid (l = out) := by show _ = _; rw [HL.out, SF.fk_four, HOU.out]
              clear HL HOU
              go_wp2
              go_ret
              exact ⟨_, rfl, by rw [← HE.out]; exact HO.out.mono (by omega), HT.out.be⟩

end Go.Proofs.Ytjpkekmccbpclaj

/- What is wrong with a tick, as the program tells it. -/
namespace Go.Proofs.Ytjpkekmccbpclaj
open Go.RowKit Go.Shelf Go.ChangeMaps Go.MapKept

theorem tk_parts (s : St) (a b : List Cr) (wd wt : List Ca) (r : Bool) : SF.tk s a b wd wt r = SF.ft (SF.h1 s a b) ((SF.agk wd wd.length).any (SF.vne a (SF.agk wt wt.length))) (r && SF.aw true a b (min a.length b.length)) (decide ((SF.agk wt wt.length).length < wt.length) || (SF.agk wt wt.length).any (SF.yge (SF.agk wd wd.length))) := by
  unfold SF.tk
  rw [SF.vn_any, SF.yg_any]
  congr 1
  cases r
  · have : ∀ n, SF.aw false a b n = false := fun n => by
      induction n with
      | zero => rfl
      | succ n ih =>
        unfold SF.aw
        rw [ih]
        cases a[n]? <;> cases b[n]? <;> rfl
    rw [this]; rfl
  · rfl

theorem below_grown {W wr w' : World} {o : Option Nat} (h : Below W.heap.size W wr) (hg : wr.grownBy w' o) (ho : ∀ g, o = some g → W.heap.size ≤ g) : Below W.heap.size W w' :=
  h.trans ⟨hg.os, hg.tape, hg.output, by have := hg.size; have := h.size; omega, fun k hk => hg.block k (by have := h.size; omega) (fun e => by have := ho k e.symm; omega)⟩

set_option maxRecDepth 100000 in
set_option maxHeartbeats 8000000 in
theorem stick_any (D : Nat → Prop) (s : St) (va vb vd vt : Value) (a b : List Cr) (wd wt : List Ca) (r : Bool) (W : World) (ha : RK D W va a) (hb : RK D W vb b) (hd : RC D W vd wd) (ht : RC D W vt wt) (la : a.length ≤ 20) (lb : b.length ≤ 20) (ld : wd.length ≤ 150) (lt : wt.length ≤ 150) :
    Calls Try.prog 8 #[.agg (sv s).toArray, va, vb, vd, vt, .bool r] W fun e w' => ∃ v, e = .returned v ∧ RI (fun _ => True) w' v (SF.tk s a b wd wt r) ∧ Below W.heap.size W w' := by
  rw [tk_parts]
  obtain ⟨at', kt, rfl, -⟩ := ht.form
  have hb0 := (Below.refl W.heap.size W).alloc (Nat.le_refl _) (.cells (sv s).toArray 23)
  have HA := Hid.intro' (ha.below' hb0)
  have HBB := Hid.intro' (hb.below' hb0)
  have HD := Hid.intro' (hd.below' hb0)
  have HT := Hid.intro' (ht.below' hb0)
  have HS := Hid.intro' (SB.new W s)
  have HB := Hid.intro' hb0
  clear ha hb hd ht hb0
  obtain ⟨f1, HF1⟩ : ∃ x, Hid (SF.h1 s a b = x) := ⟨_, Hid.intro' rfl⟩
  obtain ⟨E1, HE1⟩ : ∃ x, Hid (SF.agk wd wd.length = x) := ⟨_, Hid.intro' rfl⟩
  obtain ⟨E2, HE2⟩ : ∃ x, Hid (SF.agk wt wt.length = x) := ⟨_, Hid.intro' rfl⟩
  rw [HF1.out, HE1.out, HE2.out]
  obtain ⟨f2, HF2⟩ : ∃ x, Hid (E1.any (SF.vne a E2) = x) := ⟨_, Hid.intro' rfl⟩
  obtain ⟨f3, HF3⟩ : ∃ x, Hid (SF.aw true a b (min a.length b.length) = x) := ⟨_, Hid.intro' rfl⟩
  obtain ⟨f4, HF4⟩ : ∃ x, Hid (E2.any (SF.yge E1) = x) := ⟨_, Hid.intro' rfl⟩
  rw [HF2.out, HF3.out, HF4.out]
  obtain ⟨nt, hnt⟩ : ∃ n, wt.length = n := ⟨_, rfl⟩
  have HNT := Hid.intro' hnt
  obtain ⟨n2, hn2⟩ : ∃ n, E2.length = n := ⟨_, rfl⟩
  have HN2 := Hid.intro' hn2
  rw [hn2, hnt]
  rw [hnt] at HT lt
  have hl2 : n2 ≤ 200 := by rw [← hn2, ← HE2.out, hnt]; have := SF.agk_len wt nt; omega
  clear hnt hn2
  obtain ⟨g3, HG3⟩ : ∃ x, Hid ((r && f3) = x) := ⟨_, Hid.intro' rfl⟩
  obtain ⟨g4, HG4⟩ : ∃ x, Hid ((decide (n2 < nt) || f4) = x) := ⟨_, Hid.intro' rfl⟩
  rw [HG3.out, HG4.out]
  obtain ⟨out, HO⟩ : ∃ x, Hid (SF.ft f1 f2 g3 g4 = x) := ⟨_, Hid.intro' rfl⟩
  rw [HO.out]
  go_enter Try.func8, Try.ntmps8
  go_wp2_with fail
  refine (ages_any D vd wd _ HD.out (by omega)).mono ?_
  rintro e W1 ⟨m1, rfl, hm1, hma1, hb1⟩
  have HM1 : Hid (MA W1 m1 E1) := by rw [← HE1.out]; exact hma1
  have HA1 := Hid.intro' (HA.out.below' hb1)
  have HBB1 := Hid.intro' (HBB.out.below' hb1)
  have HT1 := Hid.intro' (HT.out.below' hb1)
  have HS1 := Hid.intro' (HS.out.below' hb1)
  have HB1 := Hid.intro' (below_class HB.out hb1)
  clear hma1 hb1 HA HBB HD HT HS HB hm1
  go_wp2_with fail
  have hag2 := ages_any D _ wt _ HT1.out (by have := HNT.out; omega)
  refine hag2.mono ?_
  rintro e W2 ⟨m2, rfl, hm2, hma2, hb2⟩
  have HM2 : Hid (MA W2 m2 E2) := by rw [← HE2.out]; exact hma2
  have HM1' := Hid.intro' (HM1.out.below' hb2)
  have HA2 := Hid.intro' (HA1.out.below' hb2)
  have HBB2 := Hid.intro' (HBB1.out.below' hb2)
  have HS2 := Hid.intro' (HS1.out.below' hb2)
  have HB2 := Hid.intro' (below_class HB1.out hb2)
  clear hma2 hb2 HA1 HBB1 HT1 HS1 HB1 HM1 hag2 hm2
  go_upto_region 2 with (fail)
  go_cut [15] (fun s15 W3 => ∃ bk : Nat, s15 = .pointer (some ⟨bk, 0, none⟩) ∧ Hid (HB5 W3 bk f1 f2 g3 g4) ∧ Hid (Below W.heap.size W W3))
  case first =>
    go_wp2_with (refine wpList_load23 rfl _ rfl W.heap.size s rfl HS2.out ?_)
    have hlp := leaps_any D s va vb a b W2 HA2.out HBB2.out la lb
    rw [HF1.out] at hlp
    refine hlp.mono ?_
    rintro e W3 ⟨rfl, hb⟩
    have HM13 := Hid.intro' (HM1'.out.below' hb)
    have HM23 := Hid.intro' (HM2.out.below' hb)
    have HA3 := Hid.intro' (HA2.out.below' hb)
    have HBB3 := Hid.intro' (HBB2.out.below' hb)
    have HB3 := Hid.intro' (below_class HB2.out hb)
    clear hb hlp HM1' HM2 HA2 HBB2 HS2 HB2
    go_wp2_with fail
    have hvn := vanishes_any D va a E1 E2 m1 m2 W3 HA3.out la HM13.out HM23.out
    rw [HF2.out] at hvn
    refine hvn.mono ?_
    rintro e W4 ⟨rfl, hb⟩
    have HM14 := Hid.intro' (HM13.out.below' hb)
    have HM24 := Hid.intro' (HM23.out.below' hb)
    have HA4 := Hid.intro' (HA3.out.below' hb)
    have HBB4 := Hid.intro' (HBB3.out.below' hb)
    have HB4 := Hid.intro' (below_class HB3.out hb)
    clear hb hvn HM13 HM23 HA3 HBB3 HB3
    cases r
    · have HX3 : Hid (false = g3) := HG3.out
      have hln := HM24.out.lens 3
      rw [HN2.out] at hln
      by_cases q : n2 < nt
      · have HX4 : Hid (true = g4) := by show _ = _; rw [← HG4.out]; simp [q]
        have qz : (n2 : Int) < (nt : Int) := by omega
        go_wp2
        go_meet
        case rel => exact ⟨_, rfl, by rw [← HX3.out, ← HX4.out]; exact (show Hid _ from World.alloc_heap_new W4 _), HB4.out.alloc (HB4.out.size) _⟩
      · have HX4 : Hid (f4 = g4) := by show _ = _; rw [← HG4.out]; simp [q]
        have qz : ¬ (n2 : Int) < (nt : Int) := by omega
        have hyg := isYoung_any E1 E2 m1 m2 W4 HM14.out HM24.out
        rw [HF4.out] at hyg
        have HYG := Hid.intro' hyg
        clear hyg
        go_wp2_with fail
        refine HYG.out.mono ?_
        rintro e W5 ⟨rfl, hb⟩
        have HB5' := Hid.intro' (below_class HB4.out hb)
        clear hb HYG HM14 HM24 HA4 HBB4 HB4 hln
        go_wp2
        go_meet
        case rel => exact ⟨_, rfl, by rw [← HX3.out, ← HX4.out]; exact (show Hid _ from World.alloc_heap_new W5 _), HB5'.out.alloc (HB5'.out.size) _⟩
    · have HX3 : Hid (f3 = g3) := HG3.out
      have hga := goesAway_any D va vb a b W4 HA4.out HBB4.out la lb
      rw [HF3.out] at hga
      have HGA := Hid.intro' hga
      clear hga
      go_wp2_with fail
      refine HGA.out.mono ?_
      rintro e W5 ⟨rfl, hb⟩
      have HM15 := Hid.intro' (HM14.out.below' hb)
      have HM25 := Hid.intro' (HM24.out.below' hb)
      have HB5' := Hid.intro' (below_class HB4.out hb)
      clear hb HGA HM14 HM24 HA4 HBB4 HB4
      have hln := HM25.out.lens 3
      rw [HN2.out] at hln
      by_cases q : n2 < nt
      · have HX4 : Hid (true = g4) := by show _ = _; rw [← HG4.out]; simp [q]
        have qz : (n2 : Int) < (nt : Int) := by omega
        go_wp2
        go_meet
        case rel => exact ⟨_, rfl, by rw [← HX3.out, ← HX4.out]; exact (show Hid _ from World.alloc_heap_new W5 _), HB5'.out.alloc (HB5'.out.size) _⟩
      · have HX4 : Hid (f4 = g4) := by show _ = _; rw [← HG4.out]; simp [q]
        have qz : ¬ (n2 : Int) < (nt : Int) := by omega
        have hyg := isYoung_any E1 E2 m1 m2 W5 HM15.out HM25.out
        rw [HF4.out] at hyg
        have HYG := Hid.intro' hyg
        clear hyg
        go_wp2_with fail
        refine HYG.out.mono ?_
        rintro e W6 ⟨rfl, hb⟩
        have HB6 := Hid.intro' (below_class HB5'.out hb)
        clear hb HYG HM15 HM25 hln HB5'
        go_wp2
        go_meet
        case rel => exact ⟨_, rfl, by rw [← HX3.out, ← HX4.out]; exact (show Hid _ from World.alloc_heap_new W6 _), HB6.out.alloc (HB6.out.size) _⟩
  case rest =>
    obtain ⟨bk, rfl, H5, HB3⟩ := hcut
    clear HM1' HM2 HA2 HBB2 HS2 HB2 HF1 HF2 HF3 HF4 HG3 HG4 HE1 HE2 HN2 HNT
    have c0 : wc.cell? ⟨bk, 0, none⟩ = some (.bool false) := by simp [World.cell?, show wc.heap[bk]? = _ from H5.out]
    have c1 : wc.cell? ⟨bk, 1, none⟩ = some (.bool f1) := by simp [World.cell?, show wc.heap[bk]? = _ from H5.out]
    have c2 : wc.cell? ⟨bk, 2, none⟩ = some (.bool f2) := by simp [World.cell?, show wc.heap[bk]? = _ from H5.out]
    have c3 : wc.cell? ⟨bk, 3, none⟩ = some (.bool g3) := by simp [World.cell?, show wc.heap[bk]? = _ from H5.out]
    have c4 : wc.cell? ⟨bk, 4, none⟩ = some (.bool g4) := by simp [World.cell?, show wc.heap[bk]? = _ from H5.out]
    go_wp2_with fail
    clear c0 c1 c2 c3 c4 H5
    have HO0 : Hid (OI wc wc.heap.size (.slice none 0 0) []) := OI.nil _ _
    go_loopw [16, 49] (fun ov iv wr => ∃ (k : Nat) (l : List Int), k ≤ 5 ∧ iv = .int .i64 (k : Int) ∧ Hid (l = SF.fk f1 f2 g3 g4 (k - 1)) ∧ Hid (OI wr wc.heap.size ov l) ∧ Hid (Below wc.heap.size wc wr)) (fun _ iv _ => 5 - (intOf iv).toNat)
    case atStart => exact ⟨0, [], by omega, rfl, rfl, HO0, Below.refl _ _⟩
    case round =>
      clear HO0
      obtain ⟨k, l, hk, rfl, HL, HOI, HB⟩ := hrel
      obtain ⟨ao, co, e⟩ := HOI.out.slice
      subst e
      have hk6 : k = 0 ∨ k = 1 ∨ k = 2 ∨ k = 3 ∨ k = 4 ∨ k = 5 := by omega
      have hx0 : ∀ W : World, (Instr.index 52 (.agg #[.bool false, .bool f1, .bool f2, .bool g3, .bool g4]) (.int .i64 0)).run Try.prog W = .ok (.bool false) W := fun W => by kernel_rfl
      have hx1 : ∀ W : World, (Instr.index 52 (.agg #[.bool false, .bool f1, .bool f2, .bool g3, .bool g4]) (.int .i64 1)).run Try.prog W = .ok (.bool f1) W := fun W => by kernel_rfl
      have hx2 : ∀ W : World, (Instr.index 52 (.agg #[.bool false, .bool f1, .bool f2, .bool g3, .bool g4]) (.int .i64 2)).run Try.prog W = .ok (.bool f2) W := fun W => by kernel_rfl
      have hx3 : ∀ W : World, (Instr.index 52 (.agg #[.bool false, .bool f1, .bool f2, .bool g3, .bool g4]) (.int .i64 3)).run Try.prog W = .ok (.bool g3) W := fun W => by kernel_rfl
      have hx4 : ∀ W : World, (Instr.index 52 (.agg #[.bool false, .bool f1, .bool f2, .bool g3, .bool g4]) (.int .i64 4)).run Try.prog W = .ok (.bool g4) W := fun W => by kernel_rfl
      rcases hk6 with rfl | rfl | rfl | rfl | rfl | rfl
      · have HL2 : Hid (l = SF.fk f1 f2 g3 g4 0) := HL.out
        clear HL
        go_wp2
        go_roundw
        case rel => exact ⟨1, l, by omega, rfl, HL2, HOI, HB⟩
        case measure => simp [intOf]
      · cases f1
        · have HL2 : Hid (l = SF.fk false f2 g3 g4 1) := by show _ = _; rw [HL.out]; show _ = SF.fk false f2 g3 g4 0 ++ []; rw [List.append_nil]
          clear HL
          go_wp2
          go_roundw
          case rel => exact ⟨2, l, by omega, rfl, HL2, HOI, HB⟩
          case measure => simp [intOf]
        · have HL2 : Hid (l ++ [1] = SF.fk true f2 g3 g4 1) := by show _ = _; rw [HL.out]; rfl
          have hll : l.length ≤ 1000000 := by rw [HL.out]; exact Nat.le_trans (SF.fk_len true f2 g3 g4 _) (by omega)
          have hal := (Below.refl wr.heap.size wr).alloc (Nat.le_refl _) (.cells #[.int .i64 1] 3)
          have HOA := Hid.intro' (HOI.out.below' hal)
          have HTA := Hid.intro' (below_class HB.out hal)
          have HCX : Hid ((wr.alloc (.cells #[.int .i64 1] 3)).cell? ⟨wr.heap.size, 0, none⟩ = some (.int .i64 1)) := (OI.lit (B := 0) wr [1] (Nat.zero_le _) (by unfold maxLen; simp)).cell (i := 0) rfl
          have HSZ : Hid (wc.heap.size ≤ (wr.alloc (.cells #[.int .i64 1] 3)).heap.size) := by show _ ≤ _; have := HB.out.size; simp; omega
          clear hal HL HOI HB
          go_wp2_with (at_builtin; refine wpList_appI rfl _ _ rfl wc.heap.size _ l rfl HOA.out wr.heap.size 1 1 rfl HCX.out hll HSZ.out ?_)
          intro g' cap' W7 ho7 hg7 hat7 hlt7
          have HT7 := Hid.intro' (below_grown HTA.out hg7 (fun g e => (HOA.out.lt g e).1))
          have HO7 := Hid.intro' ho7
          clear ho7 hg7 hat7 hlt7 HOA HTA HCX HSZ
          have hle : (l ++ [(1 : Int)]).length = l.length + 1 := by simp
          go_wp2
          go_roundw
          case rel => exact ⟨2, _, by omega, rfl, HL2, HO7, HT7⟩
          case measure => simp [intOf]
      · cases f2
        · have HL2 : Hid (l = SF.fk f1 false g3 g4 2) := by show _ = _; rw [HL.out]; show _ = SF.fk f1 false g3 g4 1 ++ []; rw [List.append_nil]
          clear HL
          go_wp2
          go_roundw
          case rel => exact ⟨3, l, by omega, rfl, HL2, HOI, HB⟩
          case measure => simp [intOf]
        · have HL2 : Hid (l ++ [2] = SF.fk f1 true g3 g4 2) := by show _ = _; rw [HL.out]; rfl
          have hll : l.length ≤ 1000000 := by rw [HL.out]; exact Nat.le_trans (SF.fk_len f1 true g3 g4 _) (by omega)
          have hal := (Below.refl wr.heap.size wr).alloc (Nat.le_refl _) (.cells #[.int .i64 2] 3)
          have HOA := Hid.intro' (HOI.out.below' hal)
          have HTA := Hid.intro' (below_class HB.out hal)
          have HCX : Hid ((wr.alloc (.cells #[.int .i64 2] 3)).cell? ⟨wr.heap.size, 0, none⟩ = some (.int .i64 2)) := (OI.lit (B := 0) wr [2] (Nat.zero_le _) (by unfold maxLen; simp)).cell (i := 0) rfl
          have HSZ : Hid (wc.heap.size ≤ (wr.alloc (.cells #[.int .i64 2] 3)).heap.size) := by show _ ≤ _; have := HB.out.size; simp; omega
          clear hal HL HOI HB
          go_wp2_with (at_builtin; refine wpList_appI rfl _ _ rfl wc.heap.size _ l rfl HOA.out wr.heap.size 1 2 rfl HCX.out hll HSZ.out ?_)
          intro g' cap' W7 ho7 hg7 hat7 hlt7
          have HT7 := Hid.intro' (below_grown HTA.out hg7 (fun g e => (HOA.out.lt g e).1))
          have HO7 := Hid.intro' ho7
          clear ho7 hg7 hat7 hlt7 HOA HTA HCX HSZ
          have hle : (l ++ [(2 : Int)]).length = l.length + 1 := by simp
          go_wp2
          go_roundw
          case rel => exact ⟨3, _, by omega, rfl, HL2, HO7, HT7⟩
          case measure => simp [intOf]
      · cases g3
        · have HL2 : Hid (l = SF.fk f1 f2 false g4 3) := by show _ = _; rw [HL.out]; show _ = SF.fk f1 f2 false g4 2 ++ []; rw [List.append_nil]
          clear HL
          go_wp2
          go_roundw
          case rel => exact ⟨4, l, by omega, rfl, HL2, HOI, HB⟩
          case measure => simp [intOf]
        · have HL2 : Hid (l ++ [3] = SF.fk f1 f2 true g4 3) := by show _ = _; rw [HL.out]; rfl
          have hll : l.length ≤ 1000000 := by rw [HL.out]; exact Nat.le_trans (SF.fk_len f1 f2 true g4 _) (by omega)
          have hal := (Below.refl wr.heap.size wr).alloc (Nat.le_refl _) (.cells #[.int .i64 3] 3)
          have HOA := Hid.intro' (HOI.out.below' hal)
          have HTA := Hid.intro' (below_class HB.out hal)
          have HCX : Hid ((wr.alloc (.cells #[.int .i64 3] 3)).cell? ⟨wr.heap.size, 0, none⟩ = some (.int .i64 3)) := (OI.lit (B := 0) wr [3] (Nat.zero_le _) (by unfold maxLen; simp)).cell (i := 0) rfl
          have HSZ : Hid (wc.heap.size ≤ (wr.alloc (.cells #[.int .i64 3] 3)).heap.size) := by show _ ≤ _; have := HB.out.size; simp; omega
          clear hal HL HOI HB
          go_wp2_with (at_builtin; refine wpList_appI rfl _ _ rfl wc.heap.size _ l rfl HOA.out wr.heap.size 1 3 rfl HCX.out hll HSZ.out ?_)
          intro g' cap' W7 ho7 hg7 hat7 hlt7
          have HT7 := Hid.intro' (below_grown HTA.out hg7 (fun g e => (HOA.out.lt g e).1))
          have HO7 := Hid.intro' ho7
          clear ho7 hg7 hat7 hlt7 HOA HTA HCX HSZ
          have hle : (l ++ [(3 : Int)]).length = l.length + 1 := by simp
          go_wp2
          go_roundw
          case rel => exact ⟨4, _, by omega, rfl, HL2, HO7, HT7⟩
          case measure => simp [intOf]
      · cases g4
        · have HL2 : Hid (l = SF.fk f1 f2 g3 false 4) := by show _ = _; rw [HL.out]; show _ = SF.fk f1 f2 g3 false 3 ++ []; rw [List.append_nil]
          clear HL
          go_wp2
          go_roundw
          case rel => exact ⟨5, l, by omega, rfl, HL2, HOI, HB⟩
          case measure => simp [intOf]
        · have HL2 : Hid (l ++ [4] = SF.fk f1 f2 g3 true 4) := by show _ = _; rw [HL.out]; rfl
          have hll : l.length ≤ 1000000 := by rw [HL.out]; exact Nat.le_trans (SF.fk_len f1 f2 g3 true _) (by omega)
          have hal := (Below.refl wr.heap.size wr).alloc (Nat.le_refl _) (.cells #[.int .i64 4] 3)
          have HOA := Hid.intro' (HOI.out.below' hal)
          have HTA := Hid.intro' (below_class HB.out hal)
          have HCX : Hid ((wr.alloc (.cells #[.int .i64 4] 3)).cell? ⟨wr.heap.size, 0, none⟩ = some (.int .i64 4)) := (OI.lit (B := 0) wr [4] (Nat.zero_le _) (by unfold maxLen; simp)).cell (i := 0) rfl
          have HSZ : Hid (wc.heap.size ≤ (wr.alloc (.cells #[.int .i64 4] 3)).heap.size) := by show _ ≤ _; have := HB.out.size; simp; omega
          clear hal HL HOI HB
          go_wp2_with (at_builtin; refine wpList_appI rfl _ _ rfl wc.heap.size _ l rfl HOA.out wr.heap.size 1 4 rfl HCX.out hll HSZ.out ?_)
          intro g' cap' W7 ho7 hg7 hat7 hlt7
          have HT7 := Hid.intro' (below_grown HTA.out hg7 (fun g e => (HOA.out.lt g e).1))
          have HO7 := Hid.intro' ho7
          clear ho7 hg7 hat7 hlt7 HOA HTA HCX HSZ
          have hle : (l ++ [(4 : Int)]).length = l.length + 1 := by simp
          go_wp2
          go_roundw
          case rel => exact ⟨5, _, by omega, rfl, HL2, HO7, HT7⟩
          case measure => simp [intOf]
      · have HE : Hid (l = out) := by show _ = _; rw [HL.out, ← HO.out]; exact SF.fk_four f1 f2 g3 g4
        clear HL HO
        go_wp2
        go_ret
        exact ⟨_, rfl, by rw [← HE.out]; exact HOI.out.ri (fun _ _ => trivial), below_class HB3.out HB.out⟩

end Go.Proofs.Ytjpkekmccbpclaj

/- The example of the document. -/
namespace Go.Proofs.Ytjpkekmccbpclaj
open Go.RowKit Go.Shelf

theorem RK.nil (D : Nat → Prop) (W : World) : RK D W (.slice none 0 0) [] := ⟨none, 0, rfl, Nat.le_refl _, .inl rfl⟩
theorem RC.nil (D : Nat → Prop) (W : World) : RC D W (.slice none 0 0) [] := ⟨none, 0, rfl, Nat.le_refl _, .inl rfl⟩
def s0 : St := ⟨0, 0, 0, 0, 0, 0, 0, 0, 0, 0, 0, 0, 0⟩
set_option maxHeartbeats 1000000 in
theorem speaks16_any (W : World) : Calls Try.prog 6 #[] W fun e w' => e = .returned (.bool true) ∧ Below W.heap.size W w' := by
  have H := Hid.intro' (stick_any (fun _ => True) s0 (.slice none 0 0) (.slice none 0 0) (.slice none 0 0) (.slice none 0 0) [] [] [] [] false W (RK.nil _ _) (RK.nil _ _) (RC.nil _ _) (RC.nil _ _) (by simp) (by simp) (by simp) (by simp))
  rw [show SF.tk s0 [] [] [] [] false = [1] from rfl] at H
  change Hid (Calls Try.prog 8 #[.agg #[.int .i64 0, .int .i64 0, .int .i64 0, .int .i64 0, .int .i64 0, .int .i64 0, .int .i64 0, .int .i64 0, .int .i64 0, .int .i64 0, .int .i64 0, .int .i64 0, .int .i64 0], .slice none 0 0, .slice none 0 0, .slice none 0 0, .slice none 0 0, .bool false] W _) at H
  go_enter Try.func6, Try.ntmps6
  go_wp2_with fail
  refine H.out.mono ?_
  rintro e W2 ⟨v, rfl, hr, hb2⟩
  obtain ⟨a, cap, rfl, _, _⟩ := hr.form
  have hal := (Below.refl W2.heap.size W2).alloc (Nat.le_refl _) (.cells #[.int .i64 1] 3)
  have ho : OI (W2.alloc (.cells #[.int .i64 1] 3)) 0 (.slice (some ⟨W2.heap.size, 0, none⟩) 1 1) [1] := OI.lit (B := 0) W2 [1] (Nat.zero_le _) (by unfold maxLen; simp)
  have HS : Hid (Calls Try.prog 7 #[.slice a 1 cap, .slice (some ⟨W2.heap.size, 0, none⟩) 1 1] (W2.alloc (.cells #[.int .i64 1] 3)) fun e w' => e = .returned (.bool true) ∧ Below (W2.alloc (.cells #[.int .i64 1] 3)).heap.size (W2.alloc (.cells #[.int .i64 1] 3)) w') := by
    have h := rsame_any (fun _ => True) (fun _ => True) (.slice a 1 cap) (.slice (some ⟨W2.heap.size, 0, none⟩) 1 1) [1] [1] _ (hr.below' hal) (ho.ri fun _ _ => trivial) (by simp)
    rwa [show decide (([1] : List Int) = [1]) = true from rfl] at h
  have HB := Hid.intro' (below_class hb2 hal)
  clear hr hb2 hal ho H
  go_wp2_with fail
  refine HS.out.mono ?_
  rintro e W3 ⟨rfl, hb3⟩
  have HB3 := Hid.intro' (below_class HB.out hb3)
  clear hb3 HS HB
  go_wp2
  go_ret
  exact ⟨rfl, HB3.out⟩

end Go.Proofs.Ytjpkekmccbpclaj
