/-
  A REGION THAT DRAWS ITS ORDER AND MAKES ROWS ('append(append([]T{}, x...), y)'): some operations read and call (calm ones: each leaves one value, whatever the order), others make rows, or take one over and put more behind it: where a row lies hangs on the order, what it holds does not.
  ONE walk of the calm ones, in lexical order, and one sentence for each row, serve all orders.
  No program is named here.
-/
import Derived.Test.YtkcppidmbojglafNewR
namespace Go.Proofs.Ytkcppidmbojglaf
open Go.RowKit

section
variable {P : Program} {ops : Array Oper} {md : Region.Mode} {W0 : World}

/-! ### values that are there, over a frame -/
def pv (ops : Array Oper) (a : Act) (f : Nat → Option Value) : Nat → Act
  | 0 => a
  | m + 1 => match f m with
    | none => pv ops a f m
    | some v => (pv ops a f m).put (dstOf ops m) v
def upd (f : Nat → Option Value) (i : Nat) (v : Value) : Nat → Option Value := fun j => if j = i then some v else f j
theorem upd_self (f : Nat → Option Value) (i : Nat) (v : Value) : upd f i v i = some v := if_pos rfl
theorem upd_ne (f : Nat → Option Value) {i j : Nat} (v : Value) (h : j ≠ i) : upd f i v j = f j := if_neg h
theorem pv_congr {a : Act} {f g : Nat → Option Value} : ∀ {m : Nat}, (∀ i, i < m → f i = g i) → pv ops a f m = pv ops a g m
  | 0, _ => rfl
  | m + 1, h => by
    unfold pv
    rw [h m (by omega), pv_congr fun i hi => h i (by omega)]
/-- each operation has a place of its own -/
def Dist (ops : Array Oper) (m : Nat) : Prop := ∀ i j, i < m → j < m → i ≠ j → ∀ d, dstOf ops i = some d → dstOf ops j ≠ some d
theorem pv_put {a : Act} {f : Nat → Option Value} {i : Nat} {v : Value} : ∀ {m : Nat}, Dist ops m → i < m → f i = none → pv ops a (upd f i v) m = (pv ops a f m).put (dstOf ops i) v
  | 0, _, hi, _ => by omega
  | m + 1, hd, hi, hf => by
    by_cases e : i = m
    · subst e
      unfold pv
      rw [upd_self, hf]
      simp only
      rw [pv_congr (g := f) fun j hj => upd_ne f v (by omega)]
    · have ih := pv_put (a := a) (v := v) (m := m) (fun i j hi hj => hd i j (by omega) (by omega)) (by omega) hf
      unfold pv
      rw [upd_ne f v (Ne.symm e)]
      cases f m with
      | none => exact ih
      | some u =>
        simp only
        rw [ih, Act.put_comm _ _ _ (hd i m (by omega) (by omega) e)]
theorem put_size (a : Act) (d : Option Tmp) (v : Value) : (a.put d v).tmps.size = a.tmps.size := by cases d <;> simp [Act.put]
theorem pv_size {a : Act} {f : Nat → Option Value} : ∀ {m : Nat}, (pv ops a f m).tmps.size = a.tmps.size
  | 0 => rfl
  | m + 1 => by
    unfold pv
    cases f m with
    | none => exact pv_size
    | some u => simp only; rw [put_size]; exact pv_size
theorem put_get_ne {a : Act} {d : Option Tmp} {v : Value} {t : Nat} (h : d ≠ some t) : (a.put d v).tmps[t]? = a.tmps[t]? := by
  cases d with
  | none => rfl
  | some e =>
    have hne : e ≠ t := fun x => h (by rw [x])
    simp [Act.put, Array.getElem?_setIfInBounds_ne hne]
theorem pv_get {a : Act} {f g : Nat → Option Value} {t : Nat} : ∀ {m : Nat}, (∀ i, i < m → dstOf ops i = some t → f i = g i) → (pv ops a f m).tmps[t]? = (pv ops a g m).tmps[t]?
  | 0, _ => rfl
  | m + 1, h => by
    have ih := pv_get (a := a) (m := m) fun i hi => h i (by omega)
    unfold pv
    by_cases e : dstOf ops m = some t
    · rw [← h m (by omega) e]
      cases f m with
      | none => exact ih
      | some u =>
        simp only
        rw [e]
        simp [Act.put, Array.getElem?_setIfInBounds, pv_size]
    · cases f m with
      | none =>
        cases g m with
        | none => exact ih
        | some u => simp only; rw [put_get_ne e]; exact ih
      | some v =>
        cases g m with
        | none => simp only; rw [put_get_ne e]; exact ih
        | some u => simp only; rw [put_get_ne e, put_get_ne e]; exact ih
theorem pv_same {a : Act} {f g : Nat → Option Value} {m : Nat} {o : Oper} (hs : ∀ cs b, o.op ≠ .select cs b) (h : ∀ i, i < m → ∀ d, dstOf ops i = some d → d ∈ o.looksAt ops → f i = g i) :
    execOp (pv ops a f m).eval o = execOp (pv ops a g m).eval o ∧ Region.wanted o (yielded ops (pv ops a f m).tmps) = Region.wanted o (yielded ops (pv ops a g m).tmps) := by
  constructor
  · refine execOp_congr o hs fun x hx => ?_
    cases x with
    | tmp t =>
      have ht : t ∈ o.looksAt ops := List.mem_append_left _ (List.mem_filterMap.2 ⟨.tmp t, by simpa using hx, rfl⟩)
      have := pv_get (a := a) (m := m) fun i hi hd => h i hi t hd ht
      simp only [Act.eval, Array.getD_eq_getD_getElem?, this]
    | _ => rfl
  · unfold Region.wanted
    cases hg : o.guard with
    | none => rfl
    | some gw =>
      obtain ⟨k, want⟩ := gw
      have hy : yielded ops (pv ops a f m).tmps k = yielded ops (pv ops a g m).tmps k := by
        unfold yielded
        cases ht : (ops[k]?).bind (·.dst) with
        | none => rfl
        | some t =>
          have := pv_get (a := a) (m := m) fun i hi hd => h i hi t hd (by simp [Oper.looksAt, hg, ht])
          simp only [Option.bind_some, this]
      simp only [hy]

/-! ### what is asked of the region's text -/
/-- what an operation looks at it waits for; each has its own place; the lexical order is one of the orders -/
def depB (md : Region.Mode) (ops : Array Oper) (m : Nat) : Bool :=
  (List.range m).all fun i => match ops[i]? with
    | none => false
    | some oi => (oi.after.all fun e => !Region.binds md e || decide (e.on < i)) && (List.range m).all fun k => match ops[k]? with
      | none => false
      | some ok => match ok.dst with
        | none => true
        | some d => (Region.waitsFor md ops i k || !(oi.looksAt ops).contains d) && (decide (k = i) || oi.dst != some d)
section
variable {m : Nat}
theorem depB_some (h : depB md ops m = true) {i : Nat} (hi : i < m) : ∃ o, ops[i]? = some o := by
  have h1 := List.all_eq_true.1 h i (List.mem_range.2 hi)
  cases ho : ops[i]? with
  | none => simp [ho] at h1
  | some o => exact ⟨o, rfl⟩
theorem depB_on (h : depB md ops m = true) {i : Nat} {oi : Oper} (hi : i < m) (ho : ops[i]? = some oi) : ∀ e ∈ oi.after, Region.binds md e = true → e.on < i := fun e he hb => by
  have h1 := List.all_eq_true.1 h i (List.mem_range.2 hi)
  simp only [ho, Bool.and_eq_true] at h1
  have h2 := Array.all_eq_true_iff_forall_mem.1 h1.1 e he
  simpa [hb] using h2
theorem depB_pair (h : depB md ops m = true) {i k : Nat} {oi : Oper} {d : Tmp} (hi : i < m) (ho : ops[i]? = some oi) (hk : k < m) (hd : dstOf ops k = some d) : (Region.waitsFor md ops i k = true ∨ d ∉ oi.looksAt ops) ∧ (k = i ∨ oi.dst ≠ some d) := by
  have h1 := List.all_eq_true.1 h i (List.mem_range.2 hi)
  simp only [ho, Bool.and_eq_true] at h1
  have h2 := List.all_eq_true.1 h1.2 k (List.mem_range.2 hk)
  obtain ⟨ok, hok⟩ := depB_some h hk
  have e : ok.dst = some d := by unfold dstOf at hd; rwa [hok] at hd
  simp only [hok, e, Bool.and_eq_true, Bool.or_eq_true, decide_eq_true_eq, Bool.not_eq_true'] at h2
  refine ⟨?_, ?_⟩
  · rcases h2.1 with h3 | h3
    · exact .inl h3
    · exact .inr (by simpa using h3)
  · rcases h2.2 with h3 | h3
    · exact .inl h3
    · exact .inr (by simpa using h3)
theorem depB_dist (h : depB md ops m = true) : Dist ops m := fun i j hi hj hij d hd hd' => by
  obtain ⟨oj, hoj⟩ := depB_some h hj
  have := (depB_pair h hj hoj hi hd).2
  rcases this with e | e
  · exact hij e
  · exact e (by unfold dstOf at hd'; rwa [hoj] at hd')
end
theorem waits_listed {i k : Nat} {oi : Oper} {ls : Array Bool} (hw : Region.waitsFor md ops i k = true) (ho : ops[i]? = some oi) (hall : ∀ e ∈ oi.after, Region.binds md e = true → ls.getD e.on false = true) : ls.getD k false = true := by
  obtain ⟨o', ho', e, he, hb, hon⟩ := Region.waitsFor_spec hw
  obtain rfl : o' = oi := Option.some.inj (ho'.symm.trans ho)
  rw [← hon]; exact hall e he hb

/-! ### the run -/
/-- all values: rows by ρ, the others by vl -/
def ful (js : List Nat) (vl ρ : Nat → Value) : Nat → Option Value := fun i => some (if js.contains i then ρ i else vl i)
def prt (ls : Array Bool) (js : List Nat) (vl ρ : Nat → Value) : Nat → Option Value := fun i => if ls.getD i false = true then ful js vl ρ i else none
/-- what a row's operation does -/
structure RowDo (P : Program) (ops : Array Oper) (o : Oper) (a : Act) (w : World) (R : Value → World → Prop) (own : Option Nat) : Prop where
  want : Region.wanted o (yielded ops a.tmps) = true
  does : ∃ v w', (execOp a.eval o).run P w = .ok (.value v) w' ∧ R v w' ∧ w.grownBy w' own ∧ ∀ g, v.ownBlock = some g → own = some g ∨ w.heap.size ≤ g
/-- rows hang on their own blocks alone -/
structure RowsOk (W0 : World) (R : Nat → Value → World → Prop) : Prop where
  keep : ∀ j v w w', R j v w → w.heap.size ≤ w'.heap.size → (∀ g, v.ownBlock = some g → w'.heap[g]? = w.heap[g]?) → R j v w'
  lt : ∀ j v w, R j v w → ∀ g, v.ownBlock = some g → W0.heap.size ≤ g ∧ g < w.heap.size
/-- the state that is kept -/
structure Rok (ops : Array Oper) (W0 : World) (m : Nat) (js : List Nat) (ka : Nat → Option Nat) (R : Nat → Value → World → Prop) (ls : Array Bool) (ρ : Nat → Value) (w : World) : Prop where
  bel : Below W0.heap.size W0 w
  row : ∀ k, k < m → k ∈ js → ls.getD k false = true → (∀ j, j < m → ka j = some k → ls.getD j false = false) → R k (ρ k) w
  two : ∀ k l, k < m → l < m → k ∈ js → l ∈ js → k ≠ l → ls.getD k false = true → ls.getD l false = true → (∀ j, j < m → ka j = some k → ls.getD j false = false) → (∀ j, j < m → ka j = some l → ls.getD j false = false) → ∀ g, (ρ k).ownBlock = some g → (ρ l).ownBlock ≠ some g

theorem any_rows {Q' : Exit → Act → World → Prop} {m g : Nat} {js : List Nat} {ka : Nat → Option Nat} {R : Nat → Value → World → Prop} (vl : Nat → Value) (a0 : Act) (hsel : Region.noSelect ops = true) (hD : depB md ops m = true) (hmo : m < ops.size)
    (hsink : Region.sinkB md ops m = true) (hchain : Region.chainB md ops m = true)
    (hka : ∀ i k, i < m → ka i = some k → i ∈ js ∧ k ∈ js ∧ k < m ∧ Region.waitsFor md ops i k = true ∧ ∀ j, j < m → Region.waitsFor md ops j k = true → j = i) (hR : RowsOk W0 R)
    (hcalm : ∀ i o, i < m → i ∉ js → ops[i]? = some o → ∀ ρ, Calm P ops W0 o (vl i) (pv ops a0 (ful js vl ρ) m))
    (hrow : ∀ i o, i < m → i ∈ js → ops[i]? = some o → ∀ ρ w, Below W0.heap.size W0 w → (∀ k, k < m → k ∈ js → Region.waitsFor md ops i k = true → R k (ρ k) w) →
      (∀ k l, k < m → l < m → k ∈ js → l ∈ js → k ≠ l → Region.waitsFor md ops i k = true → Region.waitsFor md ops i l = true → ∀ g, (ρ k).ownBlock = some g → (ρ l).ownBlock ≠ some g) →
      RowDo P ops o (pv ops a0 (ful js vl ρ) m) w (R i) ((ka i).bind fun k => (ρ k).ownBlock))
    (hend : ∀ ρ w, Below W0.heap.size W0 w → (∀ k, k < m → k ∈ js → (∀ j, j < m → ka j ≠ some k) → R k (ρ k) w) → wpAny P md ops Q' g (upto ops m) (pv ops a0 (ful js vl ρ) m) w) :
    ∀ (c : Nat) (ls : Array Bool) (ρ : Nat → Value) (w : World), left ls m = c → ls.size = ops.size → (∀ t, m ≤ t → ls.getD t false = false) → HeadInv md ops m ls → Rok ops W0 m js ka R ls ρ w → wpAny P md ops Q' (c + g) ls (pv ops a0 (prt ls js vl ρ) m) w := by
  intro c
  induction c with
  | zero =>
    intro ls ρ w hc hsz htl _ hs
    have hall := left_none hc
    obtain rfl := upto_of hsz hall htl
    rw [Nat.zero_add, pv_congr (g := ful js vl ρ) fun i hi => by unfold prt; rw [if_pos (hall i hi)]]
    exact hend ρ w hs.bel fun k hk hkj hne => hs.row k hk hkj (hall k hk) fun j hj e => absurd e (hne j hj)
  | succ c ih =>
    intro ls ρ w hc hsz htl inv hs
    have notail : ∀ i ∈ Region.ready md ops ls, i < m := fun i hi => by
      obtain ⟨i0, hi0, hu0⟩ := left_some (ls := ls) (m := m) (by omega)
      rcases Nat.lt_or_ge i m with h | h
      · exact h
      · exact absurd hi (tail_waits hsink hchain hmo inv _ i0 rfl hi0 (getD_in (by omega) hu0) i h)
    have hex : ∃ i, i < m ∧ ls.getD i false = false ∧ ∀ k, k < i → ls.getD k false = true := by
      obtain ⟨i0, hi0, hu0⟩ := left_some (ls := ls) (m := m) (by omega)
      clear ih
      induction i0 using Nat.strongRecOn with
      | _ i0 ih2 =>
        by_cases hk : ∀ k, k < i0 → ls.getD k false = true
        · exact ⟨i0, hi0, hu0, hk⟩
        · obtain ⟨k, hk⟩ := Classical.not_forall.1 hk
          obtain ⟨hk1, hk2⟩ := Classical.not_imp.1 hk
          exact ih2 k hk1 (by omega) (by simpa using hk2)
    rw [show c + 1 + g = (c + g) + 1 by omega]
    refine ⟨fun hnil => ?_, fun i hi => ?_⟩
    · exfalso
      obtain ⟨i, hi, hu, hlo⟩ := hex
      obtain ⟨o, ho⟩ := depB_some hD hi
      have : i ∈ Region.ready md ops ls := mem_ready.2 ⟨getD_in (by omega) hu, o, ho, fun e he hb => hlo _ (depB_on hD hi ho e he hb)⟩
      rw [hnil] at this
      cases this
    · have him := notail i hi
      obtain ⟨hun, o, ho, hall⟩ := mem_ready.1 hi
      have hu := getD_both hun
      have hszi : i < ls.size := by omega
      have hc' : left (ls.setIfInBounds i true) m = c := by have := left_set hszi hu him; omega
      have hself : (ls.setIfInBounds i true).getD i false = true := getD_set_self hszi false
      have hother : ∀ k, k ≠ i → (ls.setIfInBounds i true).getD k false = ls.getD k false := fun k hk => getD_set_ne false (Ne.symm hk)
      have hdi : dstOf ops i = o.dst := by unfold dstOf; rw [ho]; rfl
      have hpn : prt ls js vl ρ i = none := by unfold prt; rw [if_neg (by rw [hu]; simp)]
      have same := pv_same (a := a0) (f := prt ls js vl ρ) (g := ful js vl ρ) (m := m) (Region.noSelect_spec hsel i o · · ho) (fun k hk d hd hl => by
        rcases (depB_pair hD him ho hk hd).1 with h | h
        · unfold prt; rw [if_pos (waits_listed h ho hall)]
        · exact absurd hl h)
      have step : ∀ ρ' u, (∀ k, k ≠ i → ρ' k = ρ k) → (if js.contains i then ρ' i else vl i) = u → (pv ops a0 (prt ls js vl ρ) m).put o.dst u = pv ops a0 (prt (ls.setIfInBounds i true) js vl ρ') m := fun ρ' u hk hu' => by
        rw [← hdi, ← pv_put (depB_dist hD) him hpn]
        refine pv_congr fun k _ => ?_
        by_cases e : k = i
        · subst e
          rw [upd_self]; unfold prt ful; rw [if_pos hself, hu']
        · rw [upd_ne _ _ e]; unfold prt ful; rw [hother k e, hk k e]
      unfold wpOp
      rw [ho]
      simp only [same.2]
      by_cases hij : i ∈ js
      · -- a row
        have free : ∀ k, k < m → k ∈ js → Region.waitsFor md ops i k = true → ∀ j, j < m → ka j = some k → ls.getD j false = false := fun k _ _ hw j hj e => by
          have := (hka j k hj e).2.2.2.2 i him hw
          subst this; exact hu
        obtain ⟨hw, v, w', hrun, hRv, hg, hfr⟩ := hrow i o him hij ho ρ w hs.bel (fun k hk hkj hwk => hs.row k hk hkj (waits_listed hwk ho hall) (free k hk hkj hwk))
          (fun k l hk hl hkj hlj hkl hwk hwl => hs.two k l hk hl hkj hlj hkl (waits_listed hwk ho hall) (waits_listed hwl ho hall) (free k hk hkj hwk) (free l hl hlj hwl))
        rw [if_pos hw]
        refine .inl ?_
        unfold Oper.wp
        rw [same.1, hrun]
        simp only [Oper.upon]
        have hst := step (fun k => if k = i then v else ρ k) v (fun k hk => if_neg hk) (by rw [if_pos (by simpa using hij), if_pos rfl])
        rw [hst]
        -- which block is taken over
        have hown : ∀ k, k < m → k ∈ js → k ≠ i → ls.getD k false = true → (∀ j, j < m → ka j = some k → (ls.setIfInBounds i true).getD j false = false) → ∀ q, (ρ k).ownBlock = some q → ((ka i).bind fun k => (ρ k).ownBlock) ≠ some q := fun k hk hkj hki hlk hfk q hq e => by
          cases hkai : ka i with
          | none => rw [hkai] at e; cases e
          | some k0 =>
            rw [hkai] at e
            have hk0 := hka i k0 him hkai
            have hne : k ≠ k0 := fun x => by
              subst x
              have := hfk i him hkai
              rw [hself] at this; cases this
            refine hs.two k k0 hk hk0.2.2.1 hkj hk0.2.1 hne hlk (waits_listed hk0.2.2.2.1 ho hall) (fun j hj ej => ?_) (free k0 hk0.2.2.1 hk0.2.1 hk0.2.2.2.1) q hq e
            by_cases x : j = i
            · subst x; exact hu
            · have := hfk j hj ej; rwa [hother j x] at this
        have old : ∀ k, k < m → k ∈ js → k ≠ i → (ls.setIfInBounds i true).getD k false = true → (∀ j, j < m → ka j = some k → (ls.setIfInBounds i true).getD j false = false) → R k (ρ k) w := fun k hk hkj hki hlk hfk => by
          rw [hother k hki] at hlk
          refine hs.row k hk hkj hlk fun j hj ej => ?_
          by_cases x : j = i
          · subst x; exact hu
          · have := hfk j hj ej; rwa [hother j x] at this
        refine ih _ _ w' hc' (by simp [hsz]) (fun t ht => by rw [hother t (by omega)]; exact htl t ht) (inv.set hi him) ⟨?_, fun k hk hkj hlk hfk => ?_, fun k l hk hl hkj hlj hkl hlk hll hfk hfl q hq => ?_⟩
        · refine hs.bel.grown hg hs.bel.size fun q hq => ?_
          cases hkai : ka i with
          | none => rw [hkai] at hq; cases hq
          | some k0 =>
            rw [hkai] at hq
            have hk0 := hka i k0 him hkai
            exact (hR.lt k0 (ρ k0) w (hs.row k0 hk0.2.2.1 hk0.2.1 (waits_listed hk0.2.2.2.1 ho hall) (free k0 hk0.2.2.1 hk0.2.1 hk0.2.2.2.1)) q hq).1
        · by_cases e : k = i
          · subst e; rw [if_pos rfl]; exact hRv
          · rw [if_neg e]
            have hRk := old k hk hkj e hlk hfk
            refine hR.keep k _ w w' hRk hg.size fun q hq => hg.block q (hR.lt k _ w hRk q hq).2 fun x => ?_
            rw [hother k e] at hlk
            exact hown k hk hkj e hlk hfk q hq x.symm
        · have key : ∀ k, k < m → k ∈ js → k ≠ i → (ls.setIfInBounds i true).getD k false = true → (∀ j, j < m → ka j = some k → (ls.setIfInBounds i true).getD j false = false) → ∀ q, (ρ k).ownBlock = some q → v.ownBlock ≠ some q := fun k hk hkj hki hlk hfk q hq hv => by
            rcases hfr q hv with x | x
            · rw [hother k hki] at hlk
              exact hown k hk hkj hki hlk hfk q hq x
            · have := (hR.lt k _ w (old k hk hkj hki hlk hfk) q hq).2
              omega
          by_cases e1 : k = i
          · have e2 : l ≠ i := fun x => hkl (e1.trans x.symm)
            rw [if_pos e1] at hq
            rw [if_neg e2]
            exact fun x => key l hl hlj e2 hll hfl q x hq
          · rw [if_neg e1] at hq
            by_cases e2 : l = i
            · rw [if_pos e2]; exact key k hk hkj e1 hlk hfk q hq
            · rw [if_neg e2]
              have f : ∀ k, (∀ j, j < m → ka j = some k → (ls.setIfInBounds i true).getD j false = false) → ∀ j, j < m → ka j = some k → ls.getD j false = false := fun k hfk j hj ej => by
                by_cases x : j = i
                · subst x; exact hu
                · have := hfk j hj ej; rwa [hother j x] at this
              rw [hother k e1] at hlk
              rw [hother l e2] at hll
              exact hs.two k l hk hl hkj hlj hkl hlk hll (f k hfk) (f l hfl) q hq
      · -- a calm one
        have hst := step ρ (vl i) (fun _ _ => rfl) (by rw [if_neg (by simpa using hij)])
        have hka' : ∀ k, ka i = some k → False := fun k e => hij (hka i k him e).1
        have f : ∀ k, (∀ j, j < m → ka j = some k → (ls.setIfInBounds i true).getD j false = false) → ∀ j, j < m → ka j = some k → ls.getD j false = false := fun k hfk j hj ej => by
          by_cases x : j = i
          · subst x; exact hu
          · have := hfk j hj ej; rwa [hother j x] at this
        have go : ∀ w2, Below w.heap.size w w2 → wpAny P md ops Q' (c + g) (ls.setIfInBounds i true) ((pv ops a0 (prt ls js vl ρ) m).put o.dst (vl i)) w2 := fun w2 hb => by
          rw [hst]
          refine ih _ ρ w2 hc' (by simp [hsz]) (fun t ht => by rw [hother t (by omega)]; exact htl t ht) (inv.set hi him) ⟨below_class hs.bel hb, fun k hk hkj hlk hfk => ?_, fun k l hk hl hkj hlj hkl hlk hll hfk hfl q hq => ?_⟩
          · have e : k ≠ i := fun x => hij (x ▸ hkj)
            rw [hother k e] at hlk
            have hRk := hs.row k hk hkj hlk (f k hfk)
            exact hR.keep k _ w w2 hRk hb.size fun q hq => hb.block q (hR.lt k _ w hRk q hq).2
          · have e1 : k ≠ i := fun x => hij (x ▸ hkj)
            have e2 : l ≠ i := fun x => hij (x ▸ hlj)
            rw [hother k e1] at hlk
            rw [hother l e2] at hll
            exact hs.two k l hk hl hkj hlj hkl hlk hll (f k hfk) (f l hfl) q hq
        rcases hcalm i o him hij ho ρ with ⟨hw, hq⟩ | ⟨hw, hv⟩
        · rw [if_pos hw]
          refine .inl (wp_of_calm (v := vl i) ?_ go)
          have := hq w hs.bel
          unfold Oper.quietAt at *
          rwa [same.1]
        · rw [if_neg (by rw [hw]; simp), ← hv]
          exact go w (Below.refl _ _)
end

/-! ### the law -/
section
variable {P : Program} {ops : Array Oper} {W0 : World}
/-- values that are put one behind the other -/
def pl (ops : Array Oper) (vl : Nat → Value) (a : Act) (hs : List Nat) : Act := hs.foldl (fun a i => a.put (dstOf ops i) (vl i)) a
theorem pl_congr {vl vl' : Nat → Value} : ∀ {hs : List Nat} {a : Act}, (∀ i ∈ hs, vl i = vl' i) → pl ops vl a hs = pl ops vl' a hs
  | [], _, _ => rfl
  | i :: hs, a, h => by
    show pl ops vl (a.put (dstOf ops i) (vl i)) hs = pl ops vl' (a.put (dstOf ops i) (vl' i)) hs
    rw [h i (by simp), pl_congr fun k hk => h k (by simp [hk])]
theorem pl_pv {vl : Nat → Value} {a : Act} {m : Nat} (hd : Dist ops m) : ∀ {hs : List Nat} {f : Nat → Option Value}, hs.Nodup → (∀ i ∈ hs, i < m ∧ f i = none) → pl ops vl (pv ops a f m) hs = pv ops a (fun i => if hs.contains i then some (vl i) else f i) m
  | [], f, _, _ => pv_congr fun i _ => by simp
  | i :: hs, f, hn, h => by
    obtain ⟨h1, h2⟩ := List.nodup_cons.1 hn
    show pl ops vl ((pv ops a f m).put (dstOf ops i) (vl i)) hs = _
    have hne : ∀ k, k ∈ hs → k ≠ i := fun k hk e => by subst e; exact h1 hk
    rw [← pv_put hd (h i (by simp)).1 (h i (by simp)).2, pl_pv hd h2 fun k hk => ⟨(h k (by simp [hk])).1, by rw [upd_ne _ _ (hne k hk)]; exact (h k (by simp [hk])).2⟩]
    refine pv_congr fun k _ => ?_
    by_cases e : k = i
    · subst e
      rw [if_neg (by simpa using h1), upd_self, if_pos (by simp)]
    · rw [upd_ne _ _ e]
      by_cases hk : k ∈ hs
      · rw [if_pos (by simpa using hk), if_pos (by simp [hk])]
      · rw [if_neg (by simpa using hk), if_neg (by simp [hk, e])]
theorem calm_vals {Q : Act → Prop} : ∀ (hs : List Nat) (a : Act), hs.Nodup → (∀ i ∈ hs, ∃ o, ops[i]? = some o) → wpCalm P ops W0 Q (hs.filterMap fun i => ops[i]?) a →
    ∃ vl : Nat → Value, Q (pl ops vl a hs) ∧ ∀ pre i post o, hs = pre ++ i :: post → ops[i]? = some o → Calm P ops W0 o (vl i) (pl ops vl a pre)
  | [], a, _, _, h => ⟨fun _ => undef, h, fun pre i post o e => by simp at e⟩
  | i :: hs, a, hn, hex, h => by
    obtain ⟨h1, h2⟩ := List.nodup_cons.1 hn
    obtain ⟨o, ho⟩ := hex i (by simp)
    rw [List.filterMap_cons, ho] at h
    obtain ⟨v, hy, hK⟩ := wpCalm_cons h
    have hdi : dstOf ops i = o.dst := by unfold dstOf; rw [ho]; rfl
    obtain ⟨vl, hQ, hc⟩ := calm_vals hs (a.put o.dst v) h2 (fun k hk => hex k (by simp [hk])) hK
    have hne : ∀ k, k ∈ hs → k ≠ i := fun k hk e => by subst e; exact h1 hk
    have heq : ∀ k ∈ hs, (fun k => if k = i then v else vl k) k = vl k := fun k hk => if_neg (hne k hk)
    refine ⟨fun k => if k = i then v else vl k, ?_, fun pre j post oj e hoj => ?_⟩
    · show Q (pl ops _ (a.put (dstOf ops i) (if i = i then v else vl i)) hs)
      rw [if_pos rfl, hdi, pl_congr heq]; exact hQ
    · cases pre with
      | nil =>
        simp only [List.nil_append, List.cons.injEq] at e
        obtain ⟨rfl, _⟩ := e
        obtain rfl : o = oj := Option.some.inj (ho.symm.trans hoj)
        show Calm P ops W0 o (if i = i then v else vl i) a
        rw [if_pos rfl]; exact hy
      | cons x pre =>
        simp only [List.cons_append, List.cons.injEq] at e
        obtain ⟨rfl, e⟩ := e
        have hj : j ∈ hs := by rw [e]; simp
        have := hc pre j post oj e hoj
        show Calm P ops W0 oj (if j = i then v else vl j) (pl ops _ (a.put (dstOf ops i) (if i = i then v else vl i)) pre)
        rw [if_pos rfl, hdi, if_neg (hne j hj), pl_congr fun k hk => heq k (by rw [e]; simp [hk])]
        exact this
/-- the calm operations of the first n -/
def calmL (js : List Nat) : Nat → Nat → List Oper → List Oper
  | _, 0, _ => []
  | _, _, [] => []
  | i, n + 1, o :: l => if js.contains i then calmL js (i + 1) n l else o :: calmL js (i + 1) n l
theorem calmL_eq (js : List Nat) : ∀ (l : List Oper) (pre : List Oper) (n : Nat), n ≤ l.length → calmL js pre.length n l = (((List.range' pre.length n).filter fun i => !js.contains i).filterMap fun i => (pre ++ l)[i]?)
  | _, pre, 0, _ => by simp [calmL]
  | [], pre, n + 1, h => by simp at h
  | o :: l, pre, n + 1, h => by
    have ih := calmL_eq js l (pre ++ [o]) n (by simpa using h)
    rw [List.length_append, List.length_singleton, List.append_assoc, List.singleton_append] at ih
    rw [calmL, List.range'_succ, List.filter_cons]
    by_cases hj : js.contains pre.length = true
    · rw [if_pos hj, if_neg (by rw [hj]; simp)]; exact ih
    · rw [if_neg hj, if_pos (by simpa using hj), List.filterMap_cons]
      have e : (pre ++ o :: l)[pre.length]? = some o := by simp
      rw [e, ih]
/-- who takes which row over -/
def kaOf (kl : List (Nat × Nat)) (i : Nat) : Option Nat := (kl.find? fun p => p.1 == i).map (·.2)
/-- what is asked of the region's text -/
def rowsB (md : Region.Mode) (ops : Array Oper) (m : Nat) (js : List Nat) (kl : List (Nat × Nat)) : Bool :=
  Region.noSelect ops && depB md ops m && decide (m < ops.size) && Region.sinkB md ops m && Region.chainB md ops m && Region.seqB md ops (ops.size - m) m (upto ops m) && decide js.Nodup && js.all (fun j => decide (j < m)) &&
  kl.all (fun p => js.contains p.1 && js.contains p.2 && Region.waitsFor md ops p.1 p.2 && (List.range m).all fun i => decide (i = p.1) || !Region.waitsFor md ops i p.2) &&
  (List.range m).all fun i => js.contains i || js.all fun j => !Region.waitsFor md ops i j
end
/-- the rows' values are put in -/
def rwv (l : List Oper) (js : List Nat) (ρ : Nat → Value) (a : Act) : Act := pl l.toArray ρ a js

theorem wp_region_rows {P : Program} {id : Nat} {Q : Exit → Act → World → Prop} {a : Act} {w : World} {l : List Oper} (m : Nat) (js : List Nat) (kl : List (Nat × Nat)) (R : Nat → Value → World → Prop) (hm : P.follows .mixedOrders = true) (hB : rowsB .any l.toArray m js kl = true) (hR : RowsOk w.drew R)
    (h : wpCalm P l.toArray w.drew (fun a' =>
      (∀ i o, i ∈ js → l[i]? = some o → ∀ ρ w', Below w.drew.heap.size w.drew w' → (∀ k, k ∈ js → Region.waitsFor .any l.toArray i k = true → R k (ρ k) w') →
        (∀ k k', k ∈ js → k' ∈ js → k ≠ k' → Region.waitsFor .any l.toArray i k = true → Region.waitsFor .any l.toArray i k' = true → ∀ g, (ρ k).ownBlock = some g → (ρ k').ownBlock ≠ some g) →
        RowDo P l.toArray o (rwv l js ρ a') w' (R i) ((kaOf kl i).bind fun k => (ρ k).ownBlock)) ∧
      ∀ ρ w', Below w.drew.heap.size w.drew w' → (∀ k, k ∈ js → (kl.all fun p => p.2 != k) = true → R k (ρ k) w') → wpList P l.toArray Q (l.drop m) (rwv l js ρ a') w') (calmL js 0 m l) a) :
    (Code.region id l.toArray true).wp P Q a w := by
  simp only [rowsB, Bool.and_eq_true, decide_eq_true_eq] at hB
  obtain ⟨⟨⟨⟨⟨⟨⟨⟨⟨hsel, hD⟩, hmo⟩, hsink⟩, hchain⟩, hseq⟩, hnd⟩, hjm⟩, hkl⟩, hcj⟩ := hB
  have hmo' : m < l.length := by simpa using hmo
  have hdl : (l.drop m).length = l.toArray.size - m := by simp
  have hjm' : ∀ j ∈ js, j < m := fun j hj => by simpa using List.all_eq_true.1 hjm j hj
  have hdist := depB_dist hD
  have e0 := calmL_eq js l [] m (by omega)
  simp only [List.length_nil, List.nil_append] at e0
  rw [e0] at h
  have hget : ∀ i : Nat, l[i]? = l.toArray[i]? := fun i => by simp
  have hfm : (((List.range' 0 m).filter fun i => !js.contains i).filterMap fun i => l[i]?) = (((List.range' 0 m).filter fun i => !js.contains i).filterMap fun i => l.toArray[i]?) := by
    congr 1
    funext i
    exact hget i
  rw [hfm] at h
  have hsn : ((List.range' 0 m).filter fun i => !js.contains i).Nodup := (List.nodup_range' ..).filter _
  have hslt : ((List.range' 0 m).filter fun i => !js.contains i).Pairwise (· < ·) := (List.pairwise_lt_range' ..).filter _
  have hsm : ∀ i, i ∈ ((List.range' 0 m).filter fun i => !js.contains i) ↔ i < m ∧ i ∉ js := fun i => by
    rw [List.mem_filter, List.mem_range'_1]
    simp
  obtain ⟨vl, hQ, hc⟩ := calm_vals _ a hsn (fun i hi => depB_some hD ((hsm i).1 hi).1) h
  have hka : ∀ i k, i < m → kaOf kl i = some k → i ∈ js ∧ k ∈ js ∧ k < m ∧ Region.waitsFor .any l.toArray i k = true ∧ ∀ j, j < m → Region.waitsFor .any l.toArray j k = true → j = i := fun i k _ e => by
    unfold kaOf at e
    obtain ⟨p, hp, rfl⟩ := Option.map_eq_some_iff.1 e
    have hpm := List.mem_of_find?_eq_some hp
    have hpi : p.1 = i := by simpa using List.find?_some hp
    have := List.all_eq_true.1 hkl p hpm
    simp only [Bool.and_eq_true, List.all_eq_true, List.mem_range, Bool.or_eq_true, decide_eq_true_eq, Bool.not_eq_true'] at this
    obtain ⟨⟨⟨a1, a2⟩, a3⟩, a4⟩ := this
    rw [hpi] at a1 a3 a4
    have a2' : p.2 ∈ js := by simpa using a2
    refine ⟨by simpa using a1, a2', hjm' _ a2', a3, fun j hj hw => ?_⟩
    rcases a4 j hj with x | x
    · exact x
    · rw [hw] at x; cases x
  -- the frames
  have hpl : ∀ pre, (∀ i ∈ pre, i < m) → pre.Nodup → pl l.toArray vl a pre = pv l.toArray a (fun i => if pre.contains i then some (vl i) else none) m := fun pre h1 h2 => by
    have := pl_pv (vl := vl) (a := a) hdist (f := fun _ => none) h2 fun i hi => ⟨h1 i hi, rfl⟩
    rwa [show pv l.toArray a (fun _ => none) m = a from by
      have : ∀ k, pv l.toArray a (fun _ => none) k = a := fun k => by
        induction k with
        | zero => rfl
        | succ k ih => unfold pv; exact ih
      exact this m] at this
  have hful : ∀ ρ, rwv l js ρ (pl l.toArray vl a ((List.range' 0 m).filter fun i => !js.contains i)) = pv l.toArray a (ful js vl ρ) m := fun ρ => by
    unfold rwv
    rw [hpl _ (fun i hi => ((hsm i).1 hi).1) hsn, pl_pv hdist hnd fun i hi => ⟨hjm' i hi, if_neg (by intro hh; exact ((hsm i).1 (by simpa using hh)).2 hi)⟩]
    refine pv_congr fun i hi => ?_
    unfold ful
    by_cases hj : i ∈ js
    · rw [if_pos (List.contains_iff_mem.2 hj), if_pos (List.contains_iff_mem.2 hj)]
    · rw [if_neg (fun x => hj (List.contains_iff_mem.1 x)), if_neg (fun x => hj (List.contains_iff_mem.1 x)), if_pos (List.contains_iff_mem.2 ((hsm i).2 ⟨hi, hj⟩))]
  refine wp_region_any hm ?_
  have inv0 : HeadInv .any l.toArray m (Array.replicate l.toArray.size false) :=
    ⟨by simp, fun j oj _ hl => (by rw [getD_replicate_false] at hl; cases hl), fun t _ ht => getD_in (by simpa using ht) (getD_replicate_false _ _)⟩
  have hl0 : left (Array.replicate l.toArray.size false) m = m := by
    have : ∀ k, left (Array.replicate l.toArray.size false) k = k := fun k => by
      induction k with
      | zero => rfl
      | succ k ih => unfold left; rw [ih, getD_replicate_false]; simp
    exact this m
  have := any_rows (md := .any) (P := P) (W0 := w.drew) (Q' := Q) (g := l.toArray.size - m) (js := js) (ka := kaOf kl) (R := R) vl a hsel hD hmo hsink hchain hka hR
    (fun i o hi hij ho ρ => by
      have him : i ∈ ((List.range' 0 m).filter fun i => !js.contains i) := (hsm i).2 ⟨hi, hij⟩
      obtain ⟨pre, post, e⟩ := List.append_of_mem him
      have hC := hc pre i post o e ho
      have hpn : pre.Nodup := by rw [e] at hsn; exact (List.nodup_append.1 hsn).1
      have hpm : ∀ k ∈ pre, k < m := fun k hk => ((hsm k).1 (by rw [e]; simp [hk])).1
      rw [hpl pre hpm hpn] at hC
      have sm := pv_same (a := a) (f := ful js vl ρ) (g := fun i => if pre.contains i then some (vl i) else none) (m := m) (Region.noSelect_spec hsel i o · · ho) (fun k hk d hd hl => by
        rcases (depB_pair hD hi ho hk hd).1 with hw | hw
        · obtain ⟨o', ho', ee, he, hb, hon⟩ := Region.waitsFor_spec hw
          obtain rfl : o' = o := Option.some.inj (ho'.symm.trans ho)
          have hki : k < i := by rw [← hon]; exact depB_on hD hi ho ee he hb
          have hkj : k ∉ js := fun hkj => by
            have := List.all_eq_true.1 hcj i (List.mem_range.2 hi)
            simp only [Bool.or_eq_true] at this
            rcases this with x | x
            · exact hij (by simpa using x)
            · have := List.all_eq_true.1 x k hkj
              rw [hw] at this; cases this
          have hkh : k ∈ ((List.range' 0 m).filter fun i => !js.contains i) := (hsm k).2 ⟨hk, hkj⟩
          rw [e] at hkh hslt
          have hkp : k ∈ pre := by
            rcases List.mem_append.1 hkh with x | x
            · exact x
            · rcases List.mem_cons.1 x with x | x
              · omega
              · have := (List.pairwise_cons.1 (List.pairwise_append.1 hslt).2.1).1 k x
                omega
          unfold ful
          rw [if_neg (by simpa using hkj), if_pos (by simpa using hkp)]
        · exact absurd hl hw)
      exact hC.same sm.1 sm.2)
    (fun i o hi hij ho ρ w' hb h1 h2 => by
      rw [← hful ρ]
      exact hQ.1 i o hij (by rw [hget]; exact ho) ρ w' hb (fun k hk hw => h1 k (hjm' k hk) hk hw) (fun k k' hk hk' hne hw hw' => h2 k k' (hjm' k hk) (hjm' k' hk') hk hk' hne hw hw'))
    (fun ρ w' hb h1 => by
      have := wpAny_of_seq (md := .any) (Q' := Q) (l.drop m) m (upto l.toArray m) (rwv l js ρ (pl l.toArray vl a ((List.range' 0 m).filter fun i => !js.contains i))) w' (fun j => by simp [List.getElem?_drop]) (by rw [hdl]; exact hseq) (hQ.2 ρ w' hb fun k hk hu => h1 k (hjm' k hk) hk fun j hj e => by
        unfold kaOf at e
        obtain ⟨p, hp, e2⟩ := Option.map_eq_some_iff.1 e
        have := List.all_eq_true.1 hu p (List.mem_of_find?_eq_some hp)
        simp [e2] at this)
      rw [hdl, hful ρ] at this
      exact this)
    m (Array.replicate l.toArray.size false) (fun _ => undef) w.drew hl0 (by simp) (fun t _ => getD_replicate_false _ _) inv0
    ⟨Below.refl _ _, fun k _ _ hk => (by rw [getD_replicate_false] at hk; cases hk), fun k _ _ _ _ _ _ hk => (by rw [getD_replicate_false] at hk; cases hk)⟩
  rw [show m + (l.toArray.size - m) = l.toArray.size by omega, show pv l.toArray a (prt (Array.replicate l.toArray.size false) js vl fun _ => undef) m = a from by
    have : ∀ k, pv l.toArray a (prt (Array.replicate l.toArray.size false) js vl fun _ => undef) k = a := fun k => by
      induction k with
      | zero => rfl
      | succ k ih =>
        unfold pv
        rw [show prt (Array.replicate l.toArray.size false) js vl (fun _ => undef) k = none from by unfold prt; rw [if_neg (by rw [getD_replicate_false]; simp)]]
        exact ih
    exact this m] at this
  exact this

end Go.Proofs.Ytkcppidmbojglaf
