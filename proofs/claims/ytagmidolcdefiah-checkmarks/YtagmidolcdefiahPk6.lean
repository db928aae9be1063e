/- Several texts in one, each with its own head. -/
import Derived.Test.YtagmidolcdefiahPk3
import Derived.Test.YtagmidolcdefiahPk5
/-
  A REGION THAT DRAWS ITS ORDER AND MAKES ROWS ('append(append([]T{}, x...), y)'): some operations read and call (calm ones: each leaves one value, whatever the order), others make rows, or take one over and put more behind it: where a row lies hangs on the order, what it holds does not.
  ONE walk of the calm ones, in lexical order, and one sentence for each row, serve all orders.
  No program is named here.
-/
namespace Go.Proofs.Ytagmidolcdefiah
open Go.RowKit
section
variable {P : Program} {ops : Array Oper} {md : Region.Mode} {W0 : World}
/-! ### values that are there, over a frame -/
def pv (ops : Array Oper) (a : Act) (f : Nat → Option Value) : Nat → Act
  | 0 => a
  | m + 1 => match f m with
    | none => pv ops a f m
    | some v => (pv ops a f m).put (dstOf ops m) v
def upd (f : Nat → Option Value) (i : Nat) (v : Value) : Nat → Option Value := fun j => if j = i then some v else f j
theorem upd_self (f : Nat → Option Value) (i : Nat) (v : Value) : upd f i v i = some v := if_pos rfl
theorem upd_ne (f : Nat → Option Value) {i j : Nat} (v : Value) (h : j ≠ i) : upd f i v j = f j := if_neg h
theorem pv_congr {a : Act} {f g : Nat → Option Value} : ∀ {m : Nat}, (∀ i, i < m → f i = g i) → pv ops a f m = pv ops a g m
  | 0, _ => rfl
  | m + 1, h => by
    unfold pv
    rw [h m (by omega), pv_congr fun i hi => h i (by omega)]
/-- each operation has a place of its own -/
def Dist (ops : Array Oper) (m : Nat) : Prop := ∀ i j, i < m → j < m → i ≠ j → ∀ d, dstOf ops i = some d → dstOf ops j ≠ some d
theorem pv_put {a : Act} {f : Nat → Option Value} {i : Nat} {v : Value} : ∀ {m : Nat}, Dist ops m → i < m → f i = none → pv ops a (upd f i v) m = (pv ops a f m).put (dstOf ops i) v
  | 0, _, hi, _ => by omega
  | m + 1, hd, hi, hf => by
    by_cases e : i = m
    · subst e
      unfold pv
      rw [upd_self, hf]
      simp only
      rw [pv_congr (g := f) fun j hj => upd_ne f v (by omega)]
    · have ih := pv_put (a := a) (v := v) (m := m) (fun i j hi hj => hd i j (by omega) (by omega)) (by omega) hf
      unfold pv
      rw [upd_ne f v (Ne.symm e)]
      cases f m with
      | none => exact ih
      | some u =>
        simp only
        rw [ih, Act.put_comm _ _ _ (hd i m (by omega) (by omega) e)]
theorem put_size (a : Act) (d : Option Tmp) (v : Value) : (a.put d v).tmps.size = a.tmps.size := by cases d <;> simp [Act.put]
theorem pv_size {a : Act} {f : Nat → Option Value} : ∀ {m : Nat}, (pv ops a f m).tmps.size = a.tmps.size
  | 0 => rfl
  | m + 1 => by
    unfold pv
    cases f m with
    | none => exact pv_size
    | some u => simp only; rw [put_size]; exact pv_size
theorem put_get_ne {a : Act} {d : Option Tmp} {v : Value} {t : Nat} (h : d ≠ some t) : (a.put d v).tmps[t]? = a.tmps[t]? := by
  cases d with
  | none => rfl
  | some e =>
    have hne : e ≠ t := fun x => h (by rw [x])
    simp [Act.put, Array.getElem?_setIfInBounds_ne hne]
theorem pv_get {a : Act} {f g : Nat → Option Value} {t : Nat} : ∀ {m : Nat}, (∀ i, i < m → dstOf ops i = some t → f i = g i) → (pv ops a f m).tmps[t]? = (pv ops a g m).tmps[t]?
  | 0, _ => rfl
  | m + 1, h => by
    have ih := pv_get (a := a) (m := m) fun i hi => h i (by omega)
    unfold pv
    by_cases e : dstOf ops m = some t
    · rw [← h m (by omega) e]
      cases f m with
      | none => exact ih
      | some u =>
        simp only
        rw [e]
        simp [Act.put, Array.getElem?_setIfInBounds, pv_size]
    · cases f m with
      | none =>
        cases g m with
        | none => exact ih
        | some u => simp only; rw [put_get_ne e]; exact ih
      | some v =>
        cases g m with
        | none => simp only; rw [put_get_ne e]; exact ih
        | some u => simp only; rw [put_get_ne e, put_get_ne e]; exact ih
theorem pv_same {a : Act} {f g : Nat → Option Value} {m : Nat} {o : Oper} (hs : ∀ cs b, o.op ≠ .select cs b) (h : ∀ i, i < m → ∀ d, dstOf ops i = some d → d ∈ o.looksAt ops → f i = g i) :
    execOp (pv ops a f m).eval o = execOp (pv ops a g m).eval o ∧ Region.wanted o (yielded ops (pv ops a f m).tmps) = Region.wanted o (yielded ops (pv ops a g m).tmps) := by
  constructor
  · refine execOp_congr o hs fun x hx => ?_
    cases x with
    | tmp t =>
      have ht : t ∈ o.looksAt ops := List.mem_append_left _ (List.mem_filterMap.2 ⟨.tmp t, by simpa using hx, rfl⟩)
      have := pv_get (a := a) (m := m) fun i hi hd => h i hi t hd ht
      simp only [Act.eval, Array.getD_eq_getD_getElem?, this]
    | _ => rfl
  · unfold Region.wanted
    cases hg : o.guard with
    | none => rfl
    | some gw =>
      obtain ⟨k, want⟩ := gw
      have hy : yielded ops (pv ops a f m).tmps k = yielded ops (pv ops a g m).tmps k := by
        unfold yielded
        cases ht : (ops[k]?).bind (·.dst) with
        | none => rfl
        | some t =>
          have := pv_get (a := a) (m := m) fun i hi hd => h i hi t hd (by simp [Oper.looksAt, hg, ht])
          simp only [Option.bind_some, this]
      simp only [hy]
/-! ### what is asked of the region's text -/
/-- what an operation looks at it waits for; each has its own place; the lexical order is one of the orders -/
def depB (md : Region.Mode) (ops : Array Oper) (m : Nat) : Bool :=
  (List.range m).all fun i => match ops[i]? with
    | none => false
    | some oi => (oi.after.all fun e => !Region.binds md e || decide (e.on < i)) && (List.range m).all fun k => match ops[k]? with
      | none => false
      | some ok => match ok.dst with
        | none => true
        | some d => (Region.waitsFor md ops i k || !(oi.looksAt ops).contains d) && (decide (k = i) || oi.dst != some d)
section
variable {m : Nat}
theorem depB_some (h : depB md ops m = true) {i : Nat} (hi : i < m) : ∃ o, ops[i]? = some o := by
  have h1 := List.all_eq_true.1 h i (List.mem_range.2 hi)
  cases ho : ops[i]? with
  | none => simp [ho] at h1
  | some o => exact ⟨o, rfl⟩
theorem depB_on (h : depB md ops m = true) {i : Nat} {oi : Oper} (hi : i < m) (ho : ops[i]? = some oi) : ∀ e ∈ oi.after, Region.binds md e = true → e.on < i := fun e he hb => by
  have h1 := List.all_eq_true.1 h i (List.mem_range.2 hi)
  simp only [ho, Bool.and_eq_true] at h1
  have h2 := Array.all_eq_true_iff_forall_mem.1 h1.1 e he
  simpa [hb] using h2
theorem depB_pair (h : depB md ops m = true) {i k : Nat} {oi : Oper} {d : Tmp} (hi : i < m) (ho : ops[i]? = some oi) (hk : k < m) (hd : dstOf ops k = some d) : (Region.waitsFor md ops i k = true ∨ d ∉ oi.looksAt ops) ∧ (k = i ∨ oi.dst ≠ some d) := by
  have h1 := List.all_eq_true.1 h i (List.mem_range.2 hi)
  simp only [ho, Bool.and_eq_true] at h1
  have h2 := List.all_eq_true.1 h1.2 k (List.mem_range.2 hk)
  obtain ⟨ok, hok⟩ := depB_some h hk
  have e : ok.dst = some d := by unfold dstOf at hd; rwa [hok] at hd
  simp only [hok, e, Bool.and_eq_true, Bool.or_eq_true, decide_eq_true_eq, Bool.not_eq_true'] at h2
  refine ⟨?_, ?_⟩
  · rcases h2.1 with h3 | h3
    · exact .inl h3
    · exact .inr (by simpa using h3)
  · rcases h2.2 with h3 | h3
    · exact .inl h3
    · exact .inr (by simpa using h3)
theorem depB_dist (h : depB md ops m = true) : Dist ops m := fun i j hi hj hij d hd hd' => by
  obtain ⟨oj, hoj⟩ := depB_some h hj
  have := (depB_pair h hj hoj hi hd).2
  rcases this with e | e
  · exact hij e
  · exact e (by unfold dstOf at hd'; rwa [hoj] at hd')
end
theorem waits_listed {i k : Nat} {oi : Oper} {ls : Array Bool} (hw : Region.waitsFor md ops i k = true) (ho : ops[i]? = some oi) (hall : ∀ e ∈ oi.after, Region.binds md e = true → ls.getD e.on false = true) : ls.getD k false = true := by
  obtain ⟨o', ho', e, he, hb, hon⟩ := Region.waitsFor_spec hw
  obtain rfl : o' = oi := Option.some.inj (ho'.symm.trans ho)
  rw [← hon]; exact hall e he hb
/-! ### the run -/
/-- all values: rows by ρ, the others by vl -/
def ful (js : List Nat) (vl ρ : Nat → Value) : Nat → Option Value := fun i => some (if js.contains i then ρ i else vl i)
def prt (ls : Array Bool) (js : List Nat) (vl ρ : Nat → Value) : Nat → Option Value := fun i => if ls.getD i false = true then ful js vl ρ i else none
/-- what a row's operation does -/
structure RowDo (P : Program) (ops : Array Oper) (o : Oper) (a : Act) (w : World) (R : Value → World → Prop) (own : Option Nat) : Prop where
  want : Region.wanted o (yielded ops a.tmps) = true
  does : ∃ v w', (execOp a.eval o).run P w = .ok (.value v) w' ∧ R v w' ∧ w.grownBy w' own ∧ ∀ g, v.ownBlock = some g → own = some g ∨ w.heap.size ≤ g
/-- rows hang on their own blocks alone -/
structure RowsOk (W0 : World) (R : Nat → Value → World → Prop) : Prop where
  keep : ∀ j v w w', R j v w → w.heap.size ≤ w'.heap.size → (∀ g, v.ownBlock = some g → w'.heap[g]? = w.heap[g]?) → R j v w'
  lt : ∀ j v w, R j v w → ∀ g, v.ownBlock = some g → W0.heap.size ≤ g ∧ g < w.heap.size
/-- the state that is kept -/
structure Rok (ops : Array Oper) (W0 : World) (m : Nat) (js : List Nat) (ka : Nat → Option Nat) (R : Nat → Value → World → Prop) (ls : Array Bool) (ρ : Nat → Value) (w : World) : Prop where
  bel : Below W0.heap.size W0 w
  row : ∀ k, k < m → k ∈ js → ls.getD k false = true → (∀ j, j < m → ka j = some k → ls.getD j false = false) → R k (ρ k) w
  two : ∀ k l, k < m → l < m → k ∈ js → l ∈ js → k ≠ l → ls.getD k false = true → ls.getD l false = true → (∀ j, j < m → ka j = some k → ls.getD j false = false) → (∀ j, j < m → ka j = some l → ls.getD j false = false) → ∀ g, (ρ k).ownBlock = some g → (ρ l).ownBlock ≠ some g
theorem any_rows {Q' : Exit → Act → World → Prop} {m g : Nat} {js : List Nat} {ka : Nat → Option Nat} {R : Nat → Value → World → Prop} (vl : Nat → Value) (a0 : Act) (hsel : Region.noSelect ops = true) (hD : depB md ops m = true) (hmo : m < ops.size)
    (hsink : Region.sinkB md ops m = true) (hchain : Region.chainB md ops m = true)
    (hka : ∀ i k, i < m → ka i = some k → i ∈ js ∧ k ∈ js ∧ k < m ∧ Region.waitsFor md ops i k = true ∧ ∀ j, j < m → Region.waitsFor md ops j k = true → j = i) (hR : RowsOk W0 R)
    (hcalm : ∀ i o, i < m → i ∉ js → ops[i]? = some o → ∀ ρ, Calm P ops W0 o (vl i) (pv ops a0 (ful js vl ρ) m))
    (hrow : ∀ i o, i < m → i ∈ js → ops[i]? = some o → ∀ ρ w, Below W0.heap.size W0 w → (∀ k, k < m → k ∈ js → Region.waitsFor md ops i k = true → R k (ρ k) w) →
      (∀ k l, k < m → l < m → k ∈ js → l ∈ js → k ≠ l → Region.waitsFor md ops i k = true → Region.waitsFor md ops i l = true → ∀ g, (ρ k).ownBlock = some g → (ρ l).ownBlock ≠ some g) →
      RowDo P ops o (pv ops a0 (ful js vl ρ) m) w (R i) ((ka i).bind fun k => (ρ k).ownBlock))
    (hend : ∀ ρ w, Below W0.heap.size W0 w → (∀ k, k < m → k ∈ js → (∀ j, j < m → ka j ≠ some k) → R k (ρ k) w) → wpAny P md ops Q' g (upto ops m) (pv ops a0 (ful js vl ρ) m) w) :
    ∀ (c : Nat) (ls : Array Bool) (ρ : Nat → Value) (w : World), left ls m = c → ls.size = ops.size → (∀ t, m ≤ t → ls.getD t false = false) → HeadInv md ops m ls → Rok ops W0 m js ka R ls ρ w → wpAny P md ops Q' (c + g) ls (pv ops a0 (prt ls js vl ρ) m) w := by
  intro c
  induction c with
  | zero =>
    intro ls ρ w hc hsz htl _ hs
    have hall := left_none hc
    obtain rfl := upto_of hsz hall htl
    rw [Nat.zero_add, pv_congr (g := ful js vl ρ) fun i hi => by unfold prt; rw [if_pos (hall i hi)]]
    exact hend ρ w hs.bel fun k hk hkj hne => hs.row k hk hkj (hall k hk) fun j hj e => absurd e (hne j hj)
  | succ c ih =>
    intro ls ρ w hc hsz htl inv hs
    have notail : ∀ i ∈ Region.ready md ops ls, i < m := fun i hi => by
      obtain ⟨i0, hi0, hu0⟩ := left_some (ls := ls) (m := m) (by omega)
      rcases Nat.lt_or_ge i m with h | h
      · exact h
      · exact absurd hi (tail_waits hsink hchain hmo inv _ i0 rfl hi0 (getD_in (by omega) hu0) i h)
    have hex : ∃ i, i < m ∧ ls.getD i false = false ∧ ∀ k, k < i → ls.getD k false = true := by
      obtain ⟨i0, hi0, hu0⟩ := left_some (ls := ls) (m := m) (by omega)
      clear ih
      induction i0 using Nat.strongRecOn with
      | _ i0 ih2 =>
        by_cases hk : ∀ k, k < i0 → ls.getD k false = true
        · exact ⟨i0, hi0, hu0, hk⟩
        · obtain ⟨k, hk⟩ := Classical.not_forall.1 hk
          obtain ⟨hk1, hk2⟩ := Classical.not_imp.1 hk
          exact ih2 k hk1 (by omega) (by simpa using hk2)
    rw [show c + 1 + g = (c + g) + 1 by omega]
    refine ⟨fun hnil => ?_, fun i hi => ?_⟩
    · exfalso
      obtain ⟨i, hi, hu, hlo⟩ := hex
      obtain ⟨o, ho⟩ := depB_some hD hi
      have : i ∈ Region.ready md ops ls := mem_ready.2 ⟨getD_in (by omega) hu, o, ho, fun e he hb => hlo _ (depB_on hD hi ho e he hb)⟩
      rw [hnil] at this
      cases this
    · have him := notail i hi
      obtain ⟨hun, o, ho, hall⟩ := mem_ready.1 hi
      have hu := getD_both hun
      have hszi : i < ls.size := by omega
      have hc' : left (ls.setIfInBounds i true) m = c := by have := left_set hszi hu him; omega
      have hself : (ls.setIfInBounds i true).getD i false = true := getD_set_self hszi false
      have hother : ∀ k, k ≠ i → (ls.setIfInBounds i true).getD k false = ls.getD k false := fun k hk => getD_set_ne false (Ne.symm hk)
      have hdi : dstOf ops i = o.dst := by unfold dstOf; rw [ho]; rfl
      have hpn : prt ls js vl ρ i = none := by unfold prt; rw [if_neg (by rw [hu]; simp)]
      have same := pv_same (a := a0) (f := prt ls js vl ρ) (g := ful js vl ρ) (m := m) (Region.noSelect_spec hsel i o · · ho) (fun k hk d hd hl => by
        rcases (depB_pair hD him ho hk hd).1 with h | h
        · unfold prt; rw [if_pos (waits_listed h ho hall)]
        · exact absurd hl h)
      have step : ∀ ρ' u, (∀ k, k ≠ i → ρ' k = ρ k) → (if js.contains i then ρ' i else vl i) = u → (pv ops a0 (prt ls js vl ρ) m).put o.dst u = pv ops a0 (prt (ls.setIfInBounds i true) js vl ρ') m := fun ρ' u hk hu' => by
        rw [← hdi, ← pv_put (depB_dist hD) him hpn]
        refine pv_congr fun k _ => ?_
        by_cases e : k = i
        · subst e
          rw [upd_self]; unfold prt ful; rw [if_pos hself, hu']
        · rw [upd_ne _ _ e]; unfold prt ful; rw [hother k e, hk k e]
      unfold wpOp
      rw [ho]
      simp only [same.2]
      by_cases hij : i ∈ js
      · -- a row
        have free : ∀ k, k < m → k ∈ js → Region.waitsFor md ops i k = true → ∀ j, j < m → ka j = some k → ls.getD j false = false := fun k _ _ hw j hj e => by
          have := (hka j k hj e).2.2.2.2 i him hw
          subst this; exact hu
        obtain ⟨hw, v, w', hrun, hRv, hg, hfr⟩ := hrow i o him hij ho ρ w hs.bel (fun k hk hkj hwk => hs.row k hk hkj (waits_listed hwk ho hall) (free k hk hkj hwk))
          (fun k l hk hl hkj hlj hkl hwk hwl => hs.two k l hk hl hkj hlj hkl (waits_listed hwk ho hall) (waits_listed hwl ho hall) (free k hk hkj hwk) (free l hl hlj hwl))
        rw [if_pos hw]
        refine .inl ?_
        unfold Oper.wp
        rw [same.1, hrun]
        simp only [Oper.upon]
        have hst := step (fun k => if k = i then v else ρ k) v (fun k hk => if_neg hk) (by rw [if_pos (by simpa using hij), if_pos rfl])
        rw [hst]
        -- which block is taken over
        have hown : ∀ k, k < m → k ∈ js → k ≠ i → ls.getD k false = true → (∀ j, j < m → ka j = some k → (ls.setIfInBounds i true).getD j false = false) → ∀ q, (ρ k).ownBlock = some q → ((ka i).bind fun k => (ρ k).ownBlock) ≠ some q := fun k hk hkj hki hlk hfk q hq e => by
          cases hkai : ka i with
          | none => rw [hkai] at e; cases e
          | some k0 =>
            rw [hkai] at e
            have hk0 := hka i k0 him hkai
            have hne : k ≠ k0 := fun x => by
              subst x
              have := hfk i him hkai
              rw [hself] at this; cases this
            refine hs.two k k0 hk hk0.2.2.1 hkj hk0.2.1 hne hlk (waits_listed hk0.2.2.2.1 ho hall) (fun j hj ej => ?_) (free k0 hk0.2.2.1 hk0.2.1 hk0.2.2.2.1) q hq e
            by_cases x : j = i
            · subst x; exact hu
            · have := hfk j hj ej; rwa [hother j x] at this
        have old : ∀ k, k < m → k ∈ js → k ≠ i → (ls.setIfInBounds i true).getD k false = true → (∀ j, j < m → ka j = some k → (ls.setIfInBounds i true).getD j false = false) → R k (ρ k) w := fun k hk hkj hki hlk hfk => by
          rw [hother k hki] at hlk
          refine hs.row k hk hkj hlk fun j hj ej => ?_
          by_cases x : j = i
          · subst x; exact hu
          · have := hfk j hj ej; rwa [hother j x] at this
        refine ih _ _ w' hc' (by simp [hsz]) (fun t ht => by rw [hother t (by omega)]; exact htl t ht) (inv.set hi him) ⟨?_, fun k hk hkj hlk hfk => ?_, fun k l hk hl hkj hlj hkl hlk hll hfk hfl q hq => ?_⟩
        · refine hs.bel.grown hg hs.bel.size fun q hq => ?_
          cases hkai : ka i with
          | none => rw [hkai] at hq; cases hq
          | some k0 =>
            rw [hkai] at hq
            have hk0 := hka i k0 him hkai
            exact (hR.lt k0 (ρ k0) w (hs.row k0 hk0.2.2.1 hk0.2.1 (waits_listed hk0.2.2.2.1 ho hall) (free k0 hk0.2.2.1 hk0.2.1 hk0.2.2.2.1)) q hq).1
        · by_cases e : k = i
          · subst e; rw [if_pos rfl]; exact hRv
          · rw [if_neg e]
            have hRk := old k hk hkj e hlk hfk
            refine hR.keep k _ w w' hRk hg.size fun q hq => hg.block q (hR.lt k _ w hRk q hq).2 fun x => ?_
            rw [hother k e] at hlk
            exact hown k hk hkj e hlk hfk q hq x.symm
        · have key : ∀ k, k < m → k ∈ js → k ≠ i → (ls.setIfInBounds i true).getD k false = true → (∀ j, j < m → ka j = some k → (ls.setIfInBounds i true).getD j false = false) → ∀ q, (ρ k).ownBlock = some q → v.ownBlock ≠ some q := fun k hk hkj hki hlk hfk q hq hv => by
            rcases hfr q hv with x | x
            · rw [hother k hki] at hlk
              exact hown k hk hkj hki hlk hfk q hq x
            · have := (hR.lt k _ w (old k hk hkj hki hlk hfk) q hq).2
              omega
          by_cases e1 : k = i
          · have e2 : l ≠ i := fun x => hkl (e1.trans x.symm)
            rw [if_pos e1] at hq
            rw [if_neg e2]
            exact fun x => key l hl hlj e2 hll hfl q x hq
          · rw [if_neg e1] at hq
            by_cases e2 : l = i
            · rw [if_pos e2]; exact key k hk hkj e1 hlk hfk q hq
            · rw [if_neg e2]
              have f : ∀ k, (∀ j, j < m → ka j = some k → (ls.setIfInBounds i true).getD j false = false) → ∀ j, j < m → ka j = some k → ls.getD j false = false := fun k hfk j hj ej => by
                by_cases x : j = i
                · subst x; exact hu
                · have := hfk j hj ej; rwa [hother j x] at this
              rw [hother k e1] at hlk
              rw [hother l e2] at hll
              exact hs.two k l hk hl hkj hlj hkl hlk hll (f k hfk) (f l hfl) q hq
      · -- a calm one
        have hst := step ρ (vl i) (fun _ _ => rfl) (by rw [if_neg (by simpa using hij)])
        have hka' : ∀ k, ka i = some k → False := fun k e => hij (hka i k him e).1
        have f : ∀ k, (∀ j, j < m → ka j = some k → (ls.setIfInBounds i true).getD j false = false) → ∀ j, j < m → ka j = some k → ls.getD j false = false := fun k hfk j hj ej => by
          by_cases x : j = i
          · subst x; exact hu
          · have := hfk j hj ej; rwa [hother j x] at this
        have go : ∀ w2, Below w.heap.size w w2 → wpAny P md ops Q' (c + g) (ls.setIfInBounds i true) ((pv ops a0 (prt ls js vl ρ) m).put o.dst (vl i)) w2 := fun w2 hb => by
          rw [hst]
          refine ih _ ρ w2 hc' (by simp [hsz]) (fun t ht => by rw [hother t (by omega)]; exact htl t ht) (inv.set hi him) ⟨below_class hs.bel hb, fun k hk hkj hlk hfk => ?_, fun k l hk hl hkj hlj hkl hlk hll hfk hfl q hq => ?_⟩
          · have e : k ≠ i := fun x => hij (x ▸ hkj)
            rw [hother k e] at hlk
            have hRk := hs.row k hk hkj hlk (f k hfk)
            exact hR.keep k _ w w2 hRk hb.size fun q hq => hb.block q (hR.lt k _ w hRk q hq).2
          · have e1 : k ≠ i := fun x => hij (x ▸ hkj)
            have e2 : l ≠ i := fun x => hij (x ▸ hlj)
            rw [hother k e1] at hlk
            rw [hother l e2] at hll
            exact hs.two k l hk hl hkj hlj hkl hlk hll (f k hfk) (f l hfl) q hq
        rcases hcalm i o him hij ho ρ with ⟨hw, hq⟩ | ⟨hw, hv⟩
        · rw [if_pos hw]
          refine .inl (wp_of_calm (v := vl i) ?_ go)
          have := hq w hs.bel
          unfold Oper.quietAt at *
          rwa [same.1]
        · rw [if_neg (by rw [hw]; simp), ← hv]
          exact go w (Below.refl _ _)
end
/-! ### the law -/
section
variable {P : Program} {ops : Array Oper} {W0 : World}
/-- values that are put one behind the other -/
def pl (ops : Array Oper) (vl : Nat → Value) (a : Act) (hs : List Nat) : Act := hs.foldl (fun a i => a.put (dstOf ops i) (vl i)) a
theorem pl_congr {vl vl' : Nat → Value} : ∀ {hs : List Nat} {a : Act}, (∀ i ∈ hs, vl i = vl' i) → pl ops vl a hs = pl ops vl' a hs
  | [], _, _ => rfl
  | i :: hs, a, h => by
    show pl ops vl (a.put (dstOf ops i) (vl i)) hs = pl ops vl' (a.put (dstOf ops i) (vl' i)) hs
    rw [h i (by simp), pl_congr fun k hk => h k (by simp [hk])]
theorem pl_pv {vl : Nat → Value} {a : Act} {m : Nat} (hd : Dist ops m) : ∀ {hs : List Nat} {f : Nat → Option Value}, hs.Nodup → (∀ i ∈ hs, i < m ∧ f i = none) → pl ops vl (pv ops a f m) hs = pv ops a (fun i => if hs.contains i then some (vl i) else f i) m
  | [], f, _, _ => pv_congr fun i _ => by simp
  | i :: hs, f, hn, h => by
    obtain ⟨h1, h2⟩ := List.nodup_cons.1 hn
    show pl ops vl ((pv ops a f m).put (dstOf ops i) (vl i)) hs = _
    have hne : ∀ k, k ∈ hs → k ≠ i := fun k hk e => by subst e; exact h1 hk
    rw [← pv_put hd (h i (by simp)).1 (h i (by simp)).2, pl_pv hd h2 fun k hk => ⟨(h k (by simp [hk])).1, by rw [upd_ne _ _ (hne k hk)]; exact (h k (by simp [hk])).2⟩]
    refine pv_congr fun k _ => ?_
    by_cases e : k = i
    · subst e
      rw [if_neg (by simpa using h1), upd_self, if_pos (by simp)]
    · rw [upd_ne _ _ e]
      by_cases hk : k ∈ hs
      · rw [if_pos (by simpa using hk), if_pos (by simp [hk])]
      · rw [if_neg (by simpa using hk), if_neg (by simp [hk, e])]
theorem calm_vals {Q : Act → Prop} : ∀ (hs : List Nat) (a : Act), hs.Nodup → (∀ i ∈ hs, ∃ o, ops[i]? = some o) → wpCalm P ops W0 Q (hs.filterMap fun i => ops[i]?) a →
    ∃ vl : Nat → Value, Q (pl ops vl a hs) ∧ ∀ pre i post o, hs = pre ++ i :: post → ops[i]? = some o → Calm P ops W0 o (vl i) (pl ops vl a pre)
  | [], a, _, _, h => ⟨fun _ => undef, h, fun pre i post o e => by simp at e⟩
  | i :: hs, a, hn, hex, h => by
    obtain ⟨h1, h2⟩ := List.nodup_cons.1 hn
    obtain ⟨o, ho⟩ := hex i (by simp)
    rw [List.filterMap_cons, ho] at h
    obtain ⟨v, hy, hK⟩ := wpCalm_cons h
    have hdi : dstOf ops i = o.dst := by unfold dstOf; rw [ho]; rfl
    obtain ⟨vl, hQ, hc⟩ := calm_vals hs (a.put o.dst v) h2 (fun k hk => hex k (by simp [hk])) hK
    have hne : ∀ k, k ∈ hs → k ≠ i := fun k hk e => by subst e; exact h1 hk
    have heq : ∀ k ∈ hs, (fun k => if k = i then v else vl k) k = vl k := fun k hk => if_neg (hne k hk)
    refine ⟨fun k => if k = i then v else vl k, ?_, fun pre j post oj e hoj => ?_⟩
    · show Q (pl ops _ (a.put (dstOf ops i) (if i = i then v else vl i)) hs)
      rw [if_pos rfl, hdi, pl_congr heq]; exact hQ
    · cases pre with
      | nil =>
        simp only [List.nil_append, List.cons.injEq] at e
        obtain ⟨rfl, _⟩ := e
        obtain rfl : o = oj := Option.some.inj (ho.symm.trans hoj)
        show Calm P ops W0 o (if i = i then v else vl i) a
        rw [if_pos rfl]; exact hy
      | cons x pre =>
        simp only [List.cons_append, List.cons.injEq] at e
        obtain ⟨rfl, e⟩ := e
        have hj : j ∈ hs := by rw [e]; simp
        have := hc pre j post oj e hoj
        show Calm P ops W0 oj (if j = i then v else vl j) (pl ops _ (a.put (dstOf ops i) (if i = i then v else vl i)) pre)
        rw [if_pos rfl, hdi, if_neg (hne j hj), pl_congr fun k hk => heq k (by rw [e]; simp [hk])]
        exact this
/-- the calm operations of the first n -/
def calmL (js : List Nat) : Nat → Nat → List Oper → List Oper
  | _, 0, _ => []
  | _, _, [] => []
  | i, n + 1, o :: l => if js.contains i then calmL js (i + 1) n l else o :: calmL js (i + 1) n l
theorem calmL_eq (js : List Nat) : ∀ (l : List Oper) (pre : List Oper) (n : Nat), n ≤ l.length → calmL js pre.length n l = (((List.range' pre.length n).filter fun i => !js.contains i).filterMap fun i => (pre ++ l)[i]?)
  | _, pre, 0, _ => by simp [calmL]
  | [], pre, n + 1, h => by simp at h
  | o :: l, pre, n + 1, h => by
    have ih := calmL_eq js l (pre ++ [o]) n (by simpa using h)
    rw [List.length_append, List.length_singleton, List.append_assoc, List.singleton_append] at ih
    rw [calmL, List.range'_succ, List.filter_cons]
    by_cases hj : js.contains pre.length = true
    · rw [if_pos hj, if_neg (by rw [hj]; simp)]; exact ih
    · rw [if_neg hj, if_pos (by simpa using hj), List.filterMap_cons]
      have e : (pre ++ o :: l)[pre.length]? = some o := by simp
      rw [e, ih]
/-- who takes which row over -/
def kaOf (kl : List (Nat × Nat)) (i : Nat) : Option Nat := (kl.find? fun p => p.1 == i).map (·.2)
/-- what is asked of the region's text -/
def rowsB (md : Region.Mode) (ops : Array Oper) (m : Nat) (js : List Nat) (kl : List (Nat × Nat)) : Bool :=
  Region.noSelect ops && depB md ops m && decide (m < ops.size) && Region.sinkB md ops m && Region.chainB md ops m && Region.seqB md ops (ops.size - m) m (upto ops m) && decide js.Nodup && js.all (fun j => decide (j < m)) &&
  kl.all (fun p => js.contains p.1 && js.contains p.2 && Region.waitsFor md ops p.1 p.2 && (List.range m).all fun i => decide (i = p.1) || !Region.waitsFor md ops i p.2) &&
  (List.range m).all fun i => js.contains i || js.all fun j => !Region.waitsFor md ops i j
end
/-- the rows' values are put in -/
def rwv (l : List Oper) (js : List Nat) (ρ : Nat → Value) (a : Act) : Act := pl l.toArray ρ a js
theorem wpAny_rows {P : Program} {Q : Exit → Act → World → Prop} {a : Act} {w : World} {l : List Oper} (m : Nat) (js : List Nat) (kl : List (Nat × Nat)) (R : Nat → Value → World → Prop) (hB : rowsB .any l.toArray m js kl = true) (hR : RowsOk w.drew R)
    (h : wpCalm P l.toArray w.drew (fun a' =>
      (∀ i o, i ∈ js → l[i]? = some o → ∀ ρ w', Below w.drew.heap.size w.drew w' → (∀ k, k ∈ js → Region.waitsFor .any l.toArray i k = true → R k (ρ k) w') →
        (∀ k k', k ∈ js → k' ∈ js → k ≠ k' → Region.waitsFor .any l.toArray i k = true → Region.waitsFor .any l.toArray i k' = true → ∀ g, (ρ k).ownBlock = some g → (ρ k').ownBlock ≠ some g) →
        RowDo P l.toArray o (rwv l js ρ a') w' (R i) ((kaOf kl i).bind fun k => (ρ k).ownBlock)) ∧
      ∀ ρ w', Below w.drew.heap.size w.drew w' → (∀ k, k ∈ js → (kl.all fun p => p.2 != k) = true → R k (ρ k) w') → wpList P l.toArray Q (l.drop m) (rwv l js ρ a') w') (calmL js 0 m l) a) :
    wpAny P .any l.toArray Q l.toArray.size (Array.replicate l.toArray.size false) a w.drew := by
  simp only [rowsB, Bool.and_eq_true, decide_eq_true_eq] at hB
  obtain ⟨⟨⟨⟨⟨⟨⟨⟨⟨hsel, hD⟩, hmo⟩, hsink⟩, hchain⟩, hseq⟩, hnd⟩, hjm⟩, hkl⟩, hcj⟩ := hB
  have hmo' : m < l.length := by simpa using hmo
  have hdl : (l.drop m).length = l.toArray.size - m := by simp
  have hjm' : ∀ j ∈ js, j < m := fun j hj => by simpa using List.all_eq_true.1 hjm j hj
  have hdist := depB_dist hD
  have e0 := calmL_eq js l [] m (by omega)
  simp only [List.length_nil, List.nil_append] at e0
  rw [e0] at h
  have hget : ∀ i : Nat, l[i]? = l.toArray[i]? := fun i => by simp
  have hfm : (((List.range' 0 m).filter fun i => !js.contains i).filterMap fun i => l[i]?) = (((List.range' 0 m).filter fun i => !js.contains i).filterMap fun i => l.toArray[i]?) := by
    congr 1
    funext i
    exact hget i
  rw [hfm] at h
  have hsn : ((List.range' 0 m).filter fun i => !js.contains i).Nodup := (List.nodup_range' ..).filter _
  have hslt : ((List.range' 0 m).filter fun i => !js.contains i).Pairwise (· < ·) := (List.pairwise_lt_range' ..).filter _
  have hsm : ∀ i, i ∈ ((List.range' 0 m).filter fun i => !js.contains i) ↔ i < m ∧ i ∉ js := fun i => by
    rw [List.mem_filter, List.mem_range'_1]
    simp
  obtain ⟨vl, hQ, hc⟩ := calm_vals _ a hsn (fun i hi => depB_some hD ((hsm i).1 hi).1) h
  have hka : ∀ i k, i < m → kaOf kl i = some k → i ∈ js ∧ k ∈ js ∧ k < m ∧ Region.waitsFor .any l.toArray i k = true ∧ ∀ j, j < m → Region.waitsFor .any l.toArray j k = true → j = i := fun i k _ e => by
    unfold kaOf at e
    obtain ⟨p, hp, rfl⟩ := Option.map_eq_some_iff.1 e
    have hpm := List.mem_of_find?_eq_some hp
    have hpi : p.1 = i := by simpa using List.find?_some hp
    have := List.all_eq_true.1 hkl p hpm
    simp only [Bool.and_eq_true, List.all_eq_true, List.mem_range, Bool.or_eq_true, decide_eq_true_eq, Bool.not_eq_true'] at this
    obtain ⟨⟨⟨a1, a2⟩, a3⟩, a4⟩ := this
    rw [hpi] at a1 a3 a4
    have a2' : p.2 ∈ js := by simpa using a2
    refine ⟨by simpa using a1, a2', hjm' _ a2', a3, fun j hj hw => ?_⟩
    rcases a4 j hj with x | x
    · exact x
    · rw [hw] at x; cases x
  -- the frames
  have hpl : ∀ pre, (∀ i ∈ pre, i < m) → pre.Nodup → pl l.toArray vl a pre = pv l.toArray a (fun i => if pre.contains i then some (vl i) else none) m := fun pre h1 h2 => by
    have := pl_pv (vl := vl) (a := a) hdist (f := fun _ => none) h2 fun i hi => ⟨h1 i hi, rfl⟩
    rwa [show pv l.toArray a (fun _ => none) m = a from by
      have : ∀ k, pv l.toArray a (fun _ => none) k = a := fun k => by
        induction k with
        | zero => rfl
        | succ k ih => unfold pv; exact ih
      exact this m] at this
  have hful : ∀ ρ, rwv l js ρ (pl l.toArray vl a ((List.range' 0 m).filter fun i => !js.contains i)) = pv l.toArray a (ful js vl ρ) m := fun ρ => by
    unfold rwv
    rw [hpl _ (fun i hi => ((hsm i).1 hi).1) hsn, pl_pv hdist hnd fun i hi => ⟨hjm' i hi, if_neg (by intro hh; exact ((hsm i).1 (by simpa using hh)).2 hi)⟩]
    refine pv_congr fun i hi => ?_
    unfold ful
    by_cases hj : i ∈ js
    · rw [if_pos (List.contains_iff_mem.2 hj), if_pos (List.contains_iff_mem.2 hj)]
    · rw [if_neg (fun x => hj (List.contains_iff_mem.1 x)), if_neg (fun x => hj (List.contains_iff_mem.1 x)), if_pos (List.contains_iff_mem.2 ((hsm i).2 ⟨hi, hj⟩))]
  have inv0 : HeadInv .any l.toArray m (Array.replicate l.toArray.size false) :=
    ⟨by simp, fun j oj _ hl => (by rw [getD_replicate_false] at hl; cases hl), fun t _ ht => getD_in (by simpa using ht) (getD_replicate_false _ _)⟩
  have hl0 : left (Array.replicate l.toArray.size false) m = m := by
    have : ∀ k, left (Array.replicate l.toArray.size false) k = k := fun k => by
      induction k with
      | zero => rfl
      | succ k ih => unfold left; rw [ih, getD_replicate_false]; simp
    exact this m
  have := any_rows (md := .any) (P := P) (W0 := w.drew) (Q' := Q) (g := l.toArray.size - m) (js := js) (ka := kaOf kl) (R := R) vl a hsel hD hmo hsink hchain hka hR
    (fun i o hi hij ho ρ => by
      have him : i ∈ ((List.range' 0 m).filter fun i => !js.contains i) := (hsm i).2 ⟨hi, hij⟩
      obtain ⟨pre, post, e⟩ := List.append_of_mem him
      have hC := hc pre i post o e ho
      have hpn : pre.Nodup := by rw [e] at hsn; exact (List.nodup_append.1 hsn).1
      have hpm : ∀ k ∈ pre, k < m := fun k hk => ((hsm k).1 (by rw [e]; simp [hk])).1
      rw [hpl pre hpm hpn] at hC
      have sm := pv_same (a := a) (f := ful js vl ρ) (g := fun i => if pre.contains i then some (vl i) else none) (m := m) (Region.noSelect_spec hsel i o · · ho) (fun k hk d hd hl => by
        rcases (depB_pair hD hi ho hk hd).1 with hw | hw
        · obtain ⟨o', ho', ee, he, hb, hon⟩ := Region.waitsFor_spec hw
          obtain rfl : o' = o := Option.some.inj (ho'.symm.trans ho)
          have hki : k < i := by rw [← hon]; exact depB_on hD hi ho ee he hb
          have hkj : k ∉ js := fun hkj => by
            have := List.all_eq_true.1 hcj i (List.mem_range.2 hi)
            simp only [Bool.or_eq_true] at this
            rcases this with x | x
            · exact hij (by simpa using x)
            · have := List.all_eq_true.1 x k hkj
              rw [hw] at this; cases this
          have hkh : k ∈ ((List.range' 0 m).filter fun i => !js.contains i) := (hsm k).2 ⟨hk, hkj⟩
          rw [e] at hkh hslt
          have hkp : k ∈ pre := by
            rcases List.mem_append.1 hkh with x | x
            · exact x
            · rcases List.mem_cons.1 x with x | x
              · omega
              · have := (List.pairwise_cons.1 (List.pairwise_append.1 hslt).2.1).1 k x
                omega
          unfold ful
          rw [if_neg (by simpa using hkj), if_pos (by simpa using hkp)]
        · exact absurd hl hw)
      exact hC.same sm.1 sm.2)
    (fun i o hi hij ho ρ w' hb h1 h2 => by
      rw [← hful ρ]
      exact hQ.1 i o hij (by rw [hget]; exact ho) ρ w' hb (fun k hk hw => h1 k (hjm' k hk) hk hw) (fun k k' hk hk' hne hw hw' => h2 k k' (hjm' k hk) (hjm' k' hk') hk hk' hne hw hw'))
    (fun ρ w' hb h1 => by
      have := wpAny_of_seq (md := .any) (Q' := Q) (l.drop m) m (upto l.toArray m) (rwv l js ρ (pl l.toArray vl a ((List.range' 0 m).filter fun i => !js.contains i))) w' (fun j => by simp [List.getElem?_drop]) (by rw [hdl]; exact hseq) (hQ.2 ρ w' hb fun k hk hu => h1 k (hjm' k hk) hk fun j hj e => by
        unfold kaOf at e
        obtain ⟨p, hp, e2⟩ := Option.map_eq_some_iff.1 e
        have := List.all_eq_true.1 hu p (List.mem_of_find?_eq_some hp)
        simp [e2] at this)
      rw [hdl, hful ρ] at this
      exact this)
    m (Array.replicate l.toArray.size false) (fun _ => undef) w.drew hl0 (by simp) (fun t _ => getD_replicate_false _ _) inv0
    ⟨Below.refl _ _, fun k _ _ hk => (by rw [getD_replicate_false] at hk; cases hk), fun k _ _ _ _ _ _ hk => (by rw [getD_replicate_false] at hk; cases hk)⟩
  rw [show m + (l.toArray.size - m) = l.toArray.size by omega, show pv l.toArray a (prt (Array.replicate l.toArray.size false) js vl fun _ => undef) m = a from by
    have : ∀ k, pv l.toArray a (prt (Array.replicate l.toArray.size false) js vl fun _ => undef) k = a := fun k => by
      induction k with
      | zero => rfl
      | succ k ih =>
        unfold pv
        rw [show prt (Array.replicate l.toArray.size false) js vl (fun _ => undef) k = none from by unfold prt; rw [if_neg (by rw [getD_replicate_false]; simp)]]
        exact ih
    exact this m] at this
  exact this
theorem wp_region_rows {P : Program} {id : Nat} {Q : Exit → Act → World → Prop} {a : Act} {w : World} {l : List Oper} (m : Nat) (js : List Nat) (kl : List (Nat × Nat)) (R : Nat → Value → World → Prop) (hm : P.follows .mixedOrders = true) (hB : rowsB .any l.toArray m js kl = true) (hR : RowsOk w.drew R)
    (h : wpCalm P l.toArray w.drew (fun a' =>
      (∀ i o, i ∈ js → l[i]? = some o → ∀ ρ w', Below w.drew.heap.size w.drew w' → (∀ k, k ∈ js → Region.waitsFor .any l.toArray i k = true → R k (ρ k) w') →
        (∀ k k', k ∈ js → k' ∈ js → k ≠ k' → Region.waitsFor .any l.toArray i k = true → Region.waitsFor .any l.toArray i k' = true → ∀ g, (ρ k).ownBlock = some g → (ρ k').ownBlock ≠ some g) →
        RowDo P l.toArray o (rwv l js ρ a') w' (R i) ((kaOf kl i).bind fun k => (ρ k).ownBlock)) ∧
      ∀ ρ w', Below w.drew.heap.size w.drew w' → (∀ k, k ∈ js → (kl.all fun p => p.2 != k) = true → R k (ρ k) w') → wpList P l.toArray Q (l.drop m) (rwv l js ρ a') w') (calmL js 0 m l) a) :
    (Code.region id l.toArray true).wp P Q a w :=
  wp_region_any hm (wpAny_rows m js kl R hB hR h)
end Go.Proofs.Ytagmidolcdefiah

/- Rows of pairs that are owned: cars, wants. -/
namespace Go.Proofs.Ytagmidolcdefiah
open Go.RowKit
/-- the cells of pairs -/
def pc (l : List (Int × Int)) : List Value := l.flatMap fun y => [.int .i64 y.1, .int .i64 y.2]
theorem pc_cons (y : Int × Int) (l : List (Int × Int)) : pc (y :: l) = .int .i64 y.1 :: .int .i64 y.2 :: pc l := rfl
theorem pc_length : ∀ (l : List (Int × Int)), (pc l).length = l.length * 2
  | [] => rfl
  | y :: l => by rw [pc_cons, List.length_cons, List.length_cons, pc_length l, List.length_cons]; omega
theorem pc_get0 {y : Int × Int} : ∀ {l : List (Int × Int)} {i : Nat}, l[i]? = some y → (pc l)[i * 2]? = some (.int .i64 y.1)
  | [], _, h => by simp at h
  | z :: l, 0, h => by simp at h; subst h; rfl
  | z :: l, i + 1, h => by
    rw [pc_cons, show (i + 1) * 2 = i * 2 + 1 + 1 by omega, List.getElem?_cons_succ, List.getElem?_cons_succ]
    exact pc_get0 (by simpa using h)
theorem pc_get1 {y : Int × Int} : ∀ {l : List (Int × Int)} {i : Nat}, l[i]? = some y → (pc l)[i * 2 + 1]? = some (.int .i64 y.2)
  | [], _, h => by simp at h
  | z :: l, 0, h => by simp at h; subst h; rfl
  | z :: l, i + 1, h => by
    rw [pc_cons, show (i + 1) * 2 + 1 = (i * 2 + 1) + 1 + 1 by omega, List.getElem?_cons_succ, List.getElem?_cons_succ]
    exact pc_get1 (by simpa using h)
/-- a slice of pairs that reads as l at each of its cells -/
theorem R2.cells {D : Nat → Prop} {W : World} {ad : Addr} {n cap : Nat} {l : List (Int × Int)} (h : R2 D W (.slice (some ad) n cap) l) : ∀ (j : Nat) u, (pc l)[j]? = some u → W.cell? (ad.add j) = some u := fun j u hu => by
  have hj : j < l.length * 2 := by have := (List.getElem?_eq_some_iff.1 hu).1; rwa [pc_length] at this
  obtain ⟨y, hy⟩ : ∃ y, l[j / 2]? = some y := ⟨_, List.getElem?_eq_getElem (by omega)⟩
  obtain ⟨g, o, e, h1, h2⟩ := h.at hy
  cases e
  rw [Addr.add_mid]
  by_cases hm : j % 2 = 0
  · have e1 : j / 2 * 2 = j := by omega
    have := pc_get0 hy
    rw [e1, hu] at this
    cases this
    rw [e1] at h1; exact h1
  · have e1 : j / 2 * 2 + 1 = j := by omega
    have := pc_get1 hy
    rw [e1, hu] at this
    cases this
    rw [Nat.add_assoc, e1] at h2; exact h2
/-- a row of pairs that is owned -/
def O2 (t : TypeId) (W : World) (B : Nat) (v : Value) (l : List (Int × Int)) : Prop := W.ownsRow B t 2 v l.length (pc l)
section
variable {t : TypeId} {W W' : World} {B : Nat} {v : Value} {l : List (Int × Int)}
theorem O2.lt (h : O2 t W B v l) : ∀ g, v.ownBlock = some g → B ≤ g ∧ g < W.heap.size := World.ownsRow.lt h
theorem O2.keep (h : O2 t W B v l) (hk : ∀ g, v.ownBlock = some g → W'.heap[g]? = W.heap[g]?) : O2 t W' B v l := by
  refine ⟨h.1, ?_⟩
  rcases h.2 with h1 | ⟨g, cap, cur, hv, hb, hg, hc⟩
  · exact .inl h1
  · exact .inr ⟨g, cap, cur, hv, hb, (hk g (by rw [hv]; rfl)).trans hg, hc⟩
theorem O2.below' (h : O2 t W B v l) (hb : Below W.heap.size W W') : O2 t W' B v l := h.keep fun g hg => hb.block g (h.lt g hg).2
theorem O2.form (h : O2 t W B v l) : (v = .slice none 0 0 ∧ l = []) ∨ ∃ g cap, v = .slice (some ⟨g, 0, none⟩) l.length cap ∧ B ≤ g ∧ g < W.heap.size ∧ l.length ≤ cap := by
  rcases h.2 with ⟨h1, h2⟩ | ⟨g, cap, cur, hv, hb, hg, hc, _⟩
  · exact .inl ⟨h1, List.length_eq_zero_iff.1 h2⟩
  · exact .inr ⟨g, cap, hv, hb, (Array.getElem?_eq_some_iff.1 hg).1, hc⟩
theorem O2.cell0 {g cap n i : Nat} {y : Int × Int} (h : O2 t W B (.slice (some ⟨g, 0, none⟩) n cap) l) (hi : l[i]? = some y) : W.cell? ⟨g, i * 2, none⟩ = some (.int .i64 y.1) := by
  have := World.ownsRow.cells h (g := g) rfl _ _ (pc_get0 hi)
  rwa [Addr.add_mid, Nat.zero_add] at this
theorem O2.cell1 {g cap n i : Nat} {y : Int × Int} (h : O2 t W B (.slice (some ⟨g, 0, none⟩) n cap) l) (hi : l[i]? = some y) : W.cell? ⟨g, i * 2 + 1, none⟩ = some (.int .i64 y.2) := by
  have := World.ownsRow.cells h (g := g) rfl _ _ (pc_get1 hi)
  rwa [Addr.add_mid, Nat.zero_add] at this
theorem O2.r2 {D : Nat → Prop} (h : O2 t W B v l) (hD : ∀ g, v.ownBlock = some g → D g) : R2 D W v l := by
  rcases h.form with ⟨rfl, rfl⟩ | ⟨g, cap, rfl, hB, hlt, hc⟩
  · exact ⟨none, 0, rfl, Nat.le_refl _, fun _ => rfl, .inl rfl⟩
  · exact ⟨_, cap, rfl, hc, (fun e => by cases e), .inr ⟨g, 0, rfl, hD g rfl, hlt, fun i y hy => ⟨by rw [Nat.zero_add]; exact h.cell0 hy, by rw [Nat.zero_add]; exact h.cell1 hy⟩⟩⟩
theorem O2.len {a : Option Addr} {n cap : Nat} (h : O2 t W B (.slice a n cap) l) : n = l.length := by
  rcases h.form with ⟨h1, h2⟩ | ⟨g, c, h1, _⟩
  · cases h1; rw [h2]; rfl
  · cases h1; rfl
theorem O2.fr {g cap n : Nat} (h : O2 t W B (.slice (some ⟨g, 0, none⟩) n cap) l) (j : Nat) : W.frozen? ⟨g, j, none⟩ = false := by
  have hn := h.len
  subst hn
  exact World.ownsRow.frozenAt h j
theorem O2.nil (W : World) (hB : B ≤ W.heap.size) : O2 t (W.alloc (.cells #[] t)) B (.slice (some ⟨W.heap.size, 0, none⟩) 0 0) [] :=
  World.ownsRow_lit (e := t) (size := 2) W #[] 0 hB (by unfold maxLen; omega) (by simp)
theorem O2.some (h : O2 t W B v l) (hn : 0 < l.length) : ∃ g cap, v = .slice (some ⟨g, 0, none⟩) l.length cap ∧ B ≤ g := by
  rcases h.form with ⟨_, e⟩ | ⟨g, cap, hv, hB, _⟩
  · rw [e] at hn; simp at hn
  · exact ⟨g, cap, hv, hB⟩
end
end Go.Proofs.Ytagmidolcdefiah

/- Rows of numbers, and of pairs, in a region that draws its order. -/
namespace Go.Proofs.Ytagmidolcdefiah
open Go.RowKit
section
variable {ops : Array Oper} {o : Oper} {a : Act} {w : World}
theorem want_none (h : o.guard = none) (tmps : Array Value) : Region.wanted o (yielded ops tmps) = true := by unfold Region.wanted; rw [h]
/-- a row that is typed -/
theorem RowDo.lit {R : Value → World → Prop} (hg : o.guard = none) (n : Nat) (ob : Obj) (hrun : (execOp a.eval o).run Try.prog w = .ok (.value (.slice (some ⟨w.heap.size, 0, none⟩) n n)) (w.alloc ob)) (hR : R (.slice (some ⟨w.heap.size, 0, none⟩) n n) (w.alloc ob)) : RowDo Try.prog ops o a w R none := by
  refine ⟨want_none hg _, _, _, hrun, hR, ?_, fun g e => .inr ?_⟩
  · exact ⟨rfl, rfl, rfl, by simp, fun k hk _ => Below.heap_alloc w ob k hk⟩
  · have : w.heap.size = g := by simpa [Value.ownBlock] using e
    omega
/-- numbers are put behind a row of numbers -/
theorem RowDo.appI (hg : o.guard = none) (s x : Operand) (ho : o.op = .call { callee := .builtin .append, args := #[s, x], argTypes := #[55, 55] }) (B : Nat) (v u : Value) (l m : List Int) (D : Nat → Prop) (hs : a.eval s = v) (hown : OI w B v l) (hx : a.eval x = u) (hr : RI D w u m)
    (h63 : l.length + m.length ≤ 1000000) (hB : B ≤ w.heap.size) : RowDo Try.prog ops o a w (fun v' w' => OI w' B v' (l ++ m)) v.ownBlock := by
  obtain ⟨ao, cap, rfl, hc, hn⟩ := hr.form
  obtain ⟨i0, hi, hz0, hz1, hz2⟩ := info_parts infoI
  refine ⟨want_none hg _, ?_⟩
  cases ao with
  | none =>
    obtain rfl : cap = 0 := hn rfl
    obtain rfl : m = [] := List.length_eq_zero_iff.1 (by omega)
    have hrun := run_append_owned_none (P := Try.prog) (w := w) B 55 o.type 3 i0 1 Try.underlying55 hi v l.length (ic l) hown
    refine ⟨v, w, ?_, by rw [List.append_nil]; exact hown, World.grownBy.refl w _, fun g e => .inl e⟩
    simp [execOp, ho, resolve, invoke, builtin, hs, hx, hrun, Result.andThen]
  | some ad =>
    obtain ⟨v', w', hrun, h2, h3, _, h5⟩ := run_append_own_at (P := Try.prog) w B 55 o.type 3 i0 _ 1 8 Try.underlying55 hi hz0 hz1 hz2 rfl (by decide) v l.length (ic l) hown ad m.length cap (ic m) (by rw [ic_length, Nat.mul_one]) (fun j u hj => by
      obtain ⟨y, hy, rfl⟩ := ic_get hj
      obtain ⟨g, o', e, hc'⟩ := hr.at hy
      cases e
      rw [Addr.add_mid]; exact hc') (ic_one m) (by unfold maxLen; omega) (by omega) hB
    refine ⟨v', w', ?_, ?_, h3, fun g e => ?_⟩
    · simp only [execOp, ho, resolve, invoke, builtin, Sem.run_bind, Sem.run_pure, Result.andThen_ok, List.map_toArray, List.map_cons, List.map_nil, hs, hx, hrun]
    · unfold OI
      rw [List.length_append, ic_append]
      exact h2
    · rcases h5 with h5 | h5
      · exact .inl (by rw [← h5]; exact e)
      · have : some g = some w.heap.size := by rw [← h5, ← e]
        right; cases this; exact Nat.le_refl _
end
/-- rows of numbers, by a table -/
theorem rowsI_ok (W0 : World) (tb : Nat → List Int) : RowsOk W0 (fun j v w => OI w W0.heap.size v (tb j)) := ⟨fun _ _ _ _ h _ hk => OI.keep h hk, fun _ _ _ h g hg => OI.lt h g hg⟩
end Go.Proofs.Ytagmidolcdefiah

/- The least cost of a beginning, as the document reckons it. -/
namespace Go.Proofs.Ytagmidolcdefiah
open Go.RowKit
/-- what is known of a beginning -/
structure Bs (s : Sn) (k : Nat) (p : List (List Int)) (st : List Bool) : Prop where
  rg : rgt s = true
  rz : RM.Rz s.st s.ws s.cs
  pc : s.cs.length = p.length
  kl : k < p.length
  p8 : p.length ≤ 8
  bh : ∀ (c : Nat) l, p[c]? = some l → k < c → l = []
  fr : ∀ x ∈ p.flatten, 0 ≤ x ∧ x < s.ws.length
  sl : st.length = s.ws.length
  wl : s.ws.length ≤ 128
  af : ∀ r ∈ s.cs, r.2 ≤ 1000000
  lf : ∀ w : Nat, w < s.ws.length → (st[w]? = some false ↔ (w : Int) ∉ p.flatten)
theorem bgn_bs {s : Sn} {k : Nat} {p : List (List Int)} {st : List Bool} (h : bgn s (k : Int) p = some st) : Bs s k p st := by
  unfold bgn at h
  split at h
  case isFalse => cases h
  case isTrue hh =>
    simp only [Bool.and_eq_true, decide_eq_true_eq, List.all_eq_true] at hh
    obtain ⟨⟨⟨⟨h1, h2⟩, _⟩, h4⟩, h5⟩ := hh
    obtain ⟨n, hrs⟩ := rgt_rs h1
    have hml : (msk s).length = s.ws.length := hrs.mm.len
    have hr := PM.runs_some (by simp) h
    have g1 := hrs.cl
    have g2 := hrs.n8
    refine ⟨h1, rgt_rz h1, h2.symm, by omega, by omega, fun c l hl hc => ?_, fun x hx => ?_, ?_, hrs.wl, rgt_after h1, fun w hw => ?_⟩
    · have := h5 l (List.mem_of_getElem? (i := c - (k + 1)) (by rw [Int.toNat_natCast, List.getElem?_drop, show k + 1 + (c - (k + 1)) = c by omega]; exact hl))
      simpa using this
    · obtain ⟨l, hl, hxl⟩ := List.mem_flatten.1 hx
      obtain ⟨c, hc⟩ := List.getElem?_of_mem hl
      have := PM.okx_iff.1 (hr.1 c l hc x hxl)
      omega
    · exact hr.2.1.trans hml
    · have h6 := hr.2.2 w (by omega)
      rw [PM.nb_rep, Nat.zero_add] at h6
      obtain ⟨b, hb⟩ : ∃ b, st[w]? = some b := ⟨_, List.getElem?_eq_getElem (by have := hr.2.1; omega)⟩
      cases b with
      | true =>
        rw [PM.nb_true hb] at h6
        rw [hb]
        constructor
        · intro hh; cases hh
        · intro hh; exact absurd (List.count_pos_iff.1 (by omega)) hh
      | false =>
        rw [PM.nb_false hb] at h6
        rw [hb]
        constructor
        · intro _ hh; have := List.count_pos_iff.2 hh; omega
        · intro _; rfl
theorem prs_len {s : St} {ws : List (Int × Int)} : ∀ {cs : List (Int × Int)} {p : List (List Int)}, (∀ l ∈ p, l.length ≤ 1000) → (RM.prs s ws cs p).length ≤ 1000 * p.length
  | [], _, _ => by simp [RM.prs]
  | _ :: _, [], _ => by simp [RM.prs]
  | r :: cs, l :: p, h => by
    have ih := prs_len (s := s) (ws := ws) (cs := cs) (p := p) fun l hl => h l (by simp [hl])
    have h0 := h l (by simp)
    show (RM.pr1 s ws r l ++ RM.prs s ws cs p).length ≤ _
    rw [List.length_append, RM.pr1_length, List.length_cons]
    omega
/-- the sum of the times, behind k lists and j wants of the next one -/
def sm2 (s : Sn) (p : List (List Int)) (r : Int × Int) (l : List Int) (k j : Nat) : Int := ((RM.prs s.st s.ws (s.cs.take k) (p.take k) ++ (RM.pr1 s.st s.ws r l).take j).map (·.2)).sum
def sm1 (s : Sn) (p : List (List Int)) (k : Nat) : Int := ((RM.prs s.st s.ws (s.cs.take k) (p.take k)).map (·.2)).sum
theorem sm2_zero (s : Sn) (p : List (List Int)) (r : Int × Int) (l : List Int) (k : Nat) : sm2 s p r l k 0 = sm1 s p k := by unfold sm2 sm1; rw [List.take_zero, List.append_nil]
theorem sm2_succ {s : Sn} {p : List (List Int)} {r : Int × Int} {l : List Int} {k j : Nat} {x : Int} (h : l[j]? = some x) : sm2 s p r l k (j + 1) = sm2 s p r l k j + RM.ar s.st (RM.go s.st (RM.bg r) ((l.take j).map (RM.wf s.ws))) (RM.wf s.ws x) := by
  unfold sm2
  rw [take_snoc (RM.pr1_get h), ← List.append_assoc, List.map_append, List.sum_append]
  simp
theorem sm2_end {s : Sn} {p : List (List Int)} {r : Int × Int} {l : List Int} {k : Nat} (h1 : s.cs[k]? = some r) (h2 : p[k]? = some l) : sm2 s p r l k l.length = sm1 s p (k + 1) := by
  unfold sm2 sm1
  rw [RM.prs_snoc h1 h2, List.take_of_length_le (l := RM.pr1 s.st s.ws r l) (by rw [RM.pr1_length]; exact Nat.le_refl _)]
theorem sm1_end {s : Sn} {k : Nat} {p : List (List Int)} {st : List Bool} (h : Bs s k p st) : sm1 s p (k + 1) = RM.cst s.st s.ws s.cs p := by
  unfold sm1 RM.cst
  rw [← RM.cst_take fun c l hl hc => h.bh c l hl (by omega)]
theorem sm2_bd {s : Sn} {k0 : Nat} {p : List (List Int)} {st : List Bool} (h : Bs s k0 p st) (hl : ∀ l ∈ p, l.length ≤ 1000) {r : Int × Int} {l : List Int} {k j : Nat} (h1 : s.cs[k]? = some r) (h2 : p[k]? = some l) : 0 ≤ sm2 s p r l k j ∧ sm2 s p r l k j ≤ 800000000000 := by
  unfold sm2
  have hb := RM.prs_bd h.rz h.fr h.af hl
  have hmem : ∀ x ∈ RM.prs s.st s.ws (s.cs.take k) (p.take k) ++ (RM.pr1 s.st s.ws r l).take j, x ∈ RM.prs s.st s.ws s.cs p := fun x hx => by
    have hx2 : x ∈ RM.prs s.st s.ws (s.cs.take (k + 1)) (p.take (k + 1)) := by
      rw [RM.prs_snoc h1 h2]
      rcases List.mem_append.1 hx with hx | hx
      · exact List.mem_append_left _ hx
      · exact List.mem_append_right _ (List.mem_of_mem_take hx)
    obtain ⟨w, t⟩ := x
    obtain ⟨c, i, r', l', g1, g2, g3, g4⟩ := RM.prs_where hx2
    have g1' : s.cs[c]? = some r' := by
      rw [List.getElem?_take] at g1
      split at g1
      · exact g1
      · cases g1
    have g2' : p[c]? = some l' := by
      rw [List.getElem?_take] at g2
      split at g2
      · exact g2
      · cases g2
    rw [g4]
    exact RM.prs_at g1' g2' g3
  have hsb := RM.sum_bd (B := 80000000) (l := (RM.prs s.st s.ws (s.cs.take k) (p.take k) ++ (RM.pr1 s.st s.ws r l).take j).map (·.2)) fun t ht => by
    obtain ⟨x, hx, rfl⟩ := List.mem_map.1 ht
    exact hb x (hmem x hx)
  rw [List.length_map, List.length_append, List.length_take, RM.pr1_length] at hsb
  have e1 := prs_len (s := s.st) (ws := s.ws) (cs := s.cs.take k) (p := p.take k) fun l hl' => hl l (List.mem_of_mem_take hl')
  rw [List.length_take] at e1
  have e2 := hl l (List.mem_of_getElem? h2)
  have e3 := h.p8
  have e4 := (List.getElem?_eq_some_iff.1 h2).1
  omega
end Go.Proofs.Ytagmidolcdefiah

/- Beginnings of a plan that may be: mathematics. -/
namespace Go.Proofs.Ytagmidolcdefiah
open Go.RowKit
section
variable {s : Sn} {p b : List (List Int)} {k : Nat}
theorem beg_bgn (h : Fs s p) (hb : RM.Beg k b p) : ∃ st, bgn s (k : Int) b = some st := by
  have hl := hb.len
  have hlt := hb.lt
  have hpc := h.pc
  have hsub := hb.sub
  obtain ⟨st, hst⟩ := PM.runs_ok (ms := msk s) (p := b) (c := 0) (st := List.replicate (msk s).length false) (by simp) (fun d l hd x hx => by
    have hd2 := (List.getElem?_eq_some_iff.1 hd).1
    obtain ⟨l2, e, _⟩ := hb.pre d l _ hd (List.getElem?_eq_getElem (show d < p.length by omega))
    rw [Nat.zero_add]
    exact h.fz.ok d _ (List.getElem?_eq_getElem (show d < p.length by omega)) x (by rw [e]; simp [hx])) (fun w hw => by
    rw [PM.nb_rep, Nat.zero_add, ← h.fz.once w hw]
    exact hsub.count_le _)
  refine ⟨st, ?_⟩
  rw [bgn_runs h.rg (by omega) (by omega) (fun c l hc hk => ?_)]
  · exact hst
  · have hc2 := (List.getElem?_eq_some_iff.1 hc).1
    obtain ⟨l2, _, _, e⟩ := hb.pre c l _ hc (List.getElem?_eq_getElem (show c < p.length by omega))
    exact e hk
end
/-- the first lists, a part of the next one, and none behind -/
def cutp (p : List (List Int)) (k j : Nat) : List (List Int) := p.take k ++ ((p[k]?.getD []).take j :: List.replicate (p.length - (k + 1)) [])
theorem cutp_length {p : List (List Int)} {k : Nat} (j : Nat) (hk : k < p.length) : (cutp p k j).length = p.length := by
  unfold cutp
  rw [List.length_append, List.length_cons, List.length_replicate, List.length_take]
  omega
theorem cutp_lo {p : List (List Int)} {k j c : Nat} (hk : k < p.length) (hc : c < k) : (cutp p k j)[c]? = p[c]? := by
  unfold cutp
  rw [List.getElem?_append_left (by rw [List.length_take]; omega), List.getElem?_take, if_pos hc]
theorem cutp_at {p : List (List Int)} {k j : Nat} (hk : k < p.length) : (cutp p k j)[k]? = some ((p[k]?.getD []).take j) := by
  unfold cutp
  rw [List.getElem?_append_right (by rw [List.length_take]; omega), List.length_take, show k - min k p.length = 0 by omega]
  rfl
theorem cutp_hi {p : List (List Int)} {k j c : Nat} (hk : k < p.length) (hc : k < c) (hl : c < p.length) : (cutp p k j)[c]? = some [] := by
  unfold cutp
  rw [List.getElem?_append_right (by rw [List.length_take]; omega), List.length_take, show c - min k p.length = (c - k - 1) + 1 by omega, List.getElem?_cons_succ, List.getElem?_replicate, if_pos (by omega)]
theorem cutp_beg {p : List (List Int)} {k : Nat} (j : Nat) (hk : k < p.length) : RM.Beg k (cutp p k j) p := ⟨cutp_length j hk, hk, fun c l m hl hm => by
  have hcp := (List.getElem?_eq_some_iff.1 hm).1
  rcases Nat.lt_trichotomy c k with h | h | h
  · rw [cutp_lo hk h, hm] at hl
    cases hl
    exact ⟨[], by simp, fun _ => rfl, fun h' => by omega⟩
  · subst h
    rw [cutp_at hk, hm] at hl
    simp only [Option.getD_some, Option.some.injEq] at hl
    subst hl
    exact ⟨m.drop j, (List.take_append_drop j m).symm, fun h' => by omega, fun h' => by omega⟩
  · rw [cutp_hi hk h hcp] at hl
    cases hl
    exact ⟨m, rfl, fun h' => by omega, fun _ => rfl⟩⟩
section
variable {p : List (List Int)} {k : Nat}
theorem cutp_whole {l : List Int} (hk : k + 1 = p.length) (hl : p[k]? = some l) : cutp p k l.length = p := by
  have hlt : k < p.length := by omega
  refine List.ext_getElem? fun c => ?_
  rcases Nat.lt_trichotomy c k with h | h | h
  · exact cutp_lo hlt h
  · subst h
    rw [cutp_at hlt, hl, Option.getD_some, List.take_length]
  · rw [List.getElem?_eq_none (by rw [cutp_length _ hlt]; omega), List.getElem?_eq_none (by omega)]
end
end Go.Proofs.Ytagmidolcdefiah

/- Whether a plan begins so, as the document tells it. -/
namespace Go.Proofs.Ytagmidolcdefiah
open Go.RowKit
end Go.Proofs.Ytagmidolcdefiah

/- Beginnings of a plan that may be, as the program and the document look at them. -/
namespace Go.Proofs.Ytagmidolcdefiah
open Go.RowKit
section
variable {s : Sn} {p b : List (List Int)} {k : Nat}
theorem beg_lsv (h : Fs s p) (hb : RM.Beg k b p) {st : List Bool} (hst : bgn s (k : Int) b = some st) : lsv s k b st = RM.lst s.st s.ws s.cs (msk s) k b := by
  have bs := bgn_bs hst
  have hpc := h.pc
  unfold lsv
  rw [if_pos]
  · unfold RM.lst
    rw [lfk_sum (f := fun w => RM.low (optw s k b w))]
    congr 1
    refine RM.sr_congr fun w hw => ?_
    by_cases hm : (w : Int) ∈ b.flatten
    · rw [if_pos hm, if_neg (fun e => (bs.lf w hw).1 e hm)]
    · rw [if_neg hm, if_pos ((bs.lf w hw).2 hm)]; rfl
  · rw [List.all_eq_true]
    intro x hx
    obtain ⟨w, rfl, hw, hs⟩ := lfk_mem.1 hx
    rw [Int.toNat_natCast]
    have := RM.opt_ne h.rz h.fz h.ml h.pc hb hw ((bs.lf w hw).1 hs)
    cases e : optw s k b w with
    | nil => exact absurd e this
    | cons _ _ => rfl
end
end Go.Proofs.Ytagmidolcdefiah

/- The search, node by node: mathematics. No program is named here. -/
namespace Go.Proofs.Ytagmidolcdefiah
/-- what a search knows -/
structure Sx where
  nodes : Nat
  ended : Bool
  plan : List (List Int)
  cost : Int
  marks : List Nat
/-- may the car take the want? -/
def mayk (s : Sn) (k : Nat) (w : Int) : Bool := PM.bt ((msk s)[w.toNat]?.getD 0) k
/-- the wants that are left -/
def lfs (s : Sn) (st : List Bool) : List Int := lfk st s.ws.length
/-- a node's children in its own list -/
def kids (s : Sn) (go : Nat → List (List Int) → List Bool → Sx → Sx) (k : Nat) (b : List (List Int)) (st : List Bool) (l : List Int) (x : Sx) : Sx :=
  l.foldl (fun y w => if mayk s k w = true then go k (PM.add b k w) (st.set w.toNat true) y else y) x
/-- and the next car's -/
def nxt (go : Nat → List (List Int) → List Bool → Sx → Sx) (k : Nat) (b : List (List Int)) (st : List Bool) (x : Sx) : Sx := if k + 1 < b.length then go (k + 1) b st x else x
/-- a node is visited -/
def vst (s : Sn) (B : Nat) (go : Nat → List (List Int) → List Bool → Sx → Sx) (k : Nat) (b : List (List Int)) (st : List Bool) (x : Sx) : Sx :=
  if x.ended = true then x
  else if x.nodes = B then ⟨x.nodes, true, x.plan, x.cost, x.marks⟩
  else if lfs s st = [] then
    (if RM.cst s.st s.ws s.cs b < x.cost then ⟨x.nodes + 1, false, b, RM.cst s.st s.ws s.cs b, x.marks ++ [2]⟩ else ⟨x.nodes + 1, false, x.plan, x.cost, x.marks ++ [2]⟩)
  else if x.cost ≤ lsv s k b st then ⟨x.nodes + 1, false, x.plan, x.cost, x.marks ++ [0]⟩
  else nxt go k b st (kids s go k b st (lfs s st) ⟨x.nodes + 1, false, x.plan, x.cost, x.marks ++ [1]⟩)
def vis (s : Sn) (B : Nat) : Nat → Nat → List (List Int) → List Bool → Sx → Sx
  | 0, _, _, _, x => x
  | f + 1, k, b, st, x => vst s B (vis s B f) k b st x
section
variable {s : Sn} {B : Nat}
/-- what each visit keeps -/
theorem kids_rel {R : Sx → Sx → Prop} (h0 : ∀ x, R x x) (ht : ∀ x y z, R x y → R y z → R x z) {go : Nat → List (List Int) → List Bool → Sx → Sx} {k : Nat} {b : List (List Int)} {st : List Bool} :
    ∀ (l : List Int), (∀ w ∈ l, mayk s k w = true → ∀ x, R x (go k (PM.add b k w) (st.set w.toNat true) x)) → ∀ x, R x (kids s go k b st l x)
  | [], _, x => h0 x
  | w :: l, hg, x => by
    have ih := kids_rel h0 ht (go := go) (k := k) (b := b) (st := st) l (fun v hv => hg v (by simp [hv]))
    show R x (kids s go k b st l (if mayk s k w = true then go k (PM.add b k w) (st.set w.toNat true) x else x))
    by_cases hm : mayk s k w = true
    · rw [if_pos hm]
      exact ht _ _ _ (hg w (by simp) hm x) (ih _)
    · rw [if_neg hm]
      exact ih x
/-- a search that has ended stays -/
theorem vis_ended (f k : Nat) (b : List (List Int)) (st : List Bool) (x : Sx) (h : x.ended = true) : vis s B f k b st x = x := by
  cases f with
  | zero => rfl
  | succ f => show vst s B _ k b st x = x; unfold vst; rw [if_pos h]
theorem kids_append {go : Nat → List (List Int) → List Bool → Sx → Sx} {k : Nat} {b : List (List Int)} {st : List Bool} (l m : List Int) (x : Sx) : kids s go k b st (l ++ m) x = kids s go k b st m (kids s go k b st l x) := by
  unfold kids; rw [List.foldl_append]
/-- the cost doesn't rise; nodes don't fall; what has ended has ended -/
def Dn (x y : Sx) : Prop := y.cost ≤ x.cost ∧ x.nodes ≤ y.nodes ∧ (x.ended = true → y = x)
theorem Dn.refl (x : Sx) : Dn x x := ⟨Int.le_refl _, Nat.le_refl _, fun _ => rfl⟩
theorem Dn.trans {x y z : Sx} (h : Dn x y) (g : Dn y z) : Dn x z := ⟨Int.le_trans g.1 h.1, Nat.le_trans h.2.1 g.2.1, fun e => by
  have e1 := h.2.2 e
  rw [e1] at g
  exact g.2.2 e⟩
theorem vis_dn : ∀ (f k : Nat) (b : List (List Int)) (st : List Bool) (x : Sx), Dn x (vis s B f k b st x)
  | 0, _, _, _, x => Dn.refl x
  | f + 1, k, b, st, x => by
    show Dn x (vst s B (vis s B f) k b st x)
    unfold vst
    by_cases h1 : x.ended = true
    · rw [if_pos h1]; exact Dn.refl x
    · rw [if_neg h1]
      have step : ∀ (p : List (List Int)) (c : Int) (m : List Nat) (e : Bool) (n : Nat), c ≤ x.cost → x.nodes ≤ n → Dn x ⟨n, e, p, c, m⟩ := fun p c m e n hc hn => ⟨hc, hn, fun h => absurd h h1⟩
      by_cases h2 : x.nodes = B
      · rw [if_pos h2]; exact step _ _ _ _ _ (Int.le_refl _) (Nat.le_refl _)
      · rw [if_neg h2]
        by_cases h3 : lfs s st = []
        · rw [if_pos h3]
          by_cases h4 : RM.cst s.st s.ws s.cs b < x.cost
          · rw [if_pos h4]; exact step _ _ _ _ _ (by omega) (by omega)
          · rw [if_neg h4]; exact step _ _ _ _ _ (Int.le_refl _) (by omega)
        · rw [if_neg h3]
          by_cases h5 : x.cost ≤ lsv s k b st
          · rw [if_pos h5]; exact step _ _ _ _ _ (Int.le_refl _) (by omega)
          · rw [if_neg h5]
            refine (step x.plan x.cost (x.marks ++ [1]) false (x.nodes + 1) (Int.le_refl _) (by omega)).trans ?_
            refine (kids_rel (s := s) (R := Dn) Dn.refl (fun _ _ _ h g => h.trans g) (b := b) (st := st) (lfs s st) (fun w _ _ y => vis_dn f k _ _ y) _).trans ?_
            unfold nxt
            split
            · exact vis_dn f (k + 1) b st _
            · exact Dn.refl _
/-- what is right of a search: its plan may be, and costs what is told -/
structure Sxo (s : Sn) (B : Nat) (x : Sx) : Prop where
  fe : fsb s x.plan = true
  co : x.cost = RM.cst s.st s.ws s.cs x.plan
  nb : x.nodes ≤ B
  en : x.ended = true → x.nodes = B
end
section
variable {s : Sn} {B k : Nat} {b : List (List Int)} {st : List Bool}
/-- what a node is -/
theorem bgn_all (hb : bgn s (k : Int) b = some st) : rgt s = true ∧ b.length = s.cs.length ∧ k < b.length ∧ (∀ (c : Nat) l, b[c]? = some l → k < c → l = []) ∧ (∀ (c : Nat) l, b[c]? = some l → ∀ x ∈ l, PM.okx (msk s) c x = true) ∧ st.length = (msk s).length ∧ ∀ w, w < (msk s).length → PM.nb st w = b.flatten.count (w : Int) := by
  have h := bgn_bs hb
  have e := bgn_runs h.rg h.pc.symm h.kl h.bh
  rw [hb] at e
  have hr := PM.runs_some (by simp) e.symm
  refine ⟨h.rg, h.pc.symm, h.kl, h.bh, fun c l hl x hx => ?_, hr.2.1, fun w hw => ?_⟩
  · have := hr.1 c l hl x hx
    rwa [Nat.zero_add] at this
  · rw [hr.2.2 w hw, PM.nb_rep, Nat.zero_add]
theorem nb_ext {st st' : List Bool} (hl : st.length = st'.length) (h : ∀ w, w < st.length → PM.nb st w = PM.nb st' w) : st = st' := by
  refine List.ext_getElem? fun w => ?_
  by_cases hw : w < st.length
  · have h1 := h w hw
    obtain ⟨x, hx⟩ : ∃ x, st[w]? = some x := ⟨_, List.getElem?_eq_getElem hw⟩
    obtain ⟨y, hy⟩ : ∃ y, st'[w]? = some y := ⟨_, List.getElem?_eq_getElem (by omega)⟩
    cases x <;> cases y
    · rw [hx, hy]
    · rw [PM.nb_false hx, PM.nb_true hy] at h1; omega
    · rw [PM.nb_true hx, PM.nb_false hy] at h1; omega
    · rw [hx, hy]
  · rw [List.getElem?_eq_none (by omega), List.getElem?_eq_none (by omega)]
theorem bgn_mk (h1 : rgt s = true) (h2 : b.length = s.cs.length) (h3 : k < b.length) (h4 : ∀ (c : Nat) l, b[c]? = some l → k < c → l = []) (h5 : ∀ (c : Nat) l, b[c]? = some l → ∀ x ∈ l, PM.okx (msk s) c x = true) (h6 : st.length = (msk s).length) (h7 : ∀ w, w < (msk s).length → PM.nb st w = b.flatten.count (w : Int)) : bgn s (k : Int) b = some st := by
  rw [bgn_runs h1 h2 h3 h4]
  have hnb : ∀ w, PM.nb st w ≤ 1 := fun w => by unfold PM.nb; split <;> omega
  obtain ⟨st', hst⟩ := PM.runs_ok (ms := msk s) (p := b) (c := 0) (st := List.replicate (msk s).length false) (by simp) (fun d l hd x hx => by rw [Nat.zero_add]; exact h5 d l hd x hx) (fun w hw => by rw [PM.nb_rep, Nat.zero_add, ← h7 w hw]; exact hnb w)
  have hr := PM.runs_some (by simp) hst
  have e : st' = st := nb_ext (by rw [hr.2.1, h6]) fun w hw => by
    have hw2 : w < (msk s).length := by have := hr.2.1; omega
    rw [hr.2.2 w hw2, PM.nb_rep, Nat.zero_add, h7 w hw2]
  rw [hst, e]
theorem msk_len (s : Sn) : (msk s).length = s.ws.length := by unfold msk; rw [List.length_map]
/-- a node with one want more -/
theorem bgn_add (hb : bgn s (k : Int) b = some st) {w : Nat} (hw : w < s.ws.length) (hs : st[w]? = some false) (hm : mayk s k (w : Int) = true) : bgn s (k : Int) (PM.add b k (w : Int)) = some (st.set w true) := by
  obtain ⟨h1, h2, h3, h4, h5, h6, h7⟩ := bgn_all hb
  have hml := msk_len s
  have hlen : (PM.add b k (w : Int)).length = b.length := by unfold PM.add; rw [List.length_set]
  have hget : ∀ (c : Nat) l, (PM.add b k (w : Int))[c]? = some l → (c ≠ k ∧ b[c]? = some l) ∨ (c = k ∧ l = b[k]?.getD [] ++ [(w : Int)]) := fun c l hl => by
    unfold PM.add at hl
    by_cases e : k = c
    · subst e
      rw [List.getElem?_set_self h3] at hl
      cases hl
      exact .inr ⟨rfl, rfl⟩
    · rw [List.getElem?_set_ne e] at hl
      exact .inl ⟨fun h => e h.symm, hl⟩
  refine bgn_mk h1 (by rw [hlen, h2]) (by rw [hlen]; exact h3) (fun c l hl hc => ?_) (fun c l hl x hx => ?_) (by rw [List.length_set]; exact h6) (fun v hv => ?_)
  · rcases hget c l hl with ⟨_, h⟩ | ⟨e, _⟩
    · exact h4 c l h hc
    · omega
  · rcases hget c l hl with ⟨_, h⟩ | ⟨e, e2⟩
    · exact h5 c l h x hx
    · subst e
      rw [e2, List.mem_append, List.mem_singleton] at hx
      rcases hx with hx | hx
      · exact h5 c _ (List.getElem?_eq_getElem h3) x (by rw [List.getElem?_eq_getElem h3] at hx; exact hx)
      · rw [hx]
        exact PM.okx_iff.2 ⟨by omega, by omega, hm⟩
  · rw [PM.nb_set (by omega) hs, h7 v hv, PM.count_add h3]
    congr 1
    by_cases e : v = w
    · subst e; simp
    · rw [if_neg e, if_neg (by omega)]
/-- a node with the next car -/
theorem bgn_next (hb : bgn s (k : Int) b = some st) (hk : k + 1 < b.length) : bgn s ((k + 1 : Nat) : Int) b = some st := by
  obtain ⟨h1, h2, _, h4, h5, h6, h7⟩ := bgn_all hb
  exact bgn_mk h1 h2 hk (fun c l hl hc => h4 c l hl (by omega)) h5 h6 h7
theorem lfs_mem {x : Int} : x ∈ lfs s st ↔ ∃ w : Nat, x = (w : Int) ∧ w < s.ws.length ∧ st[w]? = some false := lfk_mem
/-- a node without wants left is a plan -/
theorem bgn_leaf (hb : bgn s (k : Int) b = some st) (hl : lfs s st = []) : fsb s b = true := by
  obtain ⟨h1, h2, h3, h4, h5, h6, h7⟩ := bgn_all hb
  have hr := bgn_runs h1 h2 h3 h4
  rw [hb] at hr
  have hall : st.all id = true := by
    rw [List.all_eq_true]
    intro x hx
    obtain ⟨w, hw⟩ := List.getElem?_of_mem hx
    cases x with
    | true => rfl
    | false =>
      have : (w : Int) ∈ lfs s st := lfs_mem.2 ⟨w, rfl, by have := (List.getElem?_eq_some_iff.1 hw).1; have := msk_len s; omega, hw⟩
      rw [hl] at this
      simp at this
  unfold fsb PM.feas
  rw [← hr, h1, h2]
  simp [hall]
/-- what each visit keeps right -/
theorem vis_ok : ∀ (f : Nat) {k : Nat} {b : List (List Int)} {st : List Bool} (x : Sx), bgn s (k : Int) b = some st → Sxo s B x → Sxo s B (vis s B f k b st x)
  | 0, _, _, _, _, _, h => h
  | f + 1, k, b, st, x, hb, h => by
    show Sxo s B (vst s B (vis s B f) k b st x)
    unfold vst
    by_cases h1 : x.ended = true
    · rw [if_pos h1]; exact h
    · rw [if_neg h1]
      by_cases h2 : x.nodes = B
      · rw [if_pos h2]; exact ⟨h.fe, h.co, h.nb, fun _ => h2⟩
      · rw [if_neg h2]
        have hnb : x.nodes + 1 ≤ B := by have := h.nb; omega
        have hno : ∀ {n : Nat}, (false = true → n = B) := fun e => by cases e
        by_cases h3 : lfs s st = []
        · rw [if_pos h3]
          by_cases h4 : RM.cst s.st s.ws s.cs b < x.cost
          · rw [if_pos h4]; exact ⟨bgn_leaf hb h3, rfl, hnb, hno⟩
          · rw [if_neg h4]; exact ⟨h.fe, h.co, hnb, hno⟩
        · rw [if_neg h3]
          by_cases h5 : x.cost ≤ lsv s k b st
          · rw [if_pos h5]; exact ⟨h.fe, h.co, hnb, hno⟩
          · rw [if_neg h5]
            have hk := kids_rel (s := s) (R := fun x y => Sxo s B x → Sxo s B y) (fun _ h => h) (fun _ _ _ h g e => g (h e)) (go := vis s B f) (k := k) (b := b) (st := st) (lfs s st) (fun w hw hm y hy => by
              obtain ⟨v, rfl, hv, hs⟩ := lfs_mem.1 hw
              exact vis_ok f y (by rw [Int.toNat_natCast]; exact bgn_add hb hv hs hm) hy) ⟨x.nodes + 1, false, x.plan, x.cost, x.marks ++ [1]⟩ ⟨h.fe, h.co, hnb, hno⟩
            unfold nxt
            split
            · rename_i hlt
              exact vis_ok f _ (bgn_next hb hlt) hk
            · exact hk
end
end Go.Proofs.Ytagmidolcdefiah
