/- Several texts in one, each with its own head. -/
import Derived.Test.YtdfdkddjkhcgdaiPk3
import Derived.TacticsInMore
import Derived.Test.YtdfdkddjkhcgdaiPk4
/- What the laws ask first: whether a snapshot, or a plan, is more than is looked at; the site of the example. -/
namespace Go.Proofs.Ytdfdkddjkhcgdai
open Go.RowKit

theorem wpListIn_load27g {F : Fence} {n : Nat} {ops : Array Oper} {rest : List Oper} {op : Oper} {a : Act} {w : World} {Q : Exit → Act → World → Prop} (hgd : Region.wanted op (yielded ops a.tmps) = true) (x : Operand) (ho : op.op = .load 36 x)
    (b : Nat) (s : St) (vc vw : Value) (hx : a.eval x = .pointer (some ⟨b, 0, none⟩)) (hr : NB w b s vc vw)
    (h : wpListIn F n Try.prog ops Q rest (a.put op.dst (.agg (nv s vc vw).toArray)) w) : wpListIn F n Try.prog ops Q (op :: rest) a w := by
  refine wpListIn_step fun K hK => ?_
  rw [if_pos hgd]
  unfold Oper.wpIn
  refine ⟨by simp [Oper.about, ho], ?_⟩
  rw [Oper.semAt_plain F _ _ (by rw [ho]; intro c hc'; cases hc')]
  simp only [execOp, ho, Sem.run_bind, Sem.run_pure, Result.andThen_ok, hx, load27 w b s vc vw hr.range, Oper.uponIn]
  exact hK _ _ h

/-- what is looked at -/
structure Sml (s : Sn) (p : List (List Int)) : Prop where
  cs : s.cs.length ≤ 20
  ws : s.ws.length ≤ 200
  pl : p.length ≤ 20
  ll : ∀ l ∈ p, l.length ≤ 200

/-- the answer of it -/
structure GrP (s : Sn) (p : List (List Int)) (w : World) (e : Ending) (w' : World) : Prop where
  out : ∃ g : Bool, e = .returned (.bool g) ∧ Below w.heap.size w w' ∧ (g = false → Sml s p)
set_option maxHeartbeats 4000000 in
theorem great_any (s : Sn) (D : Nat → Prop) (vc vw vp : Value) (p : List (List Int)) (w : World) (hc : R2 D w vc s.cs) (hw : R2 D w vw s.ws) (hp : RL D w vp p) :
    Calls Try.prog 9 #[.agg (nv s.st vc vw).toArray, vp] w fun e w' => GrP s p w e w' := by
  have HP := Hid.intro' hp
  have hbx := (Below.refl w.heap.size w).alloc (Nat.le_refl _) (.cells (nv s.st vc vw).toArray 36)
  have HN := Hid.intro' (NB.new w s.st vc vw)
  have HB := Hid.intro' hbx
  obtain ⟨ac, kc, rfl, _, _⟩ := hc.form
  obtain ⟨aw, kw, rfl, _, _⟩ := hw.form
  obtain ⟨ap, kp, rfl, _, _⟩ := hp.form
  have c13 : (w.alloc (.cells (nv s.st (.slice ac s.cs.length kc) (.slice aw s.ws.length kw)).toArray 36)).cell? ⟨w.heap.size, 13, none⟩ = some (.slice ac s.cs.length kc) := HN.out.cell 13
  have c14 : (w.alloc (.cells (nv s.st (.slice ac s.cs.length kc) (.slice aw s.ws.length kw)).toArray 36)).cell? ⟨w.heap.size, 14, none⟩ = some (.slice aw s.ws.length kw) := HN.out.cell 14
  clear hc hw hp hbx
  by_cases h1 : 20 < s.cs.length
  · have q1 : decide ((20 : Int) < (s.cs.length : Int)) = true := decide_eq_true (by omega)
    clear h1
    go_enter Try.func9, Try.ntmps9
    go_wp2
    go_ret
    exact ⟨⟨true, rfl, HB.out, fun h => by cases h⟩⟩
  · by_cases h2 : 200 < s.ws.length
    · have q1 : decide ((20 : Int) < (s.cs.length : Int)) = false := decide_eq_false (by omega)
      have q2 : decide ((200 : Int) < (s.ws.length : Int)) = true := decide_eq_true (by omega)
      clear h1 h2
      go_enter Try.func9, Try.ntmps9
      go_wp2
      go_ret
      exact ⟨⟨true, rfl, HB.out, fun h => by cases h⟩⟩
    · by_cases h3 : 20 < p.length
      · have q1 : decide ((20 : Int) < (s.cs.length : Int)) = false := decide_eq_false (by omega)
        have q2 : decide ((200 : Int) < (s.ws.length : Int)) = false := decide_eq_false (by omega)
        have q3 : decide ((20 : Int) < (p.length : Int)) = true := decide_eq_true (by omega)
        clear h1 h2 h3
        go_enter Try.func9, Try.ntmps9
        go_wp2
        go_ret
        exact ⟨⟨true, rfl, HB.out, fun h => by cases h⟩⟩
      · have q1 : decide ((20 : Int) < (s.cs.length : Int)) = false := decide_eq_false (by omega)
        have q2 : decide ((200 : Int) < (s.ws.length : Int)) = false := decide_eq_false (by omega)
        have q3 : decide ((20 : Int) < (p.length : Int)) = false := decide_eq_false (by omega)
        have hpz : (p.length : Int) ≤ 20 := by omega
        have HS := Hid.intro' (And.intro h1 (And.intro h2 h3))
        clear h1 h2 h3
        go_enter Try.func9, Try.ntmps9
        go_wp2_with fail
        clear c13 c14 q1 q2 q3
        generalize (w.alloc (.cells (nv s.st (.slice ac s.cs.length kc) (.slice aw s.ws.length kw)).toArray 36)) = W1 at HB HN ⊢
        go_loop [24] (fun i => ∃ k : Nat, k ≤ p.length ∧ i = .int .i64 (k : Int) ∧ Hid (∀ (j : Nat) l, j < k → p[j]? = some l → l.length ≤ 200)) (fun i => p.length - (intOf i).toNat)
        case atStart => exact ⟨0, Nat.zero_le _, rfl, fun j l h => absurd h (by omega)⟩
        case round =>
          obtain ⟨k, hk, rfl, HA⟩ := hrel
          by_cases hlt : k < p.length
          · have hkz : (k : Int) < (p.length : Int) := by omega
            obtain ⟨l, hl⟩ : ∃ l, p[k]? = some l := ⟨_, List.getElem?_eq_getElem hlt⟩
            obtain ⟨g, o, rfl, u, hcu, hru⟩ := (HP.out.below' HB.out).at hl
            obtain ⟨au, ku, rfl, _, _⟩ := hru.form
            have HL := Hid.intro' hl
            clear hl hru
            by_cases hll : 200 < l.length
            · have hz : decide ((200 : Int) < (l.length : Int)) = true := decide_eq_true (by omega)
              clear hll
              go_wp2
              go_ret
              exact ⟨⟨true, rfl, HB.out, fun h => by cases h⟩⟩
            · have hz : decide ((200 : Int) < (l.length : Int)) = false := decide_eq_false (by omega)
              have HLL := Hid.intro' hll
              clear hll
              go_wp2
              go_round
              case rel =>
                refine ⟨k + 1, by omega, by go_num, fun j l' hj hl' => ?_⟩
                by_cases e : j = k
                · subst e
                  rw [HL.out] at hl'
                  cases hl'
                  have := HLL.out
                  omega
                · exact HA.out j l' (by omega) hl'
              case measure => simp [intOf]; omega
          · have hkz : ¬ (k : Int) < (p.length : Int) := by omega
            have HF : Hid (Sml s p) := by
              have h := HS.out
              refine ⟨by omega, by omega, by omega, fun l hl => ?_⟩
              obtain ⟨i, hi⟩ := List.getElem?_of_mem hl
              exact HA.out i l (by have := (List.getElem?_eq_some_iff.1 hi).1; omega) hi
            go_wp2
            go_ret
            exact ⟨⟨false, rfl, HB.out, fun _ => HF.out⟩⟩

/-- the example's site -/
def oneSt : St := ⟨5, 1, 0, 2, 0, 3, 1, 1, 0, 1, 1, 1, 1⟩
/-- the example -/
def oneSn : Sn := ⟨oneSt, [(0, 0)], [(1, 1), (2, 1)]⟩
theorem one_rgt : rgt oneSn = true := by decide
theorem one_msk : msk oneSn = [1, 1] := rfl
theorem one_fsb : fsb oneSn [[1, 0]] = true := by decide

end Go.Proofs.Ytdfdkddjkhcgdai

/- Three plans that grow side by side: a want put in twice, taken out, and taken out (to be put elsewhere). -/
namespace Go.Proofs.Ytdfdkddjkhcgdai
open Go.RowKit Go.Shelf

/-- blocks of none of the three rows -/
def Far (B gt go gd : Nat) (g : Nat) : Prop := B ≤ g ∧ g ≠ gt ∧ g ≠ go ∧ g ≠ gd
structure On (W : World) (B : Nat) (x : Int) (p : List (List Int)) (kt ko kd gt go gd ct co cd : Nat) (ut uo ud : List Value) : Prop where
  ot : OP W B (.slice (some ⟨gt, 0, none⟩) kt ct) ut
  oo : OP W B (.slice (some ⟨go, 0, none⟩) ko co) uo
  od : OP W B (.slice (some ⟨gd, 0, none⟩) kd cd) ud
  n1 : gt ≠ go
  n2 : gt ≠ gd
  n3 : go ≠ gd
  rt : ∀ (i : Nat) u l, ut[i]? = some u → p[i]? = some l → RI (Far B gt go gd) W u (PM.tw x l)
  ro : ∀ (i : Nat) u l, uo[i]? = some u → p[i]? = some l → RI (Far B gt go gd) W u (PM.fw x l)
  rd : ∀ (i : Nat) u l, ud[i]? = some u → p[i]? = some l → OI W B u (PM.fw x l)
  rf : ∀ (i : Nat) u g, ud[i]? = some u → u.ownBlock = some g → Far B gt go gd g ∧ g < W.heap.size
  rs : ∀ (i j : Nat) u u' g, i ≠ j → ud[i]? = some u → ud[j]? = some u' → u.ownBlock = some g → u'.ownBlock ≠ some g
section
variable {W W' : World} {B : Nat} {x : Int} {p : List (List Int)} {kt ko kd gt go gd ct co cd : Nat} {ut uo ud : List Value}
theorem On.keep (h : On W B x p kt ko kd gt go gd ct co cd ut uo ud) (hs : W.heap.size ≤ W'.heap.size) (hk : ∀ g, B ≤ g → g < W.heap.size → W'.heap[g]? = W.heap[g]?) : On W' B x p kt ko kd gt go gd ct co cd ut uo ud :=
  ⟨h.ot.keep fun g hg => hk g (h.ot.lt g hg).1 (h.ot.lt g hg).2, h.oo.keep fun g hg => hk g (h.oo.lt g hg).1 (h.oo.lt g hg).2, h.od.keep fun g hg => hk g (h.od.lt g hg).1 (h.od.lt g hg).2, h.n1, h.n2, h.n3,
    fun i u l hu hl => (h.rt i u l hu hl).keep hs fun g hg hlt => hk g hg.1 hlt, fun i u l hu hl => (h.ro i u l hu hl).keep hs fun g hg hlt => hk g hg.1 hlt,
    fun i u l hu hl => (h.rd i u l hu hl).keep fun g hg => hk g ((h.rd i u l hu hl).lt g hg).1 ((h.rd i u l hu hl).lt g hg).2, fun i u g hu hg => ⟨(h.rf i u g hu hg).1, Nat.lt_of_lt_of_le (h.rf i u g hu hg).2 hs⟩, h.rs⟩
theorem On.below' (h : On W B x p kt ko kd gt go gd ct co cd ut uo ud) (hb : Below W.heap.size W W') : On W' B x p kt ko kd gt go gd ct co cd ut uo ud := h.keep hb.size fun g _ hlt => hb.block g hlt
theorem snoc_get {α : Type} {l : List α} {a u : α} {i : Nat} (h : (l ++ [a])[i]? = some u) : l[i]? = some u ∨ (i = l.length ∧ u = a) := by
  by_cases hi : i < l.length
  · rw [List.getElem?_append_left hi] at h; exact .inl h
  · rw [List.getElem?_append_right (by omega)] at h
    have hi0 : i - l.length = 0 := by
      have := (List.getElem?_eq_some_iff.1 h).1
      simp at this
      omega
    rw [hi0] at h
    simp at h
    exact .inr ⟨by omega, h.symm⟩
theorem grown_keep {row : Nat} (hg : W.grownBy W' (some row)) {g : Nat} (hlt : g < W.heap.size) (hne : g ≠ row) : W'.heap[g]? = W.heap[g]? := hg.block g hlt (fun e => hne (Option.some.inj e))
/-- one list more that has the want twice -/
theorem On.growT (h : On W B x p kt ko kd gt go gd ct co cd ut uo ud) {gt' ct' : Nat} {a : Value} {l : List Int} (ho : OP W' B (.slice (some ⟨gt', 0, none⟩) (ut.length + 1) ct') (ut ++ [a])) (hg : W.grownBy W' (some gt)) (hat : gt' = gt ∨ gt' = W.heap.size)
    (hr : RI (Far B gt go gd) W a (PM.tw x l)) (hl : p[ut.length]? = some l) : On W' B x p (ut.length + 1) ko kd gt' go gd ct' co cd (ut ++ [a]) uo ud := by
  have lo := h.oo.lt go rfl
  have ld := h.od.lt gd rfl
  have mono : ∀ {u : Value} {m : List Int}, RI (Far B gt go gd) W u m → RI (Far B gt' go gd) W' u m := fun {u m} hu => by
    refine ((hu.mono (D' := fun g => Far B gt go gd g ∧ g < W.heap.size) fun g hg hlt _ => ⟨hg, hlt⟩).keep hg.size fun g hg' hlt => grown_keep hg hlt hg'.1.2.1).mono fun g hg' _ _ => ⟨hg'.1.1, ?_, hg'.1.2.2⟩
    rcases hat with e | e
    · rw [e]; exact hg'.1.2.1
    · have := hg'.2; omega
  refine ⟨ho, h.oo.keep fun g e => ?_, h.od.keep fun g e => ?_, ?_, ?_, h.n3, fun i u m hu hm => ?_, fun i u m hu hm => mono (h.ro i u m hu hm), fun i u m hu hm => (h.rd i u m hu hm).keep fun g e => ?_, fun i u g hu e => ?_, h.rs⟩
  · cases e; exact grown_keep hg lo.2 (Ne.symm h.n1)
  · cases e; exact grown_keep hg ld.2 (Ne.symm h.n2)
  · rcases hat with e | e
    · rw [e]; exact h.n1
    · omega
  · rcases hat with e | e
    · rw [e]; exact h.n2
    · omega
  · rcases snoc_get hu with hu | ⟨rfl, rfl⟩
    · exact mono (h.rt i u m hu hm)
    · rw [hl] at hm; cases hm; exact mono hr
  · have hf := h.rf i u g hu e
    exact grown_keep hg hf.2 hf.1.2.1
  · have hf := h.rf i u g hu e
    refine ⟨⟨hf.1.1, ?_, hf.1.2.2⟩, Nat.lt_of_lt_of_le hf.2 hg.size⟩
    rcases hat with e | e
    · rw [e]; exact hf.1.2.1
    · have := hf.2; omega
/-- one list more that hasn't the want -/
theorem On.growO (h : On W B x p kt ko kd gt go gd ct co cd ut uo ud) {go' co' : Nat} {a : Value} {l : List Int} (ho : OP W' B (.slice (some ⟨go', 0, none⟩) (uo.length + 1) co') (uo ++ [a])) (hg : W.grownBy W' (some go)) (hat : go' = go ∨ go' = W.heap.size)
    (hr : RI (Far B gt go gd) W a (PM.fw x l)) (hl : p[uo.length]? = some l) : On W' B x p kt (uo.length + 1) kd gt go' gd ct co' cd ut (uo ++ [a]) ud := by
  have lt := h.ot.lt gt rfl
  have ld := h.od.lt gd rfl
  have mono : ∀ {u : Value} {m : List Int}, RI (Far B gt go gd) W u m → RI (Far B gt go' gd) W' u m := fun {u m} hu => by
    refine ((hu.mono (D' := fun g => Far B gt go gd g ∧ g < W.heap.size) fun g hg hlt _ => ⟨hg, hlt⟩).keep hg.size fun g hg' hlt => grown_keep hg hlt hg'.1.2.2.1).mono fun g hg' _ _ => ⟨hg'.1.1, hg'.1.2.1, ?_, hg'.1.2.2.2⟩
    rcases hat with e | e
    · rw [e]; exact hg'.1.2.2.1
    · have := hg'.2; omega
  refine ⟨h.ot.keep fun g e => ?_, ho, h.od.keep fun g e => ?_, ?_, h.n2, ?_, fun i u m hu hm => mono (h.rt i u m hu hm), fun i u m hu hm => ?_, fun i u m hu hm => (h.rd i u m hu hm).keep fun g e => ?_, fun i u g hu e => ?_, h.rs⟩
  · cases e; exact grown_keep hg lt.2 h.n1
  · cases e; exact grown_keep hg ld.2 (Ne.symm h.n3)
  · rcases hat with e | e
    · rw [e]; exact h.n1
    · omega
  · rcases hat with e | e
    · rw [e]; exact h.n3
    · omega
  · rcases snoc_get hu with hu | ⟨rfl, rfl⟩
    · exact mono (h.ro i u m hu hm)
    · rw [hl] at hm; cases hm; exact mono hr
  · have hf := h.rf i u g hu e
    exact grown_keep hg hf.2 hf.1.2.2.1
  · have hf := h.rf i u g hu e
    refine ⟨⟨hf.1.1, hf.1.2.1, ?_, hf.1.2.2.2⟩, Nat.lt_of_lt_of_le hf.2 hg.size⟩
    rcases hat with e | e
    · rw [e]; exact hf.1.2.2.1
    · have := hf.2; omega
/-- one list more that hasn't the want, and is nobody's else -/
theorem On.growD (h : On W B x p kt ko kd gt go gd ct co cd ut uo ud) {gd' cd' M : Nat} {a : Value} {l : List Int} (ho : OP W' B (.slice (some ⟨gd', 0, none⟩) (ud.length + 1) cd') (ud ++ [a])) (hg : W.grownBy W' (some gd)) (hat : gd' = gd ∨ gd' = W.heap.size)
    (hr : OI W M a (PM.fw x l)) (hl : p[ud.length]? = some l) (hM : ∀ g, (g = gt ∨ g = go ∨ g = gd ∨ ∃ (i : Nat) (u : Value), ud[i]? = some u ∧ u.ownBlock = some g) → g < M) (hBM : B ≤ M) : On W' B x p kt ko (ud.length + 1) gt go gd' ct co cd' ut uo (ud ++ [a]) := by
  have lt := h.ot.lt gt rfl
  have lo := h.oo.lt go rfl
  have mono : ∀ {u : Value} {m : List Int}, RI (Far B gt go gd) W u m → RI (Far B gt go gd') W' u m := fun {u m} hu => by
    refine ((hu.mono (D' := fun g => Far B gt go gd g ∧ g < W.heap.size) fun g hg hlt _ => ⟨hg, hlt⟩).keep hg.size fun g hg' hlt => grown_keep hg hlt hg'.1.2.2.2).mono fun g hg' _ _ => ⟨hg'.1.1, hg'.1.2.1, hg'.1.2.2.1, ?_⟩
    rcases hat with e | e
    · rw [e]; exact hg'.1.2.2.2
    · have := hg'.2; omega
  have hal : ∀ g, a.ownBlock = some g → M ≤ g ∧ g < W.heap.size := hr.lt
  have hna : ∀ g, a.ownBlock = some g → g ≠ gt ∧ g ≠ go ∧ g ≠ gd := fun g e => by
    have h1 := (hal g e).1
    have h2 := hM gt (.inl rfl)
    have h3 := hM go (.inr (.inl rfl))
    have h4 := hM gd (.inr (.inr (.inl rfl)))
    omega
  refine ⟨h.ot.keep fun g e => ?_, h.oo.keep fun g e => ?_, ho, h.n1, ?_, ?_, fun i u m hu hm => mono (h.rt i u m hu hm), fun i u m hu hm => mono (h.ro i u m hu hm), fun i u m hu hm => ?_, fun i u g hu e => ?_, fun i j u u' g hij hu hu' e => ?_⟩
  · cases e; exact grown_keep hg lt.2 h.n2
  · cases e; exact grown_keep hg lo.2 h.n3
  · rcases hat with e | e
    · rw [e]; exact h.n2
    · omega
  · rcases hat with e | e
    · rw [e]; exact h.n3
    · omega
  · rcases snoc_get hu with hu | ⟨rfl, rfl⟩
    · exact (h.rd i u m hu hm).keep fun g e => by
        have hf := h.rf i u g hu e
        exact grown_keep hg hf.2 hf.1.2.2.2
    · rw [hl] at hm
      cases hm
      exact (hr.mono hBM).keep fun g e => grown_keep hg (hal g e).2 (hna g e).2.2
  · rcases snoc_get hu with hu | ⟨rfl, rfl⟩
    · have hf := h.rf i u g hu e
      refine ⟨⟨hf.1.1, hf.1.2.1, hf.1.2.2.1, ?_⟩, Nat.lt_of_lt_of_le hf.2 hg.size⟩
      rcases hat with e | e
      · rw [e]; exact hf.1.2.2.2
      · have := hf.2; omega
    · have h1 := hal g e
      have h2 := hna g e
      refine ⟨⟨by omega, h2.1, h2.2.1, ?_⟩, Nat.lt_of_lt_of_le h1.2 hg.size⟩
      rcases hat with e | e
      · rw [e]; exact h2.2.2
      · omega
  · rcases snoc_get hu with h5 | ⟨h5, h6⟩
    · rcases snoc_get hu' with h7 | ⟨h7, h8⟩
      · exact h.rs i j u u' g hij h5 h7 e
      · intro e'
        rw [h8] at e'
        have h1 := (hal g e').1
        have h2 := hM g (.inr (.inr (.inr ⟨i, u, h5, e⟩)))
        omega
    · rcases snoc_get hu' with h7 | ⟨h7, h8⟩
      · intro e'
        rw [h6] at e
        have h1 := (hal g e).1
        have h2 := hM g (.inr (.inr (.inr ⟨j, u', h7, e'⟩)))
        omega
      · exact absurd (h5.trans h7.symm) hij
end

end Go.Proofs.Ytdfdkddjkhcgdai

/- What is asked of plans that are changed; the three rows at their end; a list that is turned round. -/
namespace Go.Proofs.Ytdfdkddjkhcgdai
open Go.RowKit Go.Shelf

/- what the program tells of them -/
theorem fsb_parts {s : Sn} {p : List (List Int)} : fsb s p = true ↔ rgt s = true ∧ p.length = s.cs.length ∧ PM.Fz (msk s) p := by
  unfold fsb
  rw [Bool.and_eq_true, Bool.and_eq_true, decide_eq_true_eq, PM.feas_iff, and_assoc]
theorem msk_length (s : Sn) : (msk s).length = s.ws.length := by unfold msk; rw [List.length_map]
theorem fsb_out {s : Sn} {p : List (List Int)} {x : Nat} (hx : x < s.ws.length) : fsb s (p.map (PM.fw (x : Int))) = false := by
  rw [Bool.eq_false_iff]
  intro h
  exact PM.out_not (by rw [msk_length]; exact hx) (fsb_parts.1 h).2.2
theorem fsb_twice {s : Sn} {p : List (List Int)} {x : Nat} (hx : x < s.ws.length) (hp : fsb s p = true) : fsb s (p.map (PM.tw (x : Int))) = false := by
  rw [Bool.eq_false_iff]
  intro h
  exact PM.twice_not (by rw [msk_length]; exact hx) (fsb_parts.1 hp).2.2 (fsb_parts.1 h).2.2
theorem fsb_odd {s : Sn} {p : List (List Int)} {x c m : Nat} {l : List Int} (hx : (msk s)[x]? = some m) (hp : fsb s p = true) (hc : p[c]? = some l) : fsb s ((p.map (PM.fw (x : Int))).set c (PM.fw (x : Int) l ++ [(x : Int)])) = PM.bt m c := by
  obtain ⟨h1, h2, h3⟩ := fsb_parts.1 hp
  have := PM.odd_iff (List.getElem?_eq_some_iff.1 hx).1 h3 hc
  rw [hx, Option.getD_some] at this
  rw [Bool.eq_iff_iff, fsb_parts, this]
  constructor
  · exact fun h => h.2.2
  · exact fun h => ⟨h1, by simpa using h2, h⟩
theorem fsb_turned {s : Sn} {p : List (List Int)} {c : Nat} {l l' : List Int} (hp : fsb s p = true) (hc : p[c]? = some l) (hl : l'.Perm l) : fsb s (p.set c l') = true := by
  obtain ⟨h1, h2, h3⟩ := fsb_parts.1 hp
  exact fsb_parts.2 ⟨h1, by rw [List.length_set]; exact h2, PM.turned_fz h3 hc hl⟩
theorem fw_length (x : Int) (l : List Int) : (PM.fw x l).length ≤ l.length := List.length_filter_le _ _
theorem tw_length (x : Int) (l : List Int) : (PM.tw x l).length ≤ 2 * l.length := by
  unfold PM.tw
  rw [List.length_append, List.length_replicate]
  have := List.count_le_length (a := x) (l := l)
  omega

/- two numbers change their places -/
theorem count_set' {b z : Int} : ∀ {l : List Int} {i : Nat} {y : Int}, l[i]? = some y → (l.set i z).count b + [y].count b = l.count b + [z].count b
  | [], _, _, h => by simp at h
  | a :: l, 0, y, h => by
    simp at h
    subst h
    simp only [List.set_cons_zero, List.count_cons, List.count_nil]
    omega
  | a :: l, i + 1, y, h => by
    have := count_set' (b := b) (z := z) (l := l) (i := i) (y := y) (by simpa using h)
    simp only [List.set_cons_succ, List.count_cons, List.count_nil] at this ⊢
    omega
theorem swap_perm {l : List Int} {i j : Nat} {y z : Int} (hi : l[i]? = some y) (hj : l[j]? = some z) (hn : i ≠ j) : ((l.set i z).set j y).Perm l := by
  rw [List.perm_iff_count]
  intro b
  have h1 := count_set' (b := b) (z := z) hi
  have h2 := count_set' (b := b) (z := y) (l := l.set i z) (i := j) (y := z) (by rw [List.getElem?_set_ne hn]; exact hj)
  omega

section
variable {W W' : World} {B : Nat} {x : Int} {p : List (List Int)} {k kt ko kd gt go gd ct co cd : Nat} {ut uo ud : List Value}
theorem On.rlo (h : On W B x p kt k kd gt go gd ct co cd ut uo ud) (hk : k = p.length) : RL (fun _ => True) W (.slice (some ⟨go, 0, none⟩) k co) (p.map (PM.fw x)) := by
  have hn := h.oo.len
  have ho := h.oo
  subst hn
  refine ho.rl (D := fun _ => True) trivial (by rw [List.length_map]; exact hk) fun i u l hu hl => ?_
  rw [List.getElem?_map] at hl
  cases hq : p[i]? with
  | none => rw [hq] at hl; simp at hl
  | some q =>
    rw [hq] at hl
    simp at hl
    subst hl
    exact (h.ro i u q hu hq).mono fun _ _ _ _ => trivial
theorem On.rlt (h : On W B x p k ko kd gt go gd ct co cd ut uo ud) (hk : k = p.length) : RL (fun _ => True) W (.slice (some ⟨gt, 0, none⟩) k ct) (p.map (PM.tw x)) := by
  have hn := h.ot.len
  have ho := h.ot
  subst hn
  refine ho.rl (D := fun _ => True) trivial (by rw [List.length_map]; exact hk) fun i u l hu hl => ?_
  rw [List.getElem?_map] at hl
  cases hq : p[i]? with
  | none => rw [hq] at hl; simp at hl
  | some q =>
    rw [hq] at hl
    simp at hl
    subst hl
    exact (h.rt i u q hu hq).mono fun _ _ _ _ => trivial
/-- the list that is asked for has one more -/
theorem On.odd (h : On W B x p kt ko k gt go gd ct co cd ut uo ud) (hk : k = p.length) {c : Nat} {u : Value} {l : List Int} (hu : ud[c]? = some u) (hg : W.grownBy W' u.ownBlock) {g' n' cap' : Nat}
    (ho : OI W' B (.slice (some ⟨g', 0, none⟩) n' cap') (PM.fw x l ++ [x])) (hat : u.ownBlock = some g' ∨ g' = W.heap.size) :
    RL (fun _ => True) (W'.setCell ⟨gd, c, none⟩ (.slice (some ⟨g', 0, none⟩) n' cap')) (.slice (some ⟨gd, 0, none⟩) k cd) ((p.map (PM.fw x)).set c (PM.fw x l ++ [x])) := by
  have ld := h.od.lt gd rfl
  have hne : g' ≠ gd := by
    rcases hat with e | e
    · exact (h.rf c u g' hu e).1.2.2.2
    · omega
  have hng : ∀ g, u.ownBlock = some g → g ≠ gd := fun g e => (h.rf c u g hu e).1.2.2.2
  have hn := h.od.len
  have hod : OP W' B (.slice (some ⟨gd, 0, none⟩) k cd) ud := h.od.keep fun g e => by
    have := own_some e
    subst this
    exact hg.block _ ld.2 (fun e => hng _ e.symm rfl)
  have hp := hod.put c (.slice (some ⟨g', 0, none⟩) n' cap')
  have hset : ∀ g, g ≠ gd → (W'.setCell ⟨gd, c, none⟩ (.slice (some ⟨g', 0, none⟩) n' cap')).heap[g]? = W'.heap[g]? := fun g hgn => Below.heap_setCell _ _ _ _ hgn
  have hcl : c < ud.length := (List.getElem?_eq_some_iff.1 hu).1
  have hkl : k = (ud.set c (.slice (some ⟨g', 0, none⟩) n' cap')).length := by rw [List.length_set]; exact hn
  rw [hkl] at hp ⊢
  refine hp.rl (D := fun _ => True) trivial (by rw [List.length_set, List.length_set, List.length_map]; omega) fun i v m hv hm => ?_
  by_cases e : c = i
  · subst e
    rw [List.getElem?_set_self hcl] at hv
    rw [List.getElem?_set_self (by rw [List.length_map]; omega)] at hm
    cases hv
    cases hm
    exact (ho.keep fun g e => hset g (by have := own_some e; omega)).ri fun _ _ => trivial
  · rw [List.getElem?_set_ne e] at hv
    rw [List.getElem?_set_ne e, List.getElem?_map] at hm
    cases hq : p[i]? with
    | none => rw [hq] at hm; simp at hm
    | some q =>
      rw [hq] at hm
      simp at hm
      subst hm
      have hr := h.rd i v q hv hq
      refine (hr.keep (W' := W'.setCell ⟨gd, c, none⟩ (.slice (some ⟨g', 0, none⟩) n' cap')) fun g eg => ?_).ri fun _ _ => trivial
      have hf := h.rf i v g hv eg
      rw [hset g hf.1.2.2.2]
      exact hg.block g hf.2 (fun e2 => h.rs i c v u g (fun e3 => e e3.symm) hv hu eg e2.symm)
end
/-- a plan that is copied, one list of which is another one -/
theorem OP.other {W W' : World} {D : Nat → Prop} {B g cap n c : Nat} {us : List Value} {p : List (List Int)} {v : Value} {l : List Int} (h : OP W' B (.slice (some ⟨g, 0, none⟩) n cap) us) (hus : us.length = p.length) (hr : ∀ (i : Nat) u m, us[i]? = some u → p[i]? = some m → RI D W u m)
    (hc : c < p.length) (hs : W.heap.size ≤ W'.heap.size) (hD : ∀ q, D q → q < W.heap.size → W'.heap[q]? = W.heap[q]? ∧ q ≠ g) (hv : RI (fun q => q ≠ g) W' v l) :
    RL (fun _ => True) (W'.setCell ⟨g, c, none⟩ v) (.slice (some ⟨g, 0, none⟩) n cap) (p.set c l) := by
  have hn := h.len
  have hp := h.put c v
  have hset : ∀ q, q ≠ g → (W'.setCell ⟨g, c, none⟩ v).heap[q]? = W'.heap[q]? := fun q hq => Below.heap_setCell _ _ _ _ hq
  have hsz : (W'.setCell ⟨g, c, none⟩ v).heap.size = W'.heap.size := by simp [World.setCell]
  have hkl : n = (us.set c v).length := by rw [List.length_set]; exact hn
  rw [hkl] at hp ⊢
  refine hp.rl (D := fun _ => True) trivial (by rw [List.length_set, List.length_set]; exact hus) fun i u m hu hm => ?_
  by_cases e : c = i
  · subst e
    rw [List.getElem?_set_self (by omega)] at hu
    rw [List.getElem?_set_self hc] at hm
    cases hu
    cases hm
    exact (hv.keep (W' := W'.setCell ⟨g, c, none⟩ v) (by omega) fun q hq _ => hset q hq).mono fun _ _ _ _ => trivial
  · rw [List.getElem?_set_ne e] at hu hm
    exact ((hr i u m hu hm).keep (W' := W'.setCell ⟨g, c, none⟩ v) (by omega) fun q hq hlt => by rw [hset q (hD q hq hlt).2]; exact (hD q hq hlt).1).mono fun _ _ _ _ => trivial

/-- a row that isn't empty lies somewhere -/
theorem OP.some {W : World} {B : Nat} {v : Value} {us : List Value} (h : OP W B v us) (hn : 0 < us.length) : ∃ g cap, v = .slice (some ⟨g, 0, none⟩) us.length cap ∧ B ≤ g := by
  rcases h.2 with ⟨_, h2⟩ | ⟨g, cap, cur, hv, hb, _⟩
  · omega
  · exact ⟨g, cap, hv, hb⟩

/- steps of a region that only reads -/
theorem loadW (w : World) (b o : Nat) (v : Value) (h : w.cell? ⟨b, o, none⟩ = some v) : (Instr.loadAt 34 (.pointer (some ⟨b, o, none⟩))).run Try.prog w = .ok v w := by simp [go_sem, h]
theorem quiet_loadW {C : World → Prop} {K : Act → Prop} {o : Oper} {a : Act} (x : Operand) (b k : Nat) {v : Value} (ho : o.op = .load 34 x) (hx : a.eval x = .pointer (some ⟨b, k, none⟩)) (hr : ∀ w, C w → w.cell? ⟨b, k, none⟩ = some v)
    (h : K (a.put o.dst v)) : o.quiet Try.prog a C K :=
  quiet_val _ (fun w hw => by unfold execOp; simp only [ho, hx, Sem.run_bind, Sem.run_pure, Result.andThen_ok, loadW w b k v (hr w hw)]) h
theorem quiet_ixW {C : World → Prop} {K : Act → Prop} {o : Oper} {a : Act} (x y : Operand) {g f n cap j : Nat} (ho : o.op = .indexAddr 34 x y) (hx : a.eval x = .slice (some ⟨g, f, none⟩) n cap) (hy : a.eval y = .int .i64 (j : Int)) (hj : j < n)
    (h : K (a.put o.dst (.pointer (some ⟨g, f + j * 2, none⟩)))) : o.quiet Try.prog a C K :=
  quiet_val _ (fun w hw => by unfold execOp; simp only [ho, hx, hy, Sem.run_bind, Sem.run_pure, Result.andThen_ok, ixW w rfl hj]) h
theorem quiet_shr {C : World → Prop} {K : Act → Prop} {o : Oper} {a : Act} (x y : Operand) {t : TypeId} {m c : Nat} (ho : o.op = .binOp .shr 3 x y t) (hx : a.eval x = .int .i64 (m : Int)) (hy : a.eval y = .int .i64 (c : Int)) (hc : c ≤ 64)
    (h : K (a.put o.dst (.int .i64 ((m / 2 ^ c : Nat) : Int)))) : o.quiet Try.prog a C K :=
  quiet_val _ (fun w hw => by unfold execOp; simp only [ho, hx, hy, eqGuard, ite_self, Sem.run_bind, Sem.run_pure, Result.andThen_ok, shr_any m c hc w]) h

end Go.Proofs.Ytdfdkddjkhcgdai
