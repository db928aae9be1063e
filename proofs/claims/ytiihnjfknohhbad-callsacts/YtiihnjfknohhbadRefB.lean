/- The document's book in memory; Bar, Tick, Serve, Same as the document's answer has them. -/
import Derived.Test.YtiihnjfknohhbadCallV
import Derived.Deep.DeepCutAuto
namespace Go.Proofs.Ytiihnjfknohhbad
open Go.RowKit

/-- the document's book: a site, a row, a truth for each floor that is barred (the bits of t) -/
def RB (W : World) (r : Nat) (F C : Int) (v : Value) (t : Nat) : Prop :=
  ∃ cs : Array Value, W.heap[r]? = some (.cells cs 33 (0, 0)) ∧ cs.size = 78 ∧ cs[0]? = some (.int .i64 F) ∧ cs[1]? = some (.int .i64 C) ∧ cs[13]? = some v ∧ ∀ f, f < 64 → cs[14 + f]? = some (.bool (t.testBit f))
section
variable {W W' : World} {r : Nat} {F C : Int} {v : Value} {t : Nat}
theorem RB.lt (H : RB W r F C v t) : r < W.heap.size := by obtain ⟨cs, h, _⟩ := H; exact (Array.getElem?_eq_some_iff.1 h).1
theorem RB.c0 (H : RB W r F C v t) : W.cell? ⟨r, 0, none⟩ = some (.int .i64 F) := by obtain ⟨cs, h, _, h0, _⟩ := H; rw [cell_of_row W r 0 cs _ _ h]; exact h0
theorem RB.c1 (H : RB W r F C v t) : W.cell? ⟨r, 1, none⟩ = some (.int .i64 C) := by obtain ⟨cs, h, _, _, h1, _⟩ := H; rw [cell_of_row W r 1 cs _ _ h]; exact h1
theorem RB.cv (H : RB W r F C v t) : W.cell? ⟨r, 13, none⟩ = some v := by obtain ⟨cs, h, _, _, _, h2, _⟩ := H; rw [cell_of_row W r 13 cs _ _ h]; exact h2
theorem RB.cb (H : RB W r F C v t) {f : Nat} (hf : f < 64) : W.cell? ⟨r, 14 + f, none⟩ = some (.bool (t.testBit f)) := by obtain ⟨cs, h, _, _, _, _, h3⟩ := H; rw [cell_of_row W r (14 + f) cs _ _ h]; exact h3 f hf
theorem RB.fr (H : RB W r F C v t) (i : Nat) : W.frozen? ⟨r, i, none⟩ = false := by obtain ⟨cs, h, _⟩ := H; exact frozen_of_row W r i cs _ h
theorem RB.keep (H : RB W r F C v t) (hk : W'.heap[r]? = W.heap[r]?) : RB W' r F C v t := by obtain ⟨cs, h, rest⟩ := H; exact ⟨cs, hk.trans h, rest⟩
theorem RB.below' (H : RB W r F C v t) (hb : Below W.heap.size W W') : RB W' r F C v t := H.keep (hb.block r H.lt)
theorem RB.alloc (H : RB W r F C v t) (o : Obj) : RB (W.alloc o) r F C v t := H.below' ((Below.refl _ _).alloc (Nat.le_refl _) o)
theorem RB.kp {G : Nat → Prop} (H : RB W r F C v t) (k : Kp G W W') (hG : ¬ G r) : RB W' r F C v t := H.keep (k.block r H.lt hG)
theorem RB.setv (H : RB W r F C v t) (u : Value) : RB (W.setCell ⟨r, 13, none⟩ u) r F C u t := by
  obtain ⟨cs, h, hs, h0, h1, h2, h3⟩ := H
  refine ⟨_, heap_setCell_same W r 13 cs _ u h, by simpa using hs, ?_, ?_, ?_, fun f hf => ?_⟩
  · rw [Array.getElem?_setIfInBounds_ne (by omega)]; exact h0
  · rw [Array.getElem?_setIfInBounds_ne (by omega)]; exact h1
  · rw [Array.getElem?_setIfInBounds_self_of_lt (by omega)]
  · rw [Array.getElem?_setIfInBounds_ne (by omega)]; exact h3 f hf
theorem RB.setb (H : RB W r F C v t) {g : Nat} (hg : g < 64) (y : Bool) {t' : Nat} (ht : ∀ f, f < 64 → t'.testBit f = if f = g then y else t.testBit f) : RB (W.setCell ⟨r, 14 + g, none⟩ (.bool y)) r F C v t' := by
  obtain ⟨cs, h, hs, h0, h1, h2, h3⟩ := H
  refine ⟨_, heap_setCell_same W r (14 + g) cs _ (.bool y) h, by simpa using hs, ?_, ?_, ?_, fun f hf => ?_⟩
  · rw [Array.getElem?_setIfInBounds_ne (by omega)]; exact h0
  · rw [Array.getElem?_setIfInBounds_ne (by omega)]; exact h1
  · rw [Array.getElem?_setIfInBounds_ne (by omega)]; exact h2
  · rw [ht f hf]
    by_cases e : f = g
    · subst e
      rw [Array.getElem?_setIfInBounds_self_of_lt (by omega), if_pos rfl]
    · rw [Array.getElem?_setIfInBounds_ne (by omega), if_neg e]; exact h3 f hf
end
/-- the whole of it -/
structure RK (W : World) (B r : Nat) (F C : Int) (v : Value) (t : Nat) (L : List Cl) : Prop where
  rb : RB W r F C v t
  rw : RW W B v L
  ne : v.ownBlock ≠ some r
  bb : B ≤ r
section
variable {W W' : World} {B r : Nat} {F C : Int} {v : Value} {t : Nat} {L : List Cl}
theorem RK.below' (h : RK W B r F C v t L) (hb : Below W.heap.size W W') : RK W' B r F C v t L := ⟨h.rb.below' hb, h.rw.below' hb, h.ne, h.bb⟩
theorem RK.kp {G : Nat → Prop} (h : RK W B r F C v t L) (k : Kp G W W') (hG : ∀ i, Fp r v i → ¬ G i) : RK W' B r F C v t L :=
  ⟨h.rb.kp k (hG r (.inl rfl)), h.rw.kp k (fun g hg => hG g (.inr hg)), h.ne, h.bb⟩
theorem RK.lo (h : RK W B r F C v t L) : ∀ i, Fp r v i → B ≤ i ∧ i < W.heap.size := by
  rintro i (rfl | hi)
  · exact ⟨h.bb, h.rb.lt⟩
  · exact h.rw.lt i hi
end

theorem bar_bits {F f : Int} {y : Bool} {t : Nat} (h0 : 0 ≤ f) (h1 : f < F) : ∀ g, g < 64 → (barN F f y t).testBit g = if g = f.toNat then y else t.testBit g := by
  intro g hg
  unfold barN
  rw [if_pos (by simp [h0, h1])]
  cases y
  · simp only [Bool.false_eq_true, if_false]
    rw [FM.lessN_bit t f g hg]
    by_cases e : g = f.toNat
    · rw [if_pos e, show decide (f = (g : Int)) = true by simp; omega]; simp
    · rw [if_neg e, show decide (f = (g : Int)) = false by simp; omega]; simp
  · simp only [if_true]
    rw [FM.withN_bit t f g hg]
    by_cases e : g = f.toNat
    · rw [if_pos e, show decide (f = (g : Int)) = true by simp; omega]; simp
    · rw [if_neg e, show decide (f = (g : Int)) = false by simp; omega]; simp

set_option maxHeartbeats 400000 in
theorem rbar_any (B r : Nat) (F C : Int) (v : Value) (t : Nat) (L : List Cl) (f : Int) (y : Bool) (w : World) (H : RK w B r F C v t L) (h64 : F ≤ 64) :
    Calls Try.prog 12 #[.pointer (some ⟨r, 0, none⟩), .int .i64 f, .bool y] w fun e w' => e = .returned (.int .i64 (barE F f)) ∧ RK w' B r F C v (barN F f y t) L ∧ Kp (Fp r v) w w' := by
  have c0 := H.rb.c0
  have HB := Hid.intro' H
  by_cases h0 : 0 ≤ f
  · by_cases h1 : f < F
    · obtain ⟨g, rfl⟩ := Int.eq_ofNat_of_zero_le h0
      have hg : g < 64 := by omega
      have hgz : (g : Int) < 64 := by omega
      have d0 : decide ((g : Int) < 0) = false := by simp
      have d1 : decide (F ≤ (g : Int)) = false := by simp; omega
      have cg := H.rb.cb hg
      have fg := H.rb.fr (14 + g)
      have e1 : barE F (g : Int) = 0 := by unfold barE; rw [if_pos (by simp [h1])]
      rw [e1]
      clear H e1
      go_enter Try.func12, Try.ntmps12
      go_wp2
      go_ret
      refine ⟨rfl, ⟨HB.out.rb.setb hg y ?_, HB.out.rw.set HB.out.ne _, HB.out.ne, HB.out.bb⟩, (Kp.refl _ _).set r _ _ (fun _ => .inl rfl)⟩
      have := bar_bits (t := t) (y := y) h0 h1
      rwa [Int.toNat_natCast] at this
    · have e1 : barE F f = 2 := by unfold barE; rw [if_neg (by simp; omega)]
      have e2 : barN F f y t = t := by unfold barN; rw [if_neg (by simp; omega)]
      have d0 : decide (f < 0) = false := by simp; omega
      have d1 : decide (F ≤ f) = true := by simp; omega
      rw [e1, e2]
      clear H e1 e2
      go_enter Try.func12, Try.ntmps12
      go_wp2
      go_ret
      exact ⟨rfl, HB.out, Kp.refl _ _⟩
  · have e1 : barE F f = 2 := by unfold barE; rw [if_neg (by simp; omega)]
    have e2 : barN F f y t = t := by unfold barN; rw [if_neg (by simp; omega)]
    have d0 : decide (f < 0) = true := by simp; omega
    rw [e1, e2]
    clear H e1 e2
    go_enter Try.func12, Try.ntmps12
    go_wp2
    go_ret
    exact ⟨rfl, HB.out, Kp.refl _ _⟩

set_option maxHeartbeats 1000000 in
/-- Same: of two rows that are one it answers true -/
theorem same_any (va vb : Value) (L : List Cl) (w : World) (ha : RV w va L) (hb : RV w vb L) (hL : L.length ≤ 128) :
    Calls Try.prog 15 #[va, vb] w fun e w' => e = .returned (.bool true) ∧ Below w.heap.size w w' := by
  have HA := Hid.intro' ha
  have HB := Hid.intro' hb
  obtain ⟨a1, c1, rfl, _⟩ := ha.form
  obtain ⟨a2, c2, rfl, _⟩ := hb.form
  generalize hn : L.length = n at HA HB hL ⊢
  have HN := Hid.intro' hn
  clear ha hb hn
  go_enter Try.func15, Try.ntmps15
  go_wp2
  go_loopw [5] (fun i wr => ∃ k : Nat, k ≤ n ∧ i = .int .i64 k ∧ Hid (Below w.heap.size w wr)) (fun i _ => n - (intOf i).toNat)
  case atStart => exact ⟨0, Nat.zero_le _, rfl, Below.refl _ _⟩
  case round =>
    obtain ⟨k, hk, rfl, HBr⟩ := hrel
    by_cases hlt : k < n
    · have hkz : (k : Int) < (n : Int) := by omega
      obtain ⟨y, hy⟩ : ∃ y, L[k]? = some y := ⟨_, List.getElem?_eq_getElem (by have := HN.out; omega)⟩
      obtain ⟨g1, o1, e1, p0, p1, p2, p3⟩ := (HA.out.below' HBr.out).at hy
      obtain ⟨g2, o2, e2, q0, q1, q2, q3⟩ := (HB.out.below' HBr.out).at hy
      have i1 := fun W => ixK W (cap := c1) e1 hlt
      have i2 := fun W => ixK W (cap := c2) e2 hlt
      have hq : ∀ W, (Op.equalIn 10000 35 (.agg #[.int .i64 y.fl, .int .i64 y.ca, .int .i64 y.ag, .bool y.up]) (.agg #[.int .i64 y.fl, .int .i64 y.ca, .int .i64 y.ag, .bool y.up])).run Try.prog W = .ok true W := fun W => by rw [eqCall W y y, KM.same_refl]
      clear e1 e2 hy
      go_wp2_with fail
      go_quiet (fail)
      have HBq := Hid.intro' (below_class HBr.out (below_drewN (Below.refl wr.heap.size wr) nq))
      clear p0 p1 p2 p3 q0 q1 q2 q3
      generalize wr.drewN nq = wq at HBq ⊢
      go_wp2
      go_roundw
      case rel => exact ⟨k + 1, by omega, by go_num, HBq⟩
      case measure => simp [intOf]; omega
    · have hkz : ¬ (k : Int) < (n : Int) := by omega
      go_wp2
      go_ret
      exact ⟨rfl, HBr.out⟩

set_option maxHeartbeats 1000000 in
theorem rtick_any (B r : Nat) (F C : Int) (v : Value) (t : Nat) (L : List Cl) (w : World) (H : RK w B r F C v t L) (hL : L.length ≤ 128) (hag : ∀ c ∈ L, 0 ≤ c.ag ∧ c.ag ≤ 1000) :
    Calls Try.prog 14 #[.pointer (some ⟨r, 0, none⟩)] w fun e w' => e = .returned (.tuple #[]) ∧ ∃ v', RK w' B r F C v' t (L.map KM.older) ∧ Nx w v v' ∧ Kp (Fp r v) w w' := by
  have HB := Hid.intro' H
  have HAG := Hid.intro' hag
  obtain ⟨a1, n, c1, rfl⟩ := H.rw.slice
  have hn := H.rw.len
  have HN := Hid.intro' hn
  have hn2 : n ≤ 128 := by omega
  have HV := Hid.intro' H.rw.rv
  have hr := H.rb.lt
  clear hn H hag hL
  have HE := Hid.intro' (show RW (w.alloc (.cells #[] 35)) w.heap.size (.slice (some ⟨w.heap.size, 0, none⟩) 0 0) [] from World.ownsRow_made w #[] 0 (Nat.le_refl _) (Nat.zero_le _) (by simp))
  have HB0 := Hid.intro' ((Below.refl w.heap.size w).alloc (Nat.le_refl _) (.cells #[] 35))
  go_enter Try.func14, Try.ntmps14
  go_wp2
  go_loopw [2, 3, 4] (fun s2 i _ wr => ∃ k : Nat, k ≤ n ∧ i = .int .i64 k ∧ Hid (RW wr w.heap.size s2 ((L.take k).map KM.older)) ∧ Hid (Below w.heap.size w wr)) (fun _ i _ _ => n - (intOf i).toNat)
  case atStart => exact ⟨0, Nat.zero_le _, rfl, HE, HB0⟩
  case round =>
    obtain ⟨k, hk, rfl, HR, HBr⟩ := hrel
    have cv := (HB.out.rb.below' HBr.out).cv
    by_cases hlt : k < n
    · have hkz : (k : Int) < (n : Int) := by omega
      obtain ⟨y, hy⟩ : ∃ y, L[k]? = some y := ⟨_, List.getElem?_eq_getElem (by have := HN.out; omega)⟩
      obtain ⟨g1, o1, e1, p0, p1, p2, p3⟩ := (HV.out.below' HBr.out).at hy
      have i1 := fun W => ixK W (cap := c1) e1 hlt
      have hya := HAG.out y (List.mem_of_getElem? hy)
      have hy1 := hya.1
      have hy2 := hya.2
      have HY := Hid.intro' hy
      have hsz := HBr.out.size
      have HRa := Hid.intro' (HR.out.alloc (.cells #[.int .i64 y.fl, .int .i64 y.ca, .int .i64 (y.ag + 1), .bool y.up] 35))
      have HBa := Hid.intro' (HBr.out.alloc hsz (.cells #[.int .i64 y.fl, .int .i64 y.ca, .int .i64 (y.ag + 1), .bool y.up] 35))
      clear e1 hy hya
      have HC2 : Hid (CB ((wr.alloc (.cells #[.int .i64 y.fl, .int .i64 y.ca, .int .i64 (y.ag + 1), .bool y.up] 35)).alloc (.cells #[.int .i64 y.fl, .int .i64 y.ca, .int .i64 (y.ag + 1), .bool y.up] 35)) (wr.heap.size + 1) ⟨y.fl, y.ca, y.ag + 1, y.up⟩) := by
        have := CB.new (wr.alloc (.cells #[.int .i64 y.fl, .int .i64 y.ca, .int .i64 (y.ag + 1), .bool y.up] 35)) ⟨y.fl, y.ca, y.ag + 1, y.up⟩
        rw [World.size_alloc] at this
        exact this
      have hml : ((L.take k).map KM.older).length ≤ 1000 := by rw [List.length_map, List.length_take]; omega
      go_wp2_with (at_builtin; refine wpList_appendK rfl _ _ rfl w.heap.size (y := ⟨y.fl, y.ca, y.ag + 1, y.up⟩) rfl (HRa.out.alloc _) hml rfl HC2.out (by simp; omega) ?_)
      intro g' cap' W3 hr3 hg3 hat
      have HR3 := Hid.intro' hr3
      have HB3 := Hid.intro' ((HBa.out.alloc HBa.out.size _).grown hg3 (by simp; omega) (fun k hk => (HRa.out.lt k hk).1))
      clear hr3 hg3 hat HC2 HRa HBa
      go_wp2
      go_roundw
      case rel =>
        refine ⟨k + 1, by omega, by go_num, (show Hid _ from ?_), HB3⟩
        rw [take_get HY.out, List.map_append, List.map_cons, List.map_nil, show KM.older y = ⟨y.fl, y.ca, y.ag + 1, y.up⟩ from KM.ext rfl rfl (KM.older_ag (n := 1000) hy2 (by omega)) rfl, List.map_take]
        exact HR3.out
      case measure => simp [intOf]; omega
    · have hkz : ¬ (k : Int) < (n : Int) := by omega
      have hke : L.take k = L := List.take_of_length_le (by have := HN.out; omega)
      rw [hke] at HR
      obtain ⟨a2, n2, cap2, rfl⟩ := HR.out.slice
      have cf := (HB.out.rb.below' HBr.out).fr 13
      have hsz := HBr.out.size
      clear hke
      go_wp2
      go_end0
      have hne : (Value.slice a2 n2 cap2).ownBlock ≠ some r := fun e => by have := (HR.out.lt r e).1; omega
      refine ⟨rfl, _, ⟨(HB.out.rb.below' HBr.out).setv _, (HR.out.set hne _).mono ?_, hne, HB.out.bb⟩, fun k hk => .inr (HR.out.lt k hk).1, (Kp.ofBelow _ HBr.out).set r 13 _ (fun _ => .inl rfl)⟩
      have := HB.out.bb
      omega

/-- the document's answer on who is served, and ours -/
theorem srv_ref {car floor : Int} {u d : Bool} {c : Cl} (h : -1 ≤ c.ca) :
    (if (c.fl == floor && decide (c.ca < 0)) = true then (c.up && u || !c.up && d) else ((c.fl == floor && c.ca == car) && decide (0 ≤ car))) = KM.srv car floor u d c := by
  unfold KM.srv
  by_cases h1 : c.fl = floor
  · by_cases h2 : c.ca = -1
    · have : decide (c.ca < 0) = true := by simp; omega
      rw [if_pos (by simp [h1, this]), if_pos h2]
      cases c.up <;> simp [h1]
    · have : decide (c.ca < 0) = false := by simp; omega
      rw [if_neg (by simp [this]), if_neg h2]
      by_cases h3 : c.ca = car
      · have : decide (0 ≤ car) = true := by simp; omega
        simp [h1, h3, this]
      · simp [h1, h3]
  · rw [if_neg (by simp [h1])]
    simp [h1]

/-- one of two rows is appended to -/
theorem two_rows {W W3 : World} {B g' n cap' : Nat} {s1 s2 : Value} {L1 L2 : List Cl} (h2 : RW W B s2 L2) (ne : s1.ownBlock ≠ none ∧ s2.ownBlock ≠ none ∧ s1.ownBlock ≠ s2.ownBlock)
    (_hr3 : RW W3 B (.slice (some ⟨g', 0, none⟩) n cap') L1) (hg3 : W.grownBy W3 s1.ownBlock) (hat : s1.ownBlock = some g' ∨ g' = W.heap.size) :
    RW W3 B s2 L2 ∧ (Value.slice (some ⟨g', 0, none⟩) n cap').ownBlock ≠ none ∧ s2.ownBlock ≠ none ∧ (Value.slice (some ⟨g', 0, none⟩) n cap').ownBlock ≠ s2.ownBlock := by
  refine ⟨h2.keep fun g hg => hg3.block g (h2.lt g hg).2 (fun e => ne.2.2 (by rw [hg, ← e])), by simp [Value.ownBlock], ne.2.1, ?_⟩
  show some g' ≠ s2.ownBlock
  rcases hat with h | h
  · rw [← h]; exact ne.2.2
  · intro e
    have := (h2.lt g' e.symm).2
    omega

end Go.Proofs.Ytiihnjfknohhbad
