/- Plans as numbers, which of two comes first, and how many there are, as the document tells it. -/
import Derived.Test.YtdpfgjipjjkcgafPlJ
import Derived.Test.YtdpfgjipjjkcgafPlL
namespace Go.Proofs.Ytdpfgjipjjkcgaf
open Go.RowKit

/-- one number is put behind a row of numbers -/
theorem wpList_appendI {ops : Array Oper} {rest : List Oper} {o : Oper} {a : Act} {w : World} {Q : Exit → Act → World → Prop} (hgd : o.guard = none) (s x : Operand)
    (ho : o.op = .call { callee := .builtin .append, args := #[s, x], argTypes := #[38, 38] })
    (B : Nat) (v : Value) (l : List Int) (hs : a.eval s = v) (hown : OI w B v l) (g c : Nat) (y : Int) (hx : a.eval x = .slice (some ⟨g, 0, none⟩) 1 c) (hc : w.cell? ⟨g, 0, none⟩ = some (.int .i64 y))
    (h63 : l.length ≤ 1000000) (hB : B ≤ w.heap.size)
    (h : ∀ v' w', OI w' B v' (l ++ [y]) → w.grownBy w' v.ownBlock → wpList Try.prog ops Q rest (a.put o.dst v') w') : wpList Try.prog ops Q (o :: rest) a w := by
  obtain ⟨i0, hi, hz0, hz1, hz2⟩ := info_parts infoI
  refine wpList_append_own w hgd s x 38 ho B 3 i0 _ 1 8 Try.underlying38 hi hz0 hz1 hz2 rfl (by decide) v l.length (ic l) hs hown ⟨g, 0, none⟩ 1 c (ic [y]) hx rfl ?_ (ic_one [y]) (by unfold maxLen; omega) (by omega) hB ?_
  · intro j u hj
    cases j with
    | zero =>
      simp [ic] at hj
      subst hj
      exact hc
    | succ j => simp [ic] at hj
  · intro v' w' h1 h2 _
    refine h v' w' ?_ h2
    unfold OI
    rw [List.length_append, ic_append]
    exact h1
theorem wr_take {m : Nat} {p : List (List Int)} {k : Nat} {l : List Int} (h : p[k]? = some l) : PM.wr m (p.take (k + 1)) = PM.wr m (p.take k) ++ (l ++ [(m : Int)]) := by
  unfold PM.wr
  rw [List.take_add_one, h, List.flatMap_append]; simp
theorem wr_len {m : Nat} {p : List (List Int)} (hs : Sm p) : ∀ k, (PM.wr m (p.take k)).length ≤ 1001 * k
  | 0 => by simp [PM.wr]
  | k + 1 => by
    have ih := wr_len (m := m) hs k
    cases h : p[k]? with
    | none =>
      rw [List.take_of_length_le (by rw [List.getElem?_eq_none_iff] at h; omega)]
      rw [List.take_of_length_le (by rw [List.getElem?_eq_none_iff] at h; omega)] at ih
      omega
    | some l =>
      rw [wr_take h, List.length_append, List.length_append]
      have := hs.2 l (List.mem_of_getElem? h)
      simp
      omega

set_option maxHeartbeats 4000000 in
theorem written_any (D : Nat → Prop) (v : Value) (p : List (List Int)) (m : Nat) (w : World) (hp : RL D w v p) (hs : Sm p) (hp20 : p.length ≤ 100) :
    Calls Try.prog 23 #[v, .int .i64 (m : Int)] w fun e w' => ∃ v', e = .returned v' ∧ OI w' w.heap.size v' (PM.wr m p) ∧ Below w.heap.size w w' := by
  have HP := Hid.intro' hp
  obtain ⟨a, cap, rfl, _, _⟩ := hp.form
  have HS := Hid.intro' hs
  have hpl : p.length ≤ 1000 := hs.1
  clear hp hs
  go_enter Try.func23, Try.ntmps23
  go_wp2_with fail
  go_loopw [5, 6] (fun u i wr => ∃ k : Nat, k ≤ p.length ∧ i = .int .i64 (k : Int) ∧ Hid (OI wr w.heap.size u (PM.wr m (p.take k))) ∧ Hid (Below w.heap.size w wr)) (fun _ i _ => p.length - (intOf i).toNat)
  case atStart => exact ⟨0, Nat.zero_le _, rfl, OI.lit (B := w.heap.size) w [] (Nat.le_refl _) (Nat.zero_le _), (Below.refl _ w).alloc (Nat.le_refl _) _⟩
  case round =>
    obtain ⟨k, hk, rfl, HO, HB⟩ := hrel
    obtain ⟨a5, k5, rfl⟩ := HO.out.slice
    by_cases hlt : k < p.length
    · have hkz : (k : Int) < (p.length : Int) := by omega
      obtain ⟨l, hl⟩ : ∃ l, p[k]? = some l := ⟨_, List.getElem?_eq_getElem hlt⟩
      obtain ⟨g, o, rfl, u, hcu, hru⟩ := (HP.out.below' HB.out).at hl
      obtain ⟨au, ku, rfl, _, _⟩ := hru.form
      have hll : l.length ≤ 1000 := HS.out.2 l (List.mem_of_getElem? hl)
      have hwl : (PM.wr m (p.take k)).length ≤ 110000 := by have := wr_len (m := m) HS.out k; omega
      have HL := Hid.intro' hl
      have HRU := Hid.intro' hru
      have HBW := Hid.intro' HB.out.size
      clear hl hru
      go_wp2_with (at_builtin; refine wpList_appendRI rfl _ _ rfl w.heap.size _ _ _ l D rfl HO.out rfl HRU.out ?qc3 HBW.out ?_)
      case qc3 => omega
      intro v2 W2 ho2 hg2
      have hb2 := HB.out.grown hg2 HB.out.size (fun k hk => (HO.out.lt k hk).1)
      generalize hq : PM.wr m (p.take k) ++ l = q at ho2
      have HQ := Hid.intro' hq
      have hql : q.length ≤ 120000 := by rw [← hq, List.length_append]; omega
      have HO2 := Hid.intro' ho2
      have HB2 := Hid.intro' hb2
      obtain ⟨a6, k6, rfl⟩ := ho2.slice
      clear hq
      have HO2a := Hid.intro' (HO2.out.alloc (.cells #[.int .i64 (m : Int)] 3))
      have HCa : Hid ((W2.alloc (.cells #[.int .i64 (m : Int)] 3)).cell? ⟨W2.heap.size, 0, none⟩ = some (.int .i64 (m : Int))) := by
        show _ = _
        rw [cell_of_row _ _ 0 _ _ _ (heap_alloc_new W2 _)]; rfl
      clear ho2 hg2 hb2 hcu HO
      go_wp2_with (at_builtin; refine wpList_appendI rfl _ _ rfl w.heap.size _ _ rfl HO2a.out W2.heap.size 1 (m : Int) rfl HCa.out ?qd3 ?qd4 ?_)
      case qd3 => omega
      case qd4 => have := HB2.out.size; simp; omega
      intro v3 W3 ho3 hg3
      have hb3 := (HB2.out.alloc HB2.out.size (.cells #[.int .i64 (m : Int)] 3)).grown hg3 (by have := HB2.out.size; simp; omega) (fun k hk => (HO2.out.lt k hk).1)
      have HO3 : Hid (OI W3 w.heap.size v3 (PM.wr m (p.take (k + 1)))) := by
        show OI _ _ _ _
        rw [wr_take HL.out, ← List.append_assoc, HQ.out]; exact ho3
      have HB3 := Hid.intro' hb3
      clear ho3 hg3 hb3 HO2 HO2a HCa
      go_wp2
      go_roundw
      case rel => exact ⟨k + 1, by omega, by go_num, HO3, HB3⟩
      case measure => simp [intOf]; omega
    · have hkz : ¬ (k : Int) < (p.length : Int) := by omega
      have HE : Hid (PM.wr m (p.take k) = PM.wr m p) := by
        show _ = _
        rw [List.take_of_length_le (by omega)]
      go_wp2
      go_ret
      refine ⟨_, rfl, ?_, HB.out⟩
      rw [← HE.out]; exact HO.out

end Go.Proofs.Ytdpfgjipjjkcgaf
