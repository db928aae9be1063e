/- Several texts in one, each with its own head. -/
import Derived.Test.YtagmidolcdefiahPk4
import Derived.Test.YtagmidolcdefiahPk3
import Derived.Test.YtagmidolcdefiahPk11
import Derived.Test.YtagmidolcdefiahPk10
import Derived.Test.YtagmidolcdefiahPk12
import Derived.Test.YtagmidolcdefiahPk2
import Derived.RangeFuncNested
import Derived.RangeFuncCalls
import Derived.RangeFuncLeaves
/- A plan is the same as itself, wherever it lies, as the document looks at it. -/
namespace Go.Proofs.Ytagmidolcdefiah
open Go.RowKit
set_option maxHeartbeats 4000000 in
theorem psame_any (D D' : Nat → Prop) (va vb : Value) (p : List (List Int)) (w : World) (ha : RL D w va p) (hb : RL D' w vb p) (hpl : p.length ≤ 100000) (hll : ∀ l ∈ p, l.length ≤ 100000) :
    Calls Try.prog 15 #[va, vb] w fun e w' => e = .returned (.bool true) ∧ Below w.heap.size w w' := by
  have HA := Hid.intro' ha
  have HB := Hid.intro' hb
  have HLL := Hid.intro' hll
  obtain ⟨aa, ka, rfl, _, _⟩ := ha.form
  obtain ⟨ab, kb, rfl, _, _⟩ := hb.form
  clear ha hb hll
  go_enter Try.func15, Try.ntmps15
  go_wp2_with fail
  go_loopw [5] (fun cv wr => ∃ c : Nat, c ≤ p.length ∧ cv = .int .i64 (c : Int) ∧ Hid (Below w.heap.size w wr)) (fun cv _ => p.length - (intOf cv).toNat)
  case atStart => exact ⟨0, Nat.zero_le _, rfl, Below.refl _ _⟩
  case round =>
    obtain ⟨c, hc, rfl, HBC⟩ := hrel
    by_cases hcc : c < p.length
    · have hcz : (c : Int) < (p.length : Int) := by omega
      obtain ⟨l, hl⟩ : ∃ l, p[c]? = some l := ⟨_, List.getElem?_eq_getElem hcc⟩
      have hln : l.length ≤ 100000 := HLL.out l (List.mem_of_getElem? hl)
      obtain ⟨ga, oa, rfl, ua, hca, hra⟩ := HA.out.at hl
      obtain ⟨gb, ob, rfl, ub, hcb, hrb⟩ := HB.out.at hl
      obtain ⟨a1, k1, rfl, _, _⟩ := hra.form
      obtain ⟨a2, k2, rfl, _, _⟩ := hrb.form
      have HRA := Hid.intro' hra
      have HRB := Hid.intro' hrb
      have HCA : Hid (∀ w', Below w.heap.size w w' → w'.cell? ⟨ga, oa + c, none⟩ = some (.slice a1 l.length k1)) := fun w' hw => (hw.cell (p := ⟨ga, oa + c, none⟩) (cell_lt hca)).trans hca
      have HCB : Hid (∀ w', Below w.heap.size w w' → w'.cell? ⟨gb, ob + c, none⟩ = some (.slice a2 l.length k2)) := fun w' hw => (hw.cell (p := ⟨gb, ob + c, none⟩) (cell_lt hcb)).trans hcb
      have HA1 : Hid (∀ w', Below wr.heap.size wr w' → w'.cell? ⟨ga, oa + c, none⟩ = some (.slice a1 l.length k1)) := fun w' hw => HCA.out w' (below_class HBC.out hw)
      have HB1 : Hid (∀ w', Below wr.heap.size wr w' → w'.cell? ⟨gb, ob + c, none⟩ = some (.slice a2 l.length k2)) := fun w' hw => HCB.out w' (below_class HBC.out hw)
      clear hl hca hcb hra hrb
      go_wp2_with fail
      refine wp_region_quiet (C := fun w' => Below wr.heap.size wr w') (by kernel_rfl) (by kernel_rfl) ((Below.refl _ _).drew) ?_
      simp only []
      unfold wpQuiet
      generalize hK : wpQuiet Try.prog _ _ _ _ = K
      go_simp
      refine ⟨_, fun _ _ => rfl, ?_⟩
      subst hK
      unfold wpQuiet
      generalize hK : wpQuiet Try.prog _ _ _ _ = K
      go_simp
      refine ⟨_, fun _ _ => rfl, ?_⟩
      subst hK
      unfold wpQuiet
      generalize hK : wpQuiet Try.prog _ _ _ _ = K
      rw [if_pos (by go_simp)]
      refine quiet_ixP _ _ rfl rfl rfl hcc ?_
      go_simp
      subst hK
      unfold wpQuiet
      generalize hK : wpQuiet Try.prog _ _ _ _ = K
      rw [if_pos (by go_simp)]
      refine quiet_loadLI _ _ _ rfl rfl HA1.out ?_
      go_simp
      subst hK
      unfold wpQuiet
      generalize hK : wpQuiet Try.prog _ _ _ _ = K
      go_simp
      refine ⟨_, fun _ _ => rfl, ?_⟩
      subst hK
      unfold wpQuiet
      generalize hK : wpQuiet Try.prog _ _ _ _ = K
      go_simp
      refine ⟨_, fun _ _ => rfl, ?_⟩
      subst hK
      unfold wpQuiet
      generalize hK : wpQuiet Try.prog _ _ _ _ = K
      go_simp
      refine ⟨_, fun _ _ => rfl, ?_⟩
      subst hK
      unfold wpQuiet
      generalize hK : wpQuiet Try.prog _ _ _ _ = K
      rw [if_pos (by go_simp)]
      refine quiet_ixP _ _ rfl rfl rfl hcc ?_
      go_simp
      subst hK
      unfold wpQuiet
      generalize hK : wpQuiet Try.prog _ _ _ _ = K
      rw [if_pos (by go_simp)]
      refine quiet_loadLI _ _ _ rfl rfl HB1.out ?_
      go_simp
      subst hK
      unfold wpQuiet
      generalize hK : wpQuiet Try.prog _ _ _ _ = K
      go_simp
      refine ⟨_, fun _ _ => rfl, ?_⟩
      subst hK
      unfold wpQuiet
      generalize hK : wpQuiet Try.prog _ _ _ _ = K
      go_simp
      refine ⟨_, fun _ _ => rfl, ?_⟩
      subst hK
      refine wpQuiet_nil ?_
      intro W2 hb2
      have HB2 := Hid.intro' (below_class HBC.out hb2)
      clear hb2 HA1 HB1 HBC
      go_wp2_with fail
      go_loopw [6] (fun jv wr => ∃ j : Nat, j ≤ l.length ∧ jv = .int .i64 (j : Int) ∧ Hid (Below w.heap.size w wr)) (fun jv _ => l.length - (intOf jv).toNat)
      case atStart => exact ⟨0, Nat.zero_le _, rfl, HB2⟩
      case round =>
        clear HB2
        obtain ⟨j, hj, rfl, HBJ⟩ := hrel
        have cA := HCA.out wr HBJ.out
        by_cases hjl : j < l.length
        · have hjz : (j : Int) < (l.length : Int) := by omega
          obtain ⟨x, hx⟩ : ∃ x, l[j]? = some x := ⟨_, List.getElem?_eq_getElem hjl⟩
          obtain ⟨g1, o1, rfl, h1⟩ := HRA.out.at hx
          obtain ⟨g2, o2, rfl, h2⟩ := HRB.out.at hx
          have HA1 : Hid (∀ w', Below wr.heap.size wr w' → w'.cell? ⟨ga, oa + c, none⟩ = some (.slice (some ⟨g1, o1, none⟩) l.length k1)) := fun w' hw => HCA.out w' (below_class HBJ.out hw)
          have HB1 : Hid (∀ w', Below wr.heap.size wr w' → w'.cell? ⟨gb, ob + c, none⟩ = some (.slice (some ⟨g2, o2, none⟩) l.length k2)) := fun w' hw => HCB.out w' (below_class HBJ.out hw)
          have HX1 : Hid (∀ w', Below wr.heap.size wr w' → w'.cell? ⟨g1, o1 + j, none⟩ = some (.int .i64 x)) := fun w' hw => ((below_class HBJ.out hw).cell (p := ⟨g1, o1 + j, none⟩) (cell_lt h1)).trans h1
          have HX2 : Hid (∀ w', Below wr.heap.size wr w' → w'.cell? ⟨g2, o2 + j, none⟩ = some (.int .i64 x)) := fun w' hw => ((below_class HBJ.out hw).cell (p := ⟨g2, o2 + j, none⟩) (cell_lt h2)).trans h2
          clear hx h1 h2
          go_wp2_with fail
          refine wp_region_quiet (C := fun w' => Below wr.heap.size wr w') (by kernel_rfl) (by kernel_rfl) ((Below.refl _ _).drew) ?_
          simp only []
          unfold wpQuiet
          generalize hK : wpQuiet Try.prog _ _ _ _ = K
          go_simp
          refine ⟨_, fun _ _ => rfl, ?_⟩
          subst hK
          unfold wpQuiet
          generalize hK : wpQuiet Try.prog _ _ _ _ = K
          go_simp
          refine ⟨_, fun _ _ => rfl, ?_⟩
          subst hK
          unfold wpQuiet
          generalize hK : wpQuiet Try.prog _ _ _ _ = K
          rw [if_pos (by go_simp)]
          refine quiet_ixP _ _ rfl rfl rfl hcc ?_
          go_simp
          subst hK
          unfold wpQuiet
          generalize hK : wpQuiet Try.prog _ _ _ _ = K
          rw [if_pos (by go_simp)]
          refine quiet_loadLI _ _ _ rfl rfl HA1.out ?_
          go_simp
          subst hK
          unfold wpQuiet
          generalize hK : wpQuiet Try.prog _ _ _ _ = K
          go_simp
          refine ⟨_, fun _ _ => rfl, ?_⟩
          subst hK
          unfold wpQuiet
          generalize hK : wpQuiet Try.prog _ _ _ _ = K
          rw [if_pos (by go_simp)]
          refine quiet_ixI _ _ rfl rfl rfl hjl ?_
          go_simp
          subst hK
          unfold wpQuiet
          generalize hK : wpQuiet Try.prog _ _ _ _ = K
          rw [if_pos (by go_simp)]
          refine quiet_load3 _ _ _ rfl rfl HX1.out ?_
          go_simp
          subst hK
          unfold wpQuiet
          generalize hK : wpQuiet Try.prog _ _ _ _ = K
          go_simp
          refine ⟨_, fun _ _ => rfl, ?_⟩
          subst hK
          unfold wpQuiet
          generalize hK : wpQuiet Try.prog _ _ _ _ = K
          go_simp
          refine ⟨_, fun _ _ => rfl, ?_⟩
          subst hK
          unfold wpQuiet
          generalize hK : wpQuiet Try.prog _ _ _ _ = K
          rw [if_pos (by go_simp)]
          refine quiet_ixP _ _ rfl rfl rfl hcc ?_
          go_simp
          subst hK
          unfold wpQuiet
          generalize hK : wpQuiet Try.prog _ _ _ _ = K
          rw [if_pos (by go_simp)]
          refine quiet_loadLI _ _ _ rfl rfl HB1.out ?_
          go_simp
          subst hK
          unfold wpQuiet
          generalize hK : wpQuiet Try.prog _ _ _ _ = K
          go_simp
          refine ⟨_, fun _ _ => rfl, ?_⟩
          subst hK
          unfold wpQuiet
          generalize hK : wpQuiet Try.prog _ _ _ _ = K
          rw [if_pos (by go_simp)]
          refine quiet_ixI _ _ rfl rfl rfl hjl ?_
          go_simp
          subst hK
          unfold wpQuiet
          generalize hK : wpQuiet Try.prog _ _ _ _ = K
          rw [if_pos (by go_simp)]
          refine quiet_load3 _ _ _ rfl rfl HX2.out ?_
          go_simp
          subst hK
          unfold wpQuiet
          generalize hK : wpQuiet Try.prog _ _ _ _ = K
          go_simp
          refine ⟨_, fun _ _ => rfl, ?_⟩
          subst hK
          refine wpQuiet_nil ?_
          intro W3 hb3
          have HB3 := Hid.intro' (below_class HBJ.out hb3)
          clear hb3 HA1 HB1 HX1 HX2 HBJ cA
          go_wp2
          go_roundw
          case rel => exact ⟨j + 1, by omega, by go_num, HB3⟩
          case measure => simp [intOf]; omega
        · have hjz : ¬ (j : Int) < (l.length : Int) := by omega
          go_wp2
          go_roundw
          case rel => exact ⟨c + 1, by omega, by go_num, HBJ⟩
          case measure => simp [intOf]; omega
    · have hcz : ¬ (c : Int) < (p.length : Int) := by omega
      go_wp2
      go_ret
      exact ⟨rfl, HBC.out⟩
end Go.Proofs.Ytagmidolcdefiah

/- A search's proof, checked: mathematics. -/
namespace Go.Proofs.Ytagmidolcdefiah
open Go.RowKit Go.Shelf
section
variable {s : Sn} {B : Nat}
/-- marks are 0, 1 and 2 -/
theorem vis_m2 : ∀ (f k : Nat) (b : List (List Int)) (st : List Bool) (x : Sx), (∀ m ∈ x.marks, m ≤ 2) → ∀ m ∈ (vis s B f k b st x).marks, m ≤ 2
  | 0, _, _, _, _, h => h
  | f + 1, k, b, st, x, h => by
    show ∀ m ∈ (vst s B (vis s B f) k b st x).marks, m ≤ 2
    have hs : ∀ (n : Nat), n ≤ 2 → ∀ m ∈ x.marks ++ [n], m ≤ 2 := fun n hn m hm => by
      rw [List.mem_append, List.mem_singleton] at hm
      rcases hm with hm | hm
      · exact h m hm
      · omega
    unfold vst
    by_cases h1 : x.ended = true
    · rw [if_pos h1]; exact h
    · rw [if_neg h1]
      by_cases h2 : x.nodes = B
      · rw [if_pos h2]; exact h
      · rw [if_neg h2]
        by_cases h3 : lfs s st = []
        · rw [if_pos h3]
          by_cases h4 : RM.cst s.st s.ws s.cs b < x.cost
          · rw [if_pos h4]; exact hs 2 (by omega)
          · rw [if_neg h4]; exact hs 2 (by omega)
        · rw [if_neg h3]
          by_cases h5 : x.cost ≤ lsv s k b st
          · rw [if_pos h5]; exact hs 0 (by omega)
          · rw [if_neg h5]
            have hk := kids_rel (s := s) (R := fun x y => (∀ m ∈ x.marks, m ≤ 2) → ∀ m ∈ y.marks, m ≤ 2) (fun _ h => h) (fun _ _ _ h g e => g (h e)) (go := vis s B f) (k := k) (b := b) (st := st) (lfs s st) (fun w _ _ y => vis_m2 f k _ _ y) ⟨x.nodes + 1, false, x.plan, x.cost, x.marks ++ [1]⟩ (hs 1 (by omega))
            unfold nxt
            split
            · exact vis_m2 f (k + 1) b st _ hk
            · exact hk
theorem bek_byt (n : Int) : ∀ k, Byt (bek n k)
  | 0 => fun x hx => by simp [bek] at hx
  | k + 1 => fun x hx => by
    rcases List.mem_cons.1 (show x ∈ ((n / 256 ^ k) % 256).toNat :: bek n k from hx) with hx | hx
    · have h1 : 0 ≤ n / 256 ^ k % 256 := Int.emod_nonneg _ (by decide)
      have h2 : n / 256 ^ k % 256 < 256 := Int.emod_lt_of_pos _ (by decide)
      omega
    · exact bek_byt n k x hx
theorem prl_byt {p : List (List Int)} (h : ∀ l ∈ p, l.length ≤ 128 ∧ ∀ z ∈ l, 0 ≤ z ∧ z < 128) : Byt (prl p) := fun x hx => by
  unfold prl at hx
  rw [List.mem_flatMap] at hx
  obtain ⟨l, hl, hx⟩ := hx
  have := h l hl
  rcases List.mem_cons.1 hx with hx | hx
  · omega
  · obtain ⟨z, hz, rfl⟩ := List.mem_map.1 hx
    have := this.2 z hz
    omega
theorem Byt.append {l m : List Nat} (h : Byt l) (g : Byt m) : Byt (l ++ m) := fun x hx => (List.mem_append.1 hx).elim (h x) (g x)
theorem hdb_byt {e : Bool} {c : Int} {p : List (List Int)} (h : ∀ l ∈ p, l.length ≤ 128 ∧ ∀ z ∈ l, 0 ≤ z ∧ z < 128) : Byt (hdb e c p) := fun x hx => by
  unfold hdb at hx
  rcases List.mem_cons.1 hx with hx | hx
  · cases e <;> simp at hx <;> omega
  · exact (bek_byt c 8).append (prl_byt h) x hx
theorem fnd_marks : Byt (fnd s B).marks := fun x hx => by
  have := vis_m2 (s := s) (B := B) (s.cs.length + s.ws.length) 0 _ _ (root s) (fun m hm => by simp [root] at hm) x hx
  omega
theorem prf_byt (hr : rgt s = true) : Byt (prf (fnd s B)) := by
  rw [prf_eq]
  refine (hdb_byt (fnd_bd hr).2.2.1).append ?_
  split
  · exact fun x hx => by simp at hx
  · exact fnd_marks
theorem prf_len (hr : rgt s = true) : (prf (fnd s B)).length ≤ 1041 + B := by
  have h := fnd_bd (B := B) hr
  have h1 := prl_len (fnd s B).plan fun l hl => (h.2.2.1 l hl).1
  rw [prf_eq, List.length_append, hdb_length]
  have h2 := h.2.1
  have h3 := h.2.2.2
  split
  · simp; omega
  · omega
/-- what a search's bytes ahead show, with any marks -/
theorem ckw_marks (hr : rgt s = true) (R : List Nat) : ckw s (hdb false (fnd s B).cost (fnd s B).plan ++ R) = if mrk s (fnd s B).cost R = false then (10, clm0) else (0, ⟨true, (fnd s B).cost, (fnd s B).plan⟩) := by
  have hok := fnd_ok hr B
  have hbd := fnd_bd (B := B) hr
  rw [ckw_hdb hr hok.fe hok.co hbd.1.1 (by have := hbd.1.2; omega) R (fun e => by cases e)]
  simp
/-- a search's proof is shown -/
theorem ckw_find (hr : rgt s = true) : ckw s (prf (fnd s B)) = (0, ⟨!(fnd s B).ended, (fnd s B).cost, (fnd s B).plan⟩) := by
  have hok := fnd_ok hr B
  have hbd := fnd_bd (B := B) hr
  rw [prf_eq, ckw_hdb hr hok.fe hok.co hbd.1.1 (by have := hbd.1.2; omega) _ (fun e => by rw [if_pos e]), if_neg]
  rintro ⟨h1, h2⟩
  rw [if_neg (by rw [h1]; simp), mrk_find hr h1] at h2
  cases h2
theorem prf_whole (he : (fnd s B).ended = false) : prf (fnd s B) = hdb false (fnd s B).cost (fnd s B).plan ++ (fnd s B).marks := by
  rw [prf_eq, he]; rfl
/-- one mark more -/
theorem ckw_more (hr : rgt s = true) (he : (fnd s B).ended = false) (m : Nat) : ckw s (prf (fnd s B) ++ [m]) = (10, clm0) := by
  rw [prf_whole he, List.append_assoc, ckw_marks hr, if_pos (mrk_more hr he m)]
theorem fnd_some (hr : rgt s = true) (he : (fnd s B).ended = false) : 0 < (fnd s B).marks.length := by
  have h1 := (fnd_mrk hr he).2 []
  rw [List.append_nil] at h1
  have := cvi_less h1
  omega
/-- one mark less -/
theorem ckw_less (hr : rgt s = true) (he : (fnd s B).ended = false) : ckw s ((prf (fnd s B)).take ((prf (fnd s B)).length - 1)) = (10, clm0) := by
  have h0 := fnd_some hr he
  have e : (prf (fnd s B)).take ((prf (fnd s B)).length - 1) = hdb false (fnd s B).cost (fnd s B).plan ++ (fnd s B).marks.dropLast := by
    rw [prf_whole he, ← List.dropLast_eq_take, List.dropLast_append_of_ne_nil (fun h => by rw [h] at h0; simp at h0)]
  rw [e, ckw_marks hr, if_pos (mrk_less hr he)]
/-- one mark changed: it isn't shown, or shows the same -/
theorem ckw_turn (hr : rgt s = true) (he : (fnd s B).ended = false) (i m : Nat) : ckw s ((prf (fnd s B)).set ((prf (fnd s B)).length - (fnd s B).marks.length + i) m) = (10, clm0) ∨ ckw s ((prf (fnd s B)).set ((prf (fnd s B)).length - (fnd s B).marks.length + i) m) = (0, ⟨true, (fnd s B).cost, (fnd s B).plan⟩) := by
  have e : (prf (fnd s B)).length - (fnd s B).marks.length = (hdb false (fnd s B).cost (fnd s B).plan).length := by
    rw [prf_whole he, List.length_append]; omega
  rw [e, prf_whole he, List.set_append_right _ _ (by omega), show (hdb false (fnd s B).cost (fnd s B).plan).length + i - (hdb false (fnd s B).cost (fnd s B).plan).length = i by omega, ckw_marks hr]
  split
  · exact .inl rfl
  · exact .inr rfl
end
end Go.Proofs.Ytagmidolcdefiah

/-
  A RANGE OVER A FUNCTION THAT KEEPS MEMORY OF ITS OWN BETWEEN THE ROUNDS, and writes it: which blocks these are grows as it goes on (F).
  The caller's invariant speaks of none of them (Stb); a round leaves them as they are (Kept). No program is named here.
-/
namespace Go.Proofs.Ytagmidolcdefiah
open Go.RowKit
/-- what is written in F, and what is new, isn't minded -/
def Stb {β : Type} (J : β → (Nat → Prop) → World → Prop) : Prop := ∀ s F F' W W', J s F W → Kp F W W' → (∀ k, F' k → F k ∨ (W.heap.size ≤ k ∧ k < W'.heap.size)) → J s F' W'
/-- these blocks are kept -/
structure Kept (F : Nat → Prop) (W W' : World) : Prop where
  size : W.heap.size ≤ W'.heap.size
  same : ∀ k, k < W.heap.size → F k → W'.heap[k]? = W.heap[k]?
theorem Kept.refl (F : Nat → Prop) (W : World) : Kept F W W := ⟨Nat.le_refl _, fun _ _ _ => rfl⟩
theorem Kept.trans {F : Nat → Prop} {A B C : World} (h : Kept F A B) (k : Kept F B C) : Kept F A C := ⟨Nat.le_trans h.size k.size, fun i hi hf => (k.same i (Nat.lt_of_lt_of_le hi h.size) hf).trans (h.same i hi hf)⟩
theorem Kept.mono {F G : Nat → Prop} {A B : World} (h : Kept F A B) (hg : ∀ k, k < A.heap.size → G k → F k) : Kept G A B := ⟨h.size, fun i hi hf => h.same i hi (hg i hi hf)⟩
theorem Kept.ofKp {F G : Nat → Prop} {A B : World} (h : Kp G A B) (hf : ∀ k, k < A.heap.size → F k → ¬ G k) : Kept F A B := ⟨h.size, fun i hi hF => h.block i hi (hf i hi hF)⟩
theorem Kept.ofBelow {F : Nat → Prop} {A B : World} (h : Below A.heap.size A B) : Kept F A B := ⟨h.size, fun i hi _ => h.block i hi⟩
/-- how deep doesn't matter -/
theorem YieldAt.deep {m : Nat} (m' : Nat) {P : Program} {l : Nat} {args : Array Value} {W : World} {R : Ending → World → Prop} (h : YieldAt Fence.wide m P l args W R) : YieldAt Fence.wide m' P l args W R := by
  obtain ⟨fn, tmps, assign, body, hy, hR⟩ := h
  exact ⟨fn, tmps, assign, body, hy, hR.1, fun c cs _ => hR.2 c cs (room_wide _)⟩
/-- what such a function does; Enc: what it hands out; G: what it reads besides -/
def SeqF {α : Type} (P : Program) (g : Nat) (lb : Array Value) (Enc : α → (Nat → Prop) → World → Array Value → Prop) (F0 G : Nat → Prop) (S Sp : List α → Prop) (w : World) : Prop :=
  ∀ (n l : Nat) (J Jx : List α → (Nat → Prop) → World → Prop) (W : World), Below w.heap.size w W → Stb J → Stb Jx →
    (∀ m pre x F W1 args, J pre F W1 → Enc x F W1 args → YieldAt Fence.wide m P l args W1 fun e W' =>
      (e = .returned (.bool true) ∧ J (pre ++ [x]) F W' ∧ Kept (fun k => F k ∨ G k) W1 W') ∨ (e = .returned (.bool false) ∧ Jx (pre ++ [x]) F W' ∧ Kept F W1 W')) →
    J [] F0 W →
    CallsIn Fence.wide n P g (#[.func (.yield l) #[] #[]] ++ lb) W fun e W' => (∃ v, e = .returned v) ∧ ((∃ xs F, S xs ∧ J xs F W') ∨ (∃ pre F, Sp pre ∧ Jx pre F W'))
/-- how a round's body may be left -/
def postF {α : Type} (G : Nat → Prop) (I : List α → (Nat → Prop) → World → Prop) (Ix : Code → List α → (Nat → Prop) → World → Prop) (xs : List α) (F : Nat → Prop) (W : World) : Exit → Act → World → Prop
  | .normal, _, W' => Kept (fun k => F k ∨ G k) W W' ∧ I xs F W'
  | .ret, _, W' => Kept F W W' ∧ Ix .ret xs F W'
  | .exit id, _, W' => Kept F W W' ∧ Ix (.exit id) xs F W'
  | .goto t, _, W' => Kept F W W' ∧ Ix (.goto t) xs F W'
  | .panic _, _, _ => False
  | .outgrown, _, _ => False
/-- a block that holds no cells is turned -/
theorem Stb.put {β : Type} {J : β → (Nat → Prop) → World → Prop} (h : Stb J) {s : β} {F : Nat → Prop} {W : World} (l : Nat) (o : Obj) (hj : J s F W) (hl : F l) : J s F (W.putObj l o) :=
  h s F F W _ hj ((Kp.refl F W).put l o (fun _ => hl)) (fun _ h => .inl h)
end Go.Proofs.Ytagmidolcdefiah
