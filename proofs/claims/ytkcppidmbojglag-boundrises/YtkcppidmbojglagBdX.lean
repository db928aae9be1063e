/- The wants that stand in lists, gone through by a function that is ranged over. -/
import Derived.Test.YtkcppidmbojglagBdU
import Derived.Test.YtkcppidmbojglagBas
import Derived.RangeFuncBound
import Derived.Shelf.RegionOpen
import Derived.TacticsInMore
import Derived.LoopNIn
import Derived.LoopIn
import Derived.OwnWalkIn
namespace Go.Proofs.Ytkcppidmbojglag
open Go.RowKit Go.Shelf
attribute [local go_sem] Oper.semAt_some

theorem prp_append : ∀ (p q : List (List Int)) (c : Nat), prp c (p ++ q) = prp c p ++ prp (c + p.length) q
  | [], q, c => by simp [prp]
  | l :: p, q, c => by
    rw [List.cons_append, prp, prp, prp_append p q, List.append_assoc, List.length_cons, show c + 1 + p.length = c + (p.length + 1) by omega]
/-- the wants of the first k lists -/
def prk (p : List (List Int)) (k : Nat) : List (Int × Int) := prp 0 (p.take k)
theorem prk_succ {p : List (List Int)} {k : Nat} {l : List Int} (h : p[k]? = some l) : prk p (k + 1) = prk p k ++ l.map fun x => ((k : Int), x) := by
  unfold prk
  have hk := (List.getElem?_eq_some_iff.1 h).1
  rw [List.take_add_one, h, Option.toList_some, prp_append, List.length_take, show 0 + min k p.length = k by omega]
  simp [prp]
theorem prk_all {p : List (List Int)} {k : Nat} (h : p.length ≤ k) : prk p k = prp 0 p := by unfold prk; rw [List.take_of_length_le h]
theorem prk_pre (p : List (List Int)) (k : Nat) : prk p k <+: prp 0 p := by
  have e : prp 0 p = prp 0 (p.take k ++ p.drop k) := by rw [List.take_append_drop]
  rw [e, prp_append]
  exact List.prefix_append _ _
/-- what is handed out: a car and a want -/
def EP (n : Nat) (x : Int × Int) (_ : Nat → Prop) (_ : World) (args : Array Value) : Prop := args = #[.int .i64 x.1, .int .i64 x.2] ∧ 0 ≤ x.1 ∧ x.1 < (n : Int)
/-- what holds between two wants -/
structure Pj (w W : World) (c1 : Nat) (vp : Value) (p : List (List Int)) (G : Nat → Prop) (J : List (Int × Int) → (Nat → Prop) → World → Prop) (pre : List (Int × Int)) : Prop where
  pc : W.heap[c1]? = some (.cells #[vp] 29 (0, 0))
  rp : RL G W vp p
  jj : J pre (fun _ => False) W
  sz : w.heap.size ≤ W.heap.size
theorem Pj.round {w W W' : World} {c1 : Nat} {vp : Value} {p : List (List Int)} {G : Nat → Prop} {J : List (Int × Int) → (Nat → Prop) → World → Prop} {pre : List (Int × Int)} {x : Int × Int} (h : Pj w W c1 vp p G J pre) (h1 : G c1) (hk : Kept (fun k => False ∨ G k) W W') (hj : J (pre ++ [x]) (fun _ => False) W') : Pj w W' c1 vp p G J (pre ++ [x]) :=
  ⟨(hk.same c1 (Array.getElem?_eq_some_iff.1 h.pc).1 (.inr h1)).trans h.pc, h.rp.keep hk.size (fun k hg hlt => hk.same k hlt (.inr hg)), hj, Nat.le_trans h.sz hk.size⟩

set_option maxRecDepth 100000 in
set_option maxHeartbeats 8000000 in
theorem placed_seq (c1 : Nat) (vp : Value) (p : List (List Int)) (G : Nat → Prop) (w : World) (hpc : w.heap[c1]? = some (.cells #[vp] 29 (0, 0))) (hrp : RL G w vp p) (h1 : G c1) (hG : ∀ k, G k → k < w.heap.size) (hp8 : p.length ≤ 8) (hll : ∀ l ∈ p, l.length ≤ 1000) :
    SeqF Try.prog 34 #[.pointer (some ⟨c1, 0, none⟩)] (EP p.length) (fun _ => False) G (fun xs => xs = prp 0 p) (fun pre => pre <+: prp 0 p) w := by
  intro nn lo J Jx W hW hJ hJx hY h0
  show CallsIn Fence.wide nn Try.prog 34 #[.func (.yield lo) #[] #[], .pointer (some ⟨c1, 0, none⟩)] W _
  obtain ⟨ap, kp, rfl, _, _⟩ := hrp.form
  have HQ0 : Hid (Pj w W c1 (.slice ap p.length kp) p G J []) := ⟨(hW.block c1 (hG c1 h1)).trans hpc, hrp.keep hW.size (fun k hg hlt => hW.block k hlt), h0, hW.size⟩
  have HY := Hid.intro' hY
  have HG := Hid.intro' h1
  have HLL := Hid.intro' hll
  have cp : W.cell? ⟨c1, 0, none⟩ = some (.slice ap p.length kp) := by rw [cell_of_row _ _ 0 _ _ _ HQ0.out.pc]; rfl
  refine callsIn_of_wp Try.func34 rfl trivial ?_ rfl
  simp only [Try.ntmps34, List.size_toArray, List.length_cons, List.length_nil, Nat.reduceAdd, Nat.reduceSub, Array.replicate_succ, Array.replicate_zero, List.push_toArray, List.append_toArray, List.nil_append, List.cons_append]
  have hwf : ∀ k, Fence.wide.fn k := fun _ => trivial
  have hdd : ∀ k : Nat, (Fence.wide.depth.isSome = true → 1 ≤ k) := fun k h => by cases h
  clear hpc hrp h1 hG hll hW hJ hJx hY h0
  gi_wp2_with fail
  refine wpIn_wide.2 ?_
  apply wp_scope_straight
  refine (wpIn_wide (n := nn)).1 ?_
  gi_wp2_with fail
  refine wpIn_label ?_
  gi_wp2_with fail
  gi_loopw [9] (fun i wr => ∃ (k : Nat), k ≤ p.length ∧ i = .int .i64 (k : Int) ∧ Hid (Pj w wr c1 (.slice ap p.length kp) p G J (prk p k))) (fun i _ => p.length - (intOf i).toNat)
  case atStart => exact ⟨0, Nat.zero_le _, rfl, HQ0⟩
  case round =>
    clear HQ0 cp
    rename World => Wr
    obtain ⟨k, hk, rfl, HQ⟩ := hrel
    by_cases hlt : k < p.length
    · obtain ⟨l, hl⟩ : ∃ l, p[k]? = some l := ⟨_, List.getElem?_eq_getElem hlt⟩
      obtain ⟨gp, op, rfl, u, hcu, hru⟩ := HQ.out.rp.at hl
      obtain ⟨al, kl, rfl, _, _⟩ := hru.form
      have HKL := Hid.intro' hl
      have hlll : l.length ≤ 1000 := HLL.out l (List.mem_of_getElem? hl)
      have hkz : (k : Int) < (p.length : Int) := by omega
      have HI1 : Hid (Pj w Wr c1 (.slice (some ⟨gp, op, none⟩) p.length kp) p G J (prk p k ++ (l.take 0).map fun x => ((k : Int), x)) ∧ RI G Wr (.slice al l.length kl) l) := by
        refine ⟨?_, hru⟩
        rw [List.take_zero, List.map_nil, List.append_nil]; exact HQ.out
      clear hl hru HQ
      gi_wp2_with fail
      clear hcu
      gi_loopw [16] (fun i wr => ∃ (j : Nat), j ≤ l.length ∧ i = .int .i64 (j : Int) ∧ Hid (Pj w wr c1 (.slice (some ⟨gp, op, none⟩) p.length kp) p G J (prk p k ++ (l.take j).map fun x => ((k : Int), x)) ∧ RI G wr (.slice al l.length kl) l)) (fun i _ => l.length - (intOf i).toNat)
      case atStart => exact ⟨0, Nat.zero_le _, rfl, HI1⟩
      case round =>
        clear HI1
        obtain ⟨j, hj, rfl, HI⟩ := hrel
        by_cases hjl : j < l.length
        · obtain ⟨x, hx⟩ : ∃ x, l[j]? = some x := ⟨_, List.getElem?_eq_getElem hjl⟩
          obtain ⟨gl, ol, rfl, hcx⟩ := HI.out.2.at hx
          have hjz : (j : Int) < (l.length : Int) := by omega
          have HTK : Hid ((l.take (j + 1)).map (fun x => ((k : Int), x)) = (l.take j).map (fun x => ((k : Int), x)) ++ [((k : Int), x)]) := by
            show _ = _
            rw [take_snoc hx, List.map_append]; rfl
          have HPR : Hid (prk p k ++ (l.take j).map (fun x => ((k : Int), x)) ++ [((k : Int), x)] <+: prp 0 p) := by
            show _ <+: _
            rw [List.append_assoc, ← HTK.out]
            have h1 : prk p k ++ (l.take (j + 1)).map (fun x => ((k : Int), x)) <+: prk p (k + 1) := by
              rw [prk_succ HKL.out]
              exact (List.prefix_append_right_inj _).2 ((List.take_prefix (j + 1) l).map _)
            exact h1.trans (prk_pre p (k + 1))
          obtain ⟨fn, tmps, assign, body, hy5, hR5⟩ := HY.out (nn - 1) _ ((k : Int), x) (fun _ => False) wr #[.int .i64 (k : Int), .int .i64 x] HI.out.1.jj ⟨rfl, Int.natCast_nonneg _, hkz⟩
          have HR5 := Hid.intro' hR5
          clear hR5 hx
          gi_wp2_with fail
          refine ⟨hdd _, HR5.out.mono ?_⟩
          rintro e W6 (⟨rfl, hj6, hk6⟩ | ⟨rfl, hx6, _⟩)
          · have HI6 : Hid (Pj w W6 c1 (.slice (some ⟨gp, op, none⟩) p.length kp) p G J (prk p k ++ (l.take (j + 1)).map fun x => ((k : Int), x)) ∧ RI G W6 (.slice (some ⟨gl, ol, none⟩) l.length kl) l) := by
              refine ⟨?_, HI.out.2.keep hk6.size (fun k hg hlt => hk6.same k hlt (.inr hg))⟩
              rw [HTK.out, ← List.append_assoc]
              exact HI.out.1.round HG.out hk6 hj6
            clear hj6 hk6 HI hcx hy5 HR5 HPR
            gi_wp2
            go_roundw
            case rel => exact ⟨j + 1, by omega, by go_num, HI6⟩
            case measure => simp [intOf]; omega
          · have HX6 := Hid.intro' (And.intro HPR.out hx6)
            clear hx6 HI hcx hy5 HR5 HPR
            gi_wp2
            rw [Exit.noGoto_normal]
            go_end0
            exact ⟨⟨_, rfl⟩, .inr ⟨_, _, HX6.out.1, HX6.out.2⟩⟩
        · have hjz : ¬ (j : Int) < (l.length : Int) := by omega
          have HS := Hid.intro' HI.out.1
          rw [show l.take j = l from List.take_of_length_le (by omega), ← prk_succ HKL.out] at HS
          clear HI
          gi_wp2
          go_roundw
          case rel => exact ⟨k + 1, by omega, by go_num, HS⟩
          case measure => simp [intOf]; omega
    · have hkz : ¬ (k : Int) < (p.length : Int) := by omega
      have HE := Hid.intro' HQ.out.jj
      rw [prk_all (by omega)] at HE
      clear HQ
      gi_wp2
      go_end0
      exact ⟨⟨_, rfl⟩, .inl ⟨_, _, rfl, HE.out⟩⟩
theorem placed_any (ap : Option Addr) (n k : Nat) (w : World) :
    Calls Try.prog 20 #[.slice ap n k] w fun e w' => e = .returned (.func (.func 34) #[] #[.pointer (some ⟨w.heap.size, 0, none⟩)]) ∧ w' = w.alloc (.cells #[.slice ap n k] 29) := by
  have hmf : ∀ (fn : Fn) (first cap : Array Value) (w : World), (Instr.makeFunc fn first cap).run Try.prog w = .ok (.func fn first cap) w := fun _ _ _ _ => rfl
  go_enter Try.func20, Try.ntmps20
  go_wp2
  go_ret
  exact ⟨rfl, rfl⟩
theorem hasList_any (ap : Option Addr) (n k : Nat) (c : Int) (w : World) :
    Calls Try.prog 15 #[.slice ap n k, .int .i64 c] w fun e w' => e = .returned (.bool (decide (0 ≤ c) && decide (c < (n : Int)))) ∧ w' = w := by
  go_enter Try.func15, Try.ntmps15
  go_wp2
  all_goals
    go_ret
    refine ⟨ret_bool ?_, rfl⟩
    first | (simp_all; done) | (simp_all; omega)

end Go.Proofs.Ytkcppidmbojglag
