/- Several texts in one, each with its own head. -/
import Derived.Test.YtagmidolcdefiahBdU
import Derived.Test.YtagmidolcdefiahPk15
import Derived.RangeFuncBound
import Derived.Shelf.RegionOpen
import Derived.TacticsInMore
import Derived.LoopNIn
import Derived.LoopIn
import Derived.OwnWalkIn
import Derived.Test.YtagmidolcdefiahPk13
/- The wants that stand in lists, gone through by a function that is ranged over. -/
namespace Go.Proofs.Ytagmidolcdefiah
open Go.RowKit Go.Shelf
attribute [local go_sem] Oper.semAt_some
theorem prp_append : ∀ (p q : List (List Int)) (c : Nat), prp c (p ++ q) = prp c p ++ prp (c + p.length) q
  | [], q, c => by simp [prp]
  | l :: p, q, c => by
    rw [List.cons_append, prp, prp, prp_append p q, List.append_assoc, List.length_cons, show c + 1 + p.length = c + (p.length + 1) by omega]
/-- the wants of the first k lists -/
def prk (p : List (List Int)) (k : Nat) : List (Int × Int) := prp 0 (p.take k)
theorem prk_succ {p : List (List Int)} {k : Nat} {l : List Int} (h : p[k]? = some l) : prk p (k + 1) = prk p k ++ l.map fun x => ((k : Int), x) := by
  unfold prk
  have hk := (List.getElem?_eq_some_iff.1 h).1
  rw [List.take_add_one, h, Option.toList_some, prp_append, List.length_take, show 0 + min k p.length = k by omega]
  simp [prp]
theorem prk_all {p : List (List Int)} {k : Nat} (h : p.length ≤ k) : prk p k = prp 0 p := by unfold prk; rw [List.take_of_length_le h]
theorem prk_pre (p : List (List Int)) (k : Nat) : prk p k <+: prp 0 p := by
  have e : prp 0 p = prp 0 (p.take k ++ p.drop k) := by rw [List.take_append_drop]
  rw [e, prp_append]
  exact List.prefix_append _ _
/-- what is handed out: a car and a want -/
def EP (n : Nat) (x : Int × Int) (_ : Nat → Prop) (_ : World) (args : Array Value) : Prop := args = #[.int .i64 x.1, .int .i64 x.2] ∧ 0 ≤ x.1 ∧ x.1 < (n : Int)
/-- what holds between two wants -/
structure Pj (w W : World) (c1 : Nat) (vp : Value) (p : List (List Int)) (G : Nat → Prop) (J : List (Int × Int) → (Nat → Prop) → World → Prop) (pre : List (Int × Int)) : Prop where
  pc : W.heap[c1]? = some (.cells #[vp] 32 (0, 0))
  rp : RL G W vp p
  jj : J pre (fun _ => False) W
  sz : w.heap.size ≤ W.heap.size
theorem Pj.round {w W W' : World} {c1 : Nat} {vp : Value} {p : List (List Int)} {G : Nat → Prop} {J : List (Int × Int) → (Nat → Prop) → World → Prop} {pre : List (Int × Int)} {x : Int × Int} (h : Pj w W c1 vp p G J pre) (h1 : G c1) (hk : Kept (fun k => False ∨ G k) W W') (hj : J (pre ++ [x]) (fun _ => False) W') : Pj w W' c1 vp p G J (pre ++ [x]) :=
  ⟨(hk.same c1 (Array.getElem?_eq_some_iff.1 h.pc).1 (.inr h1)).trans h.pc, h.rp.keep hk.size (fun k hg hlt => hk.same k hlt (.inr hg)), hj, Nat.le_trans h.sz hk.size⟩
set_option maxRecDepth 100000 in
set_option maxHeartbeats 8000000 in
theorem placed_seq (c1 : Nat) (vp : Value) (p : List (List Int)) (G : Nat → Prop) (w : World) (hpc : w.heap[c1]? = some (.cells #[vp] 32 (0, 0))) (hrp : RL G w vp p) (h1 : G c1) (hG : ∀ k, G k → k < w.heap.size) (hp8 : p.length ≤ 8) (hll : ∀ l ∈ p, l.length ≤ 1000) :
    SeqF Try.prog 96 #[.pointer (some ⟨c1, 0, none⟩)] (EP p.length) (fun _ => False) G (fun xs => xs = prp 0 p) (fun pre => pre <+: prp 0 p) w := by
  intro nn lo J Jx W hW hJ hJx hY h0
  show CallsIn Fence.wide nn Try.prog 96 #[.func (.yield lo) #[] #[], .pointer (some ⟨c1, 0, none⟩)] W _
  obtain ⟨ap, kp, rfl, _, _⟩ := hrp.form
  have HQ0 : Hid (Pj w W c1 (.slice ap p.length kp) p G J []) := ⟨(hW.block c1 (hG c1 h1)).trans hpc, hrp.keep hW.size (fun k hg hlt => hW.block k hlt), h0, hW.size⟩
  have HY := Hid.intro' hY
  have HG := Hid.intro' h1
  have HLL := Hid.intro' hll
  have cp : W.cell? ⟨c1, 0, none⟩ = some (.slice ap p.length kp) := by rw [cell_of_row _ _ 0 _ _ _ HQ0.out.pc]; rfl
  refine callsIn_of_wp Try.func96 rfl trivial ?_ rfl
  simp only [Try.ntmps96, List.size_toArray, List.length_cons, List.length_nil, Nat.reduceAdd, Nat.reduceSub, Array.replicate_succ, Array.replicate_zero, List.push_toArray, List.append_toArray, List.nil_append, List.cons_append]
  have hwf : ∀ k, Fence.wide.fn k := fun _ => trivial
  have hdd : ∀ k : Nat, (Fence.wide.depth.isSome = true → 1 ≤ k) := fun k h => by cases h
  clear hpc hrp h1 hG hll hW hJ hJx hY h0
  gi_wp2_with fail
  refine wpIn_wide.2 ?_
  apply wp_scope_straight
  refine (wpIn_wide (n := nn)).1 ?_
  gi_wp2_with fail
  refine wpIn_label ?_
  gi_wp2_with fail
  gi_loopw [9] (fun i wr => ∃ (k : Nat), k ≤ p.length ∧ i = .int .i64 (k : Int) ∧ Hid (Pj w wr c1 (.slice ap p.length kp) p G J (prk p k))) (fun i _ => p.length - (intOf i).toNat)
  case atStart => exact ⟨0, Nat.zero_le _, rfl, HQ0⟩
  case round =>
    clear HQ0 cp
    rename World => Wr
    obtain ⟨k, hk, rfl, HQ⟩ := hrel
    by_cases hlt : k < p.length
    · obtain ⟨l, hl⟩ : ∃ l, p[k]? = some l := ⟨_, List.getElem?_eq_getElem hlt⟩
      obtain ⟨gp, op, rfl, u, hcu, hru⟩ := HQ.out.rp.at hl
      obtain ⟨al, kl, rfl, _, _⟩ := hru.form
      have HKL := Hid.intro' hl
      have hlll : l.length ≤ 1000 := HLL.out l (List.mem_of_getElem? hl)
      have hkz : (k : Int) < (p.length : Int) := by omega
      have HI1 : Hid (Pj w Wr c1 (.slice (some ⟨gp, op, none⟩) p.length kp) p G J (prk p k ++ (l.take 0).map fun x => ((k : Int), x)) ∧ RI G Wr (.slice al l.length kl) l) := by
        refine ⟨?_, hru⟩
        rw [List.take_zero, List.map_nil, List.append_nil]; exact HQ.out
      clear hl hru HQ
      gi_wp2_with fail
      clear hcu
      gi_loopw [16] (fun i wr => ∃ (j : Nat), j ≤ l.length ∧ i = .int .i64 (j : Int) ∧ Hid (Pj w wr c1 (.slice (some ⟨gp, op, none⟩) p.length kp) p G J (prk p k ++ (l.take j).map fun x => ((k : Int), x)) ∧ RI G wr (.slice al l.length kl) l)) (fun i _ => l.length - (intOf i).toNat)
      case atStart => exact ⟨0, Nat.zero_le _, rfl, HI1⟩
      case round =>
        clear HI1
        obtain ⟨j, hj, rfl, HI⟩ := hrel
        by_cases hjl : j < l.length
        · obtain ⟨x, hx⟩ : ∃ x, l[j]? = some x := ⟨_, List.getElem?_eq_getElem hjl⟩
          obtain ⟨gl, ol, rfl, hcx⟩ := HI.out.2.at hx
          have hjz : (j : Int) < (l.length : Int) := by omega
          have HTK : Hid ((l.take (j + 1)).map (fun x => ((k : Int), x)) = (l.take j).map (fun x => ((k : Int), x)) ++ [((k : Int), x)]) := by
            show _ = _
            rw [take_snoc hx, List.map_append]; rfl
          have HPR : Hid (prk p k ++ (l.take j).map (fun x => ((k : Int), x)) ++ [((k : Int), x)] <+: prp 0 p) := by
            show _ <+: _
            rw [List.append_assoc, ← HTK.out]
            have h1 : prk p k ++ (l.take (j + 1)).map (fun x => ((k : Int), x)) <+: prk p (k + 1) := by
              rw [prk_succ HKL.out]
              exact (List.prefix_append_right_inj _).2 ((List.take_prefix (j + 1) l).map _)
            exact h1.trans (prk_pre p (k + 1))
          obtain ⟨fn, tmps, assign, body, hy5, hR5⟩ := HY.out (nn - 1) _ ((k : Int), x) (fun _ => False) wr #[.int .i64 (k : Int), .int .i64 x] HI.out.1.jj ⟨rfl, Int.natCast_nonneg _, hkz⟩
          have HR5 := Hid.intro' hR5
          clear hR5 hx
          gi_wp2_with fail
          refine ⟨hdd _, HR5.out.mono ?_⟩
          rintro e W6 (⟨rfl, hj6, hk6⟩ | ⟨rfl, hx6, _⟩)
          · have HI6 : Hid (Pj w W6 c1 (.slice (some ⟨gp, op, none⟩) p.length kp) p G J (prk p k ++ (l.take (j + 1)).map fun x => ((k : Int), x)) ∧ RI G W6 (.slice (some ⟨gl, ol, none⟩) l.length kl) l) := by
              refine ⟨?_, HI.out.2.keep hk6.size (fun k hg hlt => hk6.same k hlt (.inr hg))⟩
              rw [HTK.out, ← List.append_assoc]
              exact HI.out.1.round HG.out hk6 hj6
            clear hj6 hk6 HI hcx hy5 HR5 HPR
            gi_wp2
            go_roundw
            case rel => exact ⟨j + 1, by omega, by go_num, HI6⟩
            case measure => simp [intOf]; omega
          · have HX6 := Hid.intro' (And.intro HPR.out hx6)
            clear hx6 HI hcx hy5 HR5 HPR
            gi_wp2
            rw [Exit.noGoto_normal]
            go_end0
            exact ⟨⟨_, rfl⟩, .inr ⟨_, _, HX6.out.1, HX6.out.2⟩⟩
        · have hjz : ¬ (j : Int) < (l.length : Int) := by omega
          have HS := Hid.intro' HI.out.1
          rw [show l.take j = l from List.take_of_length_le (by omega), ← prk_succ HKL.out] at HS
          clear HI
          gi_wp2
          go_roundw
          case rel => exact ⟨k + 1, by omega, by go_num, HS⟩
          case measure => simp [intOf]; omega
    · have hkz : ¬ (k : Int) < (p.length : Int) := by omega
      have HE := Hid.intro' HQ.out.jj
      rw [prk_all (by omega)] at HE
      clear HQ
      gi_wp2
      go_end0
      exact ⟨⟨_, rfl⟩, .inl ⟨_, _, rfl, HE.out⟩⟩
theorem placed_any (ap : Option Addr) (n k : Nat) (w : World) :
    Calls Try.prog 88 #[.slice ap n k] w fun e w' => e = .returned (.func (.func 96) #[] #[.pointer (some ⟨w.heap.size, 0, none⟩)]) ∧ w' = w.alloc (.cells #[.slice ap n k] 32) := by
  have hmf : ∀ (fn : Fn) (first cap : Array Value) (w : World), (Instr.makeFunc fn first cap).run Try.prog w = .ok (.func fn first cap) w := fun _ _ _ _ => rfl
  go_enter Try.func88, Try.ntmps88
  go_wp2
  go_ret
  exact ⟨rfl, rfl⟩
theorem hasList_any (ap : Option Addr) (n k : Nat) (c : Int) (w : World) :
    Calls Try.prog 86 #[.slice ap n k, .int .i64 c] w fun e w' => e = .returned (.bool (decide (0 ≤ c) && decide (c < (n : Int)))) ∧ w' = w := by
  go_enter Try.func86, Try.ntmps86
  go_wp2
  all_goals
    go_ret
    refine ⟨ret_bool ?_, rfl⟩
    first | (simp_all; done) | (simp_all; omega)
end Go.Proofs.Ytagmidolcdefiah

/- A beginning that is made want by want: what holds of it. -/
namespace Go.Proofs.Ytagmidolcdefiah
open Go.RowKit
/-- what holds of a beginning on its way -/
structure Bok (s : Sn) (z : Bz) : Prop where
  el : z.es.length = s.cs.length
  sl : z.st.length = s.ws.length
  ok : ∀ a ∈ z.es, RM.Ok s.st a ∧ a.le ≤ 1000000 + 68002 * ((s.ws.length : Int) - PM.lf z.st)
  c0 : 0 ≤ z.co
  c1 : z.co ≤ 10000000 * ((s.ws.length : Int) - PM.lf z.st)
theorem lf_le (st : List Bool) : PM.lf st ≤ st.length := List.count_le_length
theorem Bok.zero {s : Sn} (hr : rgt s = true) : Bok s (bz0 s) := by
  have hml : (msk s).length = s.ws.length := by unfold msk; rw [List.length_map]
  have hz := rgt_rz hr
  have ha := rgt_after hr
  have hl : PM.lf (List.replicate (msk s).length false) = s.ws.length := by unfold PM.lf; rw [List.count_replicate, hml]; simp
  refine ⟨by unfold bz0; rw [List.length_map], by unfold bz0; rw [List.length_replicate, hml], fun a h => ?_, Int.le_refl _, ?_⟩
  · obtain ⟨r, hr1, rfl⟩ := List.mem_map.1 h
    refine ⟨hz.cr r hr1, ?_⟩
    have := ha r hr1
    show r.2 ≤ 1000000 + 68002 * ((s.ws.length : Int) - PM.lf (List.replicate (msk s).length false))
    rw [hl]; omega
  · show 0 ≤ 10000000 * ((s.ws.length : Int) - PM.lf (List.replicate (msk s).length false))
    rw [hl]; omega
section
variable {s : Sn} {k c : Nat} {z : Bz} {x : Int}
/-- what is known of a right snapshot's want -/
theorem lfm_some {y : Int × Int} (h : lfm s z.st x = some y) : 0 ≤ x ∧ z.st[x.toNat]? = some false ∧ s.ws[x.toNat]? = some y := by
  unfold lfm at h
  split at h
  · rename_i g; exact ⟨g.1, g.2, h⟩
  · cases h
theorem bstep_no (ok : Bok s z) (hn : ∀ y, lfm s z.st x = some y → PM.bt y.2.toNat c = false) : bstep s k z ((c : Int), x) = none := by
  unfold bstep
  split
  · rfl
  · rw [if_neg]
    rintro ⟨_, h2, h3⟩
    rw [Int.toNat_natCast] at h2
    obtain ⟨g1, g2, g3⟩ := PM.okx_iff.1 h2
    have hml : (msk s).length = s.ws.length := by unfold msk; rw [List.length_map]
    obtain ⟨y, hy⟩ : ∃ y, s.ws[x.toNat]? = some y := ⟨_, List.getElem?_eq_getElem (by have h3 : z.st[x.toNat]? = some false := h3; have := (List.getElem?_eq_some_iff.1 h3).1; have := ok.sl; omega)⟩
    have h4 := hn y (by unfold lfm; rw [if_pos ⟨g1, h3⟩, hy])
    have e : (msk s)[x.toNat]? = some y.2.toNat := by unfold msk; rw [List.getElem?_map, hy]; rfl
    rw [e, Option.getD_some, h4] at g3
    cases g3
theorem bstep_yes {a : RM.Sp} {y : Int × Int} (hc : c ≤ k) (ha : z.es[c]? = some a) (hy : lfm s z.st x = some y) (hb : PM.bt y.2.toNat c = true) :
    bstep s k z ((c : Int), x) = some ⟨z.es.set c (RM.nx s.st a y.1), z.st.set x.toNat true, z.co + RM.ar s.st a y.1⟩ := by
  obtain ⟨h1, h2, h3⟩ := lfm_some hy
  obtain ⟨i, rfl⟩ : ∃ i : Nat, x = (i : Int) := ⟨x.toNat, by omega⟩
  rw [Int.toNat_natCast] at h2 h3
  have hml : (msk s).length = s.ws.length := by unfold msk; rw [List.length_map]
  have e : (msk s)[i]? = some y.2.toNat := by unfold msk; rw [List.getElem?_map, h3]; rfl
  have ew : RM.wf s.ws (i : Int) = y.1 := RM.wf_get h3
  unfold bstep
  simp only [Int.toNat_natCast, ha]
  rw [if_pos ⟨by omega, PM.okx_iff.2 ⟨h1, by have := (List.getElem?_eq_some_iff.1 h3).1; omega, by rw [Int.toNat_natCast, e, Option.getD_some]; exact hb⟩, h2⟩, ew]
theorem lfm_set (hx : 0 ≤ x) (sl : z.st.length = s.ws.length) : (fun j => if j = x then none else lfm s z.st j) = lfm s (z.st.set x.toNat true) := by
  funext j
  unfold lfm
  by_cases e : j = x
  · rw [if_pos e, if_neg]
    rintro ⟨_, h⟩
    rw [e] at h
    by_cases hl : x.toNat < z.st.length
    · rw [List.getElem?_set_self hl] at h; cases h
    · rw [List.getElem?_eq_none (by rw [List.length_set]; omega)] at h; cases h
  · rw [if_neg e]
    by_cases h0 : 0 ≤ j
    · rw [List.getElem?_set_ne (by omega)]
    · rw [if_neg (fun g => h0 g.1), if_neg (fun g => h0 g.1)]
theorem Bok.step {a : RM.Sp} {y : Int × Int} (ok : Bok s z) (hz : RM.Rz s.st s.ws s.cs) (hw : s.ws.length ≤ 128) (ha : z.es[c]? = some a) (hy : lfm s z.st x = some y) : Bok s ⟨z.es.set c (RM.nx s.st a y.1), z.st.set x.toNat true, z.co + RM.ar s.st a y.1⟩ := by
  obtain ⟨h1, h2, h3⟩ := lfm_some hy
  have hlf := PM.lf_set h2
  have hle := lf_le z.st
  have hsl := ok.sl
  have oka := ok.ok a (List.mem_of_getElem? ha)
  have hyr := hz.wr y (List.mem_of_getElem? h3)
  have g1 := RM.ar_nn hz.rt oka.1 y.1
  have g2 := RM.ar_le hz.rt oka.1 y.1
  have g3 := RM.dw_bd hz.rt
  have g4 := ok.c0
  have g5 := ok.c1
  refine ⟨by rw [List.length_set]; exact ok.el, by rw [List.length_set]; exact ok.sl, fun b hb => ?_, by show 0 ≤ z.co + _; omega, ?_⟩
  · rcases List.mem_or_eq_of_mem_set hb with h | h
    · have := ok.ok b h
      refine ⟨this.1, ?_⟩
      show b.le ≤ 1000000 + 68002 * ((s.ws.length : Int) - PM.lf (z.st.set x.toNat true))
      omega
    · rw [h]
      refine ⟨RM.nx_ok hz.rt oka.1 hyr.1 hyr.2, ?_⟩
      rw [RM.nx_eq oka.1]
      show RM.ar s.st a y.1 + RM.dw s.st ≤ 1000000 + 68002 * ((s.ws.length : Int) - PM.lf (z.st.set x.toNat true))
      omega
  · show z.co + RM.ar s.st a y.1 ≤ 10000000 * ((s.ws.length : Int) - PM.lf (z.st.set x.toNat true))
    have := oka.2
    omega
end
end Go.Proofs.Ytagmidolcdefiah

/- The least cost of a beginning, as the program tells it. -/
namespace Go.Proofs.Ytagmidolcdefiah
open Go.RowKit Go.Shelf
attribute [local go_sem] Oper.semAt_some
/-- where Least begins: the snapshot, the car, and room for its answers -/
structure Lz (w W : World) (s : Sn) (vc vw : Value) (car : Int) : Prop where
  nb : NB W w.heap.size s.st vc vw
  cb : W.heap[w.heap.size + 1]? = some (.cells #[.int .i64 car] 3 (0, 0))
  nb2 : W.heap[w.heap.size + 1 + 1]? = some (.cells #[.int .i64 0] 3 (0, 0))
  eb2 : W.heap[w.heap.size + 1 + 1 + 1]? = some (.cells #[.int .i64 0] 36 (0, 0))
  bel : Below w.heap.size w W
section
variable {w W W' : World} {s : Sn} {vc vw : Value} {car : Int}
theorem Lz.next (h : Lz w W s vc vw car) (hb : Below W.heap.size W W') : Lz w W' s vc vw car :=
  ⟨h.nb.below' hb, (hb.block _ (Array.getElem?_eq_some_iff.1 h.cb).1).trans h.cb, (hb.block _ (Array.getElem?_eq_some_iff.1 h.nb2).1).trans h.nb2, (hb.block _ (Array.getElem?_eq_some_iff.1 h.eb2).1).trans h.eb2, below_class h.bel hb⟩
theorem Lz.size (h : Lz w W s vc vw car) : w.heap.size + 1 + 1 + 1 < W.heap.size := (Array.getElem?_eq_some_iff.1 h.eb2).1
theorem Lz.kp {G : Nat → Prop} (h : Lz w W s vc vw car) (hk : Kp G W W') (hG : ∀ k, G k → w.heap.size + 1 + 1 + 1 < k) : Lz w W' s vc vw car := by
  have hz := h.size
  have f : ∀ k, k ≤ w.heap.size + 1 + 1 + 1 → W'.heap[k]? = W.heap[k]? := fun k hk' => hk.block k (by omega) (fun e => by have := hG k e; omega)
  exact ⟨(f _ (by omega)).trans h.nb, (f _ (by omega)).trans h.cb, (f _ (by omega)).trans h.nb2, (f _ (by omega)).trans h.eb2, hk.below h.bel h.bel.size (fun i hi e => by have := hG i e; omega)⟩
theorem Lz.new (w : World) (s : Sn) (vc vw : Value) (car : Int) : Lz w ((((w.alloc (.cells (nv s.st vc vw).toArray 27)).alloc (.cells #[.int .i64 car] 3)).alloc (.cells #[.int .i64 0] 3)).alloc (.cells #[.int .i64 0] 36)) s vc vw car := by
  obtain ⟨p1, p2, p3⟩ := heap3 (w.alloc (.cells (nv s.st vc vw).toArray 27)) (.cells #[.int .i64 car] 3) (.cells #[.int .i64 0] 3) (.cells #[.int .i64 0] 36)
  rw [World.size_alloc] at p1 p2 p3
  have hb : Below (w.alloc (.cells (nv s.st vc vw).toArray 27)).heap.size (w.alloc (.cells (nv s.st vc vw).toArray 27)) ((((w.alloc (.cells (nv s.st vc vw).toArray 27)).alloc (.cells #[.int .i64 car] 3)).alloc (.cells #[.int .i64 0] 3)).alloc (.cells #[.int .i64 0] 36)) :=
    (((Below.refl _ _).alloc (Nat.le_refl _) _).alloc (by simp) _).alloc (by simp) _
  exact ⟨(NB.new w s.st vc vw).below' hb, p1, p2, p3, ((Below.refl _ w).alloc (Nat.le_refl _) _).trans (hb.mono (by simp))⟩
end
/-- the answers are written -/
theorem Lz.put {w W : World} {s : Sn} {vc vw : Value} {car : Int} (h : Lz w W s vc vw car) (x y : Int) :
    ((W.setCell ⟨w.heap.size + 1 + 1, 0, none⟩ (.int .i64 x)).setCell ⟨w.heap.size + 1 + 1 + 1, 0, none⟩ (.int .i64 y)).heap[w.heap.size + 1 + 1]? = some (.cells #[.int .i64 x] 3 (0, 0)) ∧
    ((W.setCell ⟨w.heap.size + 1 + 1, 0, none⟩ (.int .i64 x)).setCell ⟨w.heap.size + 1 + 1 + 1, 0, none⟩ (.int .i64 y)).heap[w.heap.size + 1 + 1 + 1]? = some (.cells #[.int .i64 y] 36 (0, 0)) ∧
    Kp (fun k => k = w.heap.size + 1 + 1 ∨ k = w.heap.size + 1 + 1 + 1) W ((W.setCell ⟨w.heap.size + 1 + 1, 0, none⟩ (.int .i64 x)).setCell ⟨w.heap.size + 1 + 1 + 1, 0, none⟩ (.int .i64 y)) := by
  have hk : Kp (fun k => k = w.heap.size + 1 + 1 ∨ k = w.heap.size + 1 + 1 + 1) W ((W.setCell ⟨w.heap.size + 1 + 1, 0, none⟩ (.int .i64 x)).setCell ⟨w.heap.size + 1 + 1 + 1, 0, none⟩ (.int .i64 y)) := ((Kp.refl _ W).set _ _ _ (fun _ => .inl rfl)).set _ _ _ (fun _ => .inr rfl)
  have h1 := blk_set (C := [.int .i64 0]) h.nb2 0 (.int .i64 x)
  have hz := h.size
  have hk1 : Kp (fun k => k = w.heap.size + 1 + 1) W (W.setCell ⟨w.heap.size + 1 + 1, 0, none⟩ (.int .i64 x)) := (Kp.refl _ W).set _ _ _ (fun _ => rfl)
  have hk2 : Kp (fun k => k = w.heap.size + 1 + 1 + 1) (W.setCell ⟨w.heap.size + 1 + 1, 0, none⟩ (.int .i64 x)) ((W.setCell ⟨w.heap.size + 1 + 1, 0, none⟩ (.int .i64 x)).setCell ⟨w.heap.size + 1 + 1 + 1, 0, none⟩ (.int .i64 y)) := (Kp.refl _ _).set _ _ _ (fun _ => rfl)
  refine ⟨(hk2.block _ (by have := hk1.size; omega) (by omega)).trans h1, ?_, hk⟩
  exact blk_set (C := [.int .i64 0]) ((hk1.block (w.heap.size + 1 + 1 + 1) hz (by omega)).trans h.eb2) 0 (.int .i64 y)
theorem one_cell {W : World} {b : Nat} {v : Value} {t : TypeId} (h : W.heap[b]? = some (.cells #[v] t (0, 0))) : W.cell? ⟨b, 0, none⟩ = some v := by rw [cell_of_row _ _ 0 _ _ _ h]; rfl
theorem one_fr {W : World} {b : Nat} {v : Value} {t : TypeId} (h : W.heap[b]? = some (.cells #[v] t (0, 0))) : W.frozen? ⟨b, 0, none⟩ = false := by simp [World.frozen?, h]
/-- the two answers, read where they lie -/
theorem ret_least {fn : Func} {t u : Tmp} (hf : fn.results = #[.cell t 3, .cell u 36]) {tmps : Array Value} {w : World} {b c : Nat} {x y : Int} (hp : tmps.getD t undef = .pointer (some ⟨b, 0, none⟩)) (hq : tmps.getD u undef = .pointer (some ⟨c, 0, none⟩))
    (h1 : w.cell? ⟨b, 0, none⟩ = some (.int .i64 x)) (h2 : w.cell? ⟨c, 0, none⟩ = some (.int .i64 y)) : (results fn tmps).run Try.prog w = .ok (.tuple #[.int .i64 x, .int .i64 y]) w := by
  rw [Array.getD_eq_getD_getElem?] at hp hq
  simp [results, hf, hp, hq, go_sem, h1, h2]
set_option maxHeartbeats 4000000 in
theorem least_out (s : Sn) (D : Nat → Prop) (vc vw vp : Value) (car : Int) (p : List (List Int)) (w : World) (hc : R2 D w vc s.cs) (hw : R2 D w vw s.ws) (hp : RL D w vp p) (hn : ¬ (rgt s = true ∧ p.length = s.cs.length ∧ 0 ≤ car ∧ car < (p.length : Int))) :
    Calls Try.prog 72 #[.agg (nv s.st vc vw).toArray, .int .i64 car, vp] w fun e w' => e = .returned (.tuple #[.int .i64 0, .int .i64 9]) ∧ Below w.heap.size w w' := by
  have HZ := Hid.intro' (Lz.new w s vc vw car)
  have HR := Hid.intro' (snapRight_any s D vc vw _ (hc.below' HZ.out.bel) (hw.below' HZ.out.bel))
  obtain ⟨ac, kc, rfl, _, _⟩ := hc.form
  obtain ⟨ap, kp, rfl, _, _⟩ := hp.form
  clear hc hw hp
  go_enter Try.func72, Try.ntmps72
  go_wp2_with (refine wpList_load27g rfl _ rfl w.heap.size s.st _ _ rfl HZ.out.nb ?_)
  refine HR.out.mono ?_
  rintro e W1 ⟨rfl, hb1⟩
  have HZ1 := Hid.intro' (HZ.out.next hb1)
  have d2 := one_cell HZ1.out.nb2
  have f2 := one_fr HZ1.out.nb2
  have d3 := one_cell HZ1.out.eb2
  have f3 := one_fr HZ1.out.eb2
  have dc := one_cell HZ1.out.cb
  have c13 : W1.cell? ⟨w.heap.size, 13, none⟩ = some (.slice ac s.cs.length kc) := HZ1.out.nb.cell 13
  have HE : Hid (True ∧ ((W1.setCell ⟨w.heap.size + 1 + 1, 0, none⟩ (.int .i64 0)).setCell ⟨w.heap.size + 1 + 1 + 1, 0, none⟩ (.int .i64 9)).cell? ⟨w.heap.size + 1 + 1, 0, none⟩ = some (.int .i64 0) ∧ ((W1.setCell ⟨w.heap.size + 1 + 1, 0, none⟩ (.int .i64 0)).setCell ⟨w.heap.size + 1 + 1 + 1, 0, none⟩ (.int .i64 9)).cell? ⟨w.heap.size + 1 + 1 + 1, 0, none⟩ = some (.int .i64 9) ∧ Below w.heap.size w ((W1.setCell ⟨w.heap.size + 1 + 1, 0, none⟩ (.int .i64 0)).setCell ⟨w.heap.size + 1 + 1 + 1, 0, none⟩ (.int .i64 9))) := by
    obtain ⟨p1, p2, p3⟩ := HZ1.out.put 0 9
    exact ⟨trivial, one_cell p1, one_cell p2, p3.below HZ1.out.bel HZ1.out.bel.size (fun i hi e => by omega)⟩
  clear hb1 HR HZ
  cases hr : rgt s with
  | false =>
    clear hn
    go_wp2
    exact bodyPost_ret (ret_least Try.results72 rfl rfl HE.out.2.1 HE.out.2.2.1) rfl ⟨rfl, HE.out.2.2.2⟩
  | true =>
    by_cases hl : p.length = s.cs.length
    · have q1 : ((p.length : Int) != (s.cs.length : Int)) = false := by simp; omega
      have hq : (decide (0 ≤ car) && decide (car < (p.length : Int))) = false := by
        have hh : ¬ (0 ≤ car ∧ car < (p.length : Int)) := fun g => hn ⟨hr, hl, g.1, g.2⟩
        rw [Bool.and_eq_false_iff]
        by_cases g : 0 ≤ car
        · right; exact decide_eq_false fun g2 => hh ⟨g, g2⟩
        · left; exact decide_eq_false g
      have HH := Hid.intro' (hasList_any ap p.length kp car W1)
      rw [hq] at HH
      clear hn hl hq hr
      go_wp2_with fail
      refine HH.out.mono ?_
      rintro e w' ⟨rfl, rfl⟩
      go_wp2
      exact bodyPost_ret (ret_least Try.results72 rfl rfl HE.out.2.1 HE.out.2.2.1) rfl ⟨rfl, HE.out.2.2.2⟩
    · have q1 : ((p.length : Int) != (s.cs.length : Int)) = true := by simp; omega
      have q2 : ¬ (p.length : Int) = (s.cs.length : Int) := by omega
      clear hn hl hr
      go_wp2
      exact bodyPost_ret (ret_least Try.results72 rfl rfl HE.out.2.1 HE.out.2.2.1) rfl ⟨rfl, HE.out.2.2.2⟩
end Go.Proofs.Ytagmidolcdefiah
