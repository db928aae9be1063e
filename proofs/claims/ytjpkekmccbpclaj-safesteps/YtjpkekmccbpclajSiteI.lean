/- The sequence of a site's numbers, each with its bounds. -/
import Derived.Test.YtjpkekmccbpclajSiteQ
import Derived.RangeFuncNested
import Derived.RangeFuncBound
import Derived.RangeFuncCalls
import Derived.RangeFuncLeaves
import Derived.RangeFuncBox
import Derived.Shelf.Abstract
import Derived.Shelf.RegionOpen
import Derived.WalkKit
import Derived.OwnWalkIn
import Derived.TacticsInMore
import Derived.LoopNIn
import Derived.LoopIn
namespace Go.Proofs.Ytjpkekmccbpclaj
open Go.RowKit Go.Shelf
attribute [local go_sem] Oper.semAt_some

/-- the cells of such a list -/
def cel3 (x : Int × Int × Int) : List Value := [.int .i64 x.1, .int .i64 x.2.1, .int .i64 x.2.2]
def bcells (s : St) : List Value := (bdl s).flatMap cel3
theorem flat3 : ∀ (l : List (Int × Int × Int)) (k : Nat) (x : Int × Int × Int), l[k]? = some x → (l.flatMap cel3)[k * 3]? = some (.int .i64 x.1) ∧ (l.flatMap cel3)[k * 3 + 1]? = some (.int .i64 x.2.1) ∧ (l.flatMap cel3)[k * 3 + 2]? = some (.int .i64 x.2.2)
  | [], k, x, h => by simp at h
  | y :: l, 0, x, h => by
    simp only [List.getElem?_cons_zero, Option.some.injEq] at h
    subst h
    simp [cel3]
  | y :: l, k + 1, x, h => by
    simp only [List.getElem?_cons_succ] at h
    have ih := flat3 l k x h
    rw [show (k + 1) * 3 = k * 3 + 1 + 1 + 1 by omega]
    simp only [List.flatMap_cons, cel3, List.cons_append, List.nil_append, List.getElem?_cons_succ]
    exact ih
/-- the block of such a list -/
def LB (W : World) (b : Nat) (s : St) : Prop := W.heap[b]? = some (.cells (bcells s).toArray 74 (0, 0))
theorem LB.cell {W : World} {b : Nat} {s : St} (h : LB W b s) (i : Nat) : W.cell? ⟨b, i, none⟩ = (bcells s)[i]? := by
  simp [World.cell?, show W.heap[b]? = _ from h]
theorem LB.lt {W : World} {b : Nat} {s : St} (h : LB W b s) : b < W.heap.size := (Array.getElem?_eq_some_iff.1 h).1
theorem abides_below {β : Type} {n : Nat} {J : β → World → Prop} (h : AbidesFrom n J) {s : β} {A B : World} (hj : J s A) (hb : Below A.heap.size A B) : J s B :=
  h s A B none hj ⟨hb.os, hb.tape, hb.output, hb.size, fun k hk _ => hb.block k hk⟩ (fun r e => by cases e)
/-- blocks of cells are kept -/
def KeepA (W W' : World) : Prop := ∀ (k : Nat) (C : Array Value) (t : TypeId) (fr : Nat × Nat), W.heap[k]? = some (.cells C t fr) → W'.heap[k]? = some (.cells C t fr)

set_option maxHeartbeats 400000 in
theorem bounds_any (s : St) (w : World) :
    Calls Try.prog 31 #[.agg (sv s).toArray] w fun e w' => e = .returned (.func (.func 39) #[] #[.pointer (some ⟨w.heap.size, 0, none⟩)]) ∧
      w' = w.alloc (.cells (sv s).toArray 23) := by
  have hmf : ∀ (fn : Fn) (first cap : Array Value) (w : World), (Instr.makeFunc fn first cap).run Try.prog w = .ok (.func fn first cap) w := fun _ _ _ _ => rfl
  go_enter Try.func31, Try.ntmps31
  go_wp2
  go_ret
  exact ⟨rfl, rfl⟩

def encB (x : Int × Int × Int) : Array Value := #[.int .i64 x.1, .agg #[.int .i64 x.2.1, .int .i64 x.2.2]]

set_option maxRecDepth 100000 in
set_option maxHeartbeats 2000000 in
theorem bounds1_in (n : Nat) (l Bs : Nat) (s : St) (J Jx : List (Int × Int × Int) → World → Prop) (W : World) (hJ : AbidesFrom W.heap.size J)
    (hY : ∀ pre x W, J pre W → pre.length < 13 → YieldAt Fence.wide (n - 1) Try.prog l (encB x) W fun e W' =>
      (e = .returned (.bool true) ∧ J (pre ++ [x]) W' ∧ KeepA W W') ∨ (e = .returned (.bool false) ∧ Jx (pre ++ [x]) W'))
    (hs : SB W Bs s) (h0 : J [] W) :
    CallsIn Fence.wide n Try.prog 39 #[.func (.yield l) #[] #[], .pointer (some ⟨Bs, 0, none⟩)] W fun e W' => (∃ v, e = .returned v) ∧
      ((∃ ys, ys = bdl s ∧ J ys W') ∨ (∃ pre, pre <+: bdl s ∧ Jx pre W')) := by
  refine callsIn_of_wp Try.func39 rfl trivial ?_ rfl
  simp only [Try.ntmps39, List.size_toArray, List.length_cons, List.length_nil, Nat.reduceAdd, Nat.reduceSub, Array.replicate_succ, Array.replicate_zero, List.push_toArray, List.append_toArray, List.nil_append, List.cons_append]
  have hc0 : W.cell? ⟨Bs, 0, none⟩ = some (.int .i64 s.fl) := hs.cell 0
  have hc1 : W.cell? ⟨Bs, 1, none⟩ = some (.int .i64 s.ca) := hs.cell 1
  have hc2 : W.cell? ⟨Bs, 2, none⟩ = some (.int .i64 s.sta) := hs.cell 2
  have hc3 : W.cell? ⟨Bs, 3, none⟩ = some (.int .i64 s.ste) := hs.cell 3
  have hc4 : W.cell? ⟨Bs, 4, none⟩ = some (.int .i64 s.sto) := hs.cell 4
  have hc5 : W.cell? ⟨Bs, 5, none⟩ = some (.int .i64 s.opn) := hs.cell 5
  have hc6 : W.cell? ⟨Bs, 6, none⟩ = some (.int .i64 s.wai) := hs.cell 6
  have hc7 : W.cell? ⟨Bs, 7, none⟩ = some (.int .i64 s.clo) := hs.cell 7
  have hc8 : W.cell? ⟨Bs, 8, none⟩ = some (.int .i64 s.nud) := hs.cell 8
  have hc9 : W.cell? ⟨Bs, 9, none⟩ = some (.int .i64 s.age) := hs.cell 9
  have hc10 : W.cell? ⟨Bs, 10, none⟩ = some (.int .i64 s.sil) := hs.cell 10
  have hc11 : W.cell? ⟨Bs, 11, none⟩ = some (.int .i64 s.bud) := hs.cell 11
  have hc12 : W.cell? ⟨Bs, 12, none⟩ = some (.int .i64 s.per) := hs.cell 12
  have HY := Hid.intro' hY
  have HJ := Hid.intro' hJ
  have H0 := Hid.intro' h0
  clear hY hJ h0 hs
  gi_wp2
  gi_loopw [59] (fun i wr => ∃ k : Nat, k ≤ 13 ∧ i = .int .i64 k ∧ J ((bdl s).take k) wr ∧ LB wr W.heap.size s) (fun i _ => 13 - (intOf i).toNat)
  case atStart => exact ⟨0, by omega, rfl, abides_below HJ.out H0.out ((Below.refl _ W).alloc (Nat.le_refl _) _), World.alloc_heap_new W _⟩
  case round =>
    obtain ⟨k, hk, rfl, hJk, hL⟩ := hrel
    clear hc0 hc1 hc2 hc3 hc4 hc5 hc6 hc7 hc8 hc9 hc10 hc11 hc12 H0
    by_cases hlt : k < 13
    · obtain ⟨x, hx⟩ : ∃ x, (bdl s)[k]? = some x := ⟨_, List.getElem?_eq_getElem (show k < (bdl s).length from hlt)⟩
      obtain ⟨f1, f2, f3⟩ := flat3 _ _ _ hx
      have c1 : wr.cell? ⟨W.heap.size, k * 3, none⟩ = some (.int .i64 x.1) := (hL.cell _).trans f1
      have c2 : wr.cell? ⟨W.heap.size, k * 3 + 1, none⟩ = some (.int .i64 x.2.1) := (hL.cell _).trans f2
      have c3 : wr.cell? ⟨W.heap.size, k * 3 + 2, none⟩ = some (.int .i64 x.2.2) := (hL.cell _).trans f3
      have HX := Hid.intro' hx
      have HL := Hid.intro' hL
      have HJk := Hid.intro' hJk
      have hkI : (k : Int) < 13 := by omega
      clear f1 f2 f3 hx hL hJk
      have hW3 : Below wr.heap.size wr (wr.alloc (.cells #[.int .i64 x.1, .int .i64 x.2.1, .int .i64 x.2.2] 74)) := (Below.refl _ wr).alloc (Nat.le_refl _) _
      obtain ⟨fn, tmps, assign, body, hy, hR⟩ := HY.out ((bdl s).take k) x (wr.alloc (.cells #[.int .i64 x.1, .int .i64 x.2.1, .int .i64 x.2.2] 74)) (abides_below HJ.out HJk.out hW3) (by simp; omega)
      have hy' : (Instr.yield l #[Value.int .i64 x.1, Value.agg #[Value.int .i64 x.2.1, Value.int .i64 x.2.2]]).run Try.prog (wr.alloc (.cells #[.int .i64 x.1, .int .i64 x.2.1, .int .i64 x.2.2] 74)) = .ok (.round l fn tmps assign body) (wr.alloc (.cells #[.int .i64 x.1, .int .i64 x.2.1, .int .i64 x.2.2] 74)) := hy
      have HL3 := Hid.intro' (show LB (wr.alloc (.cells #[.int .i64 x.1, .int .i64 x.2.1, .int .i64 x.2.2] 74)) W.heap.size s from (hW3.block _ HL.out.lt).trans HL.out)
      have HT := Hid.intro' (show (bdl s).take (k + 1) = (bdl s).take k ++ [x] by rw [List.take_add_one, HX.out]; rfl)
      clear hy HL hW3 HJk
      gi_wp2
      refine ⟨fun h => (by cases h), ?_⟩
      refine hR.mono ?_
      rintro e W4 (⟨rfl, hJ3, hk3⟩ | ⟨rfl, hJx3⟩)
      · have HL4 := Hid.intro' (show LB W4 W.heap.size s from hk3 _ _ _ _ HL3.out)
        clear hk3 hR hy' c1 c2 c3
        gi_wp2
        go_roundw
        case rel => exact ⟨k + 1, by omega, by go_num, by rw [HT.out]; exact hJ3, HL4.out⟩
        case measure => simp [intOf]; omega
      · clear hR hy' c1 c2 c3
        gi_wp2
        refine bodyPost_ret (results_none rfl _ _ _) rfl ?_
        exact ⟨⟨_, rfl⟩, .inr ⟨_, by rw [← HT.out]; exact List.take_prefix _ _, hJx3⟩⟩
    · obtain rfl : k = 13 := by omega
      clear hL
      gi_wp2
      go_end0
      exact ⟨⟨_, rfl⟩, .inl ⟨_, rfl, hJk⟩⟩

theorem bounds_stops (n Bs : Nat) (s : St) (w : World) (hs : SB w Bs s) :
    SeqStopsK Fence.wide n Try.prog 39 #[.pointer (some ⟨Bs, 0, none⟩)] encB KeepA (fun ys => ys = bdl s) (fun pre => pre <+: bdl s) 13 w :=
  fun l J Jx W hW hJ _ hY h0 => bounds1_in n l Bs s J Jx W hJ hY (hs.below' hW) h0

end Go.Proofs.Ytjpkekmccbpclaj
