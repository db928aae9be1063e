/- The table of travels. -/
import Derived.Test.YtagmidolcdefiahPk9
import Derived.Test.YtagmidolcdefiahPk2
import Derived.Test.YtagmidolcdefiahPk1
import Derived.Deep.RegionHeld3
namespace Go.Proofs.Ytagmidolcdefiah
open Go.RowKit
theorem right_t (s : St) (r : SM.Rt s) (w : World) : Calls Try.prog 45 #[.agg (sv s).toArray] w fun e w' => e = .returned (.bool true) ∧ Below w.heap.size w w' := by
  have := right_any s w
  rwa [rightB_true r] at this
/-- a block of cells -/
def Blk (W : World) (b : Nat) (C : Array Value) (t : TypeId) : Prop := W.heap[b]? = some (.cells C t (0, 0))
theorem Blk.lt {W : World} {b : Nat} {C : Array Value} {t : TypeId} (h : Blk W b C t) : b < W.heap.size := (Array.getElem?_eq_some_iff.1 h).1
theorem Blk.cell {W : World} {b : Nat} {C : Array Value} {t : TypeId} (h : Blk W b C t) (i : Nat) : W.cell? ⟨b, i, none⟩ = C[i]? := by
  simp [World.cell?, show W.heap[b]? = _ from h]
theorem Blk.frozen {W : World} {b : Nat} {C : Array Value} {t : TypeId} (h : Blk W b C t) (i : Nat) : W.frozen? ⟨b, i, none⟩ = false := by
  simp [World.frozen?, show W.heap[b]? = _ from h]
theorem Blk.below {W W' : World} {b : Nat} {C : Array Value} {t : TypeId} (h : Blk W b C t) (hb : Below W.heap.size W W') : Blk W' b C t := (hb.block b h.lt).trans h
theorem Blk.set {W : World} {b : Nat} {C : Array Value} {t : TypeId} (h : Blk W b C t) (i : Nat) (v : Value) : Blk (W.setCell ⟨b, i, none⟩ v) b (C.setIfInBounds i v) t := by
  unfold Blk at *
  simp only [World.setCell, Array.getElem?_modify, if_true, h]; rfl
theorem Blk.other {W : World} {b b' : Nat} {C : Array Value} {t : TypeId} (h : Blk W b C t) (hne : b ≠ b') (i : Nat) (v : Value) : Blk (W.setCell ⟨b', i, none⟩ v) b C t :=
  (Below.heap_setCell W ⟨b', i, none⟩ v b hne).trans h
theorem Blk.new (W : World) (C : Array Value) (t : TypeId) : Blk (W.alloc (.cells C t)) W.heap.size C t := World.alloc_heap_new W _
theorem Blk.alloc {W : World} {b : Nat} {C : Array Value} {t : TypeId} (h : Blk W b C t) (o : Obj) : Blk (W.alloc o) b C t := (Below.heap_alloc W o b h.lt).trans h
def zrows (n : Nat) : Array Value := (List.replicate n (Value.slice none 0 0)).toArray
def zints (n : Nat) : Array Value := (List.replicate n (Value.int .i64 0)).toArray
theorem zrows_size (n : Nat) : (zrows n).size = n := by simp [zrows]
theorem zints_size (n : Nat) : (zints n).size = n := by simp [zints]
theorem zints_get (n i : Nat) (h : i < n) : (zints n)[i]? = some (.int .i64 0) := by simp [zints, h]
theorem mkBH (n : Nat) (hn : n ≤ 64) (W : World) : (Instr.makeSlice 31 (.int .i64 (n : Int)) (.int .i64 (n : Int))).run Try.prog W = .ok (.slice (some ⟨W.heap.size, 0, none⟩) n n) (W.alloc (.cells (zrows n) 55)) := by
  obtain ⟨i, hi, h1, h2, h3⟩ := info_h infoHL
  have := run_make (P := Try.prog) W 31 55 i _ Try.underlying31 hi h1 .i64 .i64 (n : Int) (n : Int) (by omega) (by omega) (by
    have : (i.bytes : Int) * (n : Int) ≤ 24 * 64 := Int.mul_le_mul (by omega) (by omega) (by omega) (by omega)
    omega) (by omega)
  rw [this, h2, Int.toNat_natCast, made_one _ rfl, Nat.mul_one]; rfl
theorem mkIn (n : Nat) (hn : n ≤ 64) (W : World) : (Instr.makeSlice 55 (.int .i64 (n : Int)) (.int .i64 (n : Int))).run Try.prog W = .ok (.slice (some ⟨W.heap.size, 0, none⟩) n n) (W.alloc (.cells (zints n) 3)) := mkI n (by omega) W
/-- the first k rows of the table -/
def Tab (s : St) (n G k R0 : Nat) (C : Array Value) (W : World) : Prop := ∀ i, i < k → ∃ (R : Nat) (D : Array Value), G < R ∧ R < R0 ∧ C[i]? = some (.slice (some ⟨R, 0, none⟩) n n) ∧ Blk W R D 3 ∧ ∀ j : Nat, j < n → D[j]? = some (.int .i64 (SM.trav s i j))
theorem Tab.below {s : St} {n G k R0 : Nat} {C : Array Value} {W W' : World} (h : Tab s n G k R0 C W) (hb : Below W.heap.size W W') : Tab s n G k R0 C W' := fun i hi => by
  obtain ⟨R, D, h1, h2, h3, h4, h5⟩ := h i hi
  exact ⟨R, D, h1, h2, h3, h4.below hb, h5⟩
theorem Tab.le {s : St} {n G k R0 R1 : Nat} {C : Array Value} {W : World} (h : Tab s n G k R0 C W) (hR : R0 ≤ R1) : Tab s n G k R1 C W := fun i hi => by
  obtain ⟨R, D, h1, h2, h3, h4, h5⟩ := h i hi
  exact ⟨R, D, h1, by omega, h3, h4, h5⟩
theorem Tab.other {s : St} {n G k R0 b' : Nat} {C : Array Value} {W : World} (h : Tab s n G k R0 C W) (hR : R0 ≤ b') (i : Nat) (v : Value) : Tab s n G k R0 C (W.setCell ⟨b', i, none⟩ v) := fun i hi => by
  obtain ⟨R, D, h1, h2, h3, h4, h5⟩ := h i hi
  exact ⟨R, D, h1, h2, h3, h4.other (by omega) _ _, h5⟩
theorem Tab.set {s : St} {n G k R0 : Nat} {C : Array Value} {W : World} (h : Tab s n G k R0 C W) (v : Value) : Tab s n G k R0 (C.setIfInBounds k v) (W.setCell ⟨G, k, none⟩ v) := fun i hi => by
  obtain ⟨R, D, h1, h2, h3, h4, h5⟩ := h i hi
  exact ⟨R, D, h1, h2, by rw [Array.getElem?_setIfInBounds_ne (by omega)]; exact h3, h4.other (by omega) _ _, h5⟩
theorem held11 {W : World} {B G R k n : Nat} {s : St} {C : Array Value} (h : SB W B s) (hG : Blk W G C 55) (hk : C[k]? = some (.slice (some ⟨R, 0, none⟩) n n)) :
    SB W B s ∧ W.cell? ⟨B, 0, none⟩ = some (.int .i64 s.fl) ∧ W.cell? ⟨B, 1, none⟩ = some (.int .i64 s.ca) ∧ W.cell? ⟨B, 2, none⟩ = some (.int .i64 s.sta) ∧ W.cell? ⟨B, 3, none⟩ = some (.int .i64 s.ste) ∧ W.cell? ⟨B, 4, none⟩ = some (.int .i64 s.sto) ∧ W.cell? ⟨B, 5, none⟩ = some (.int .i64 s.opn) ∧ W.cell? ⟨B, 6, none⟩ = some (.int .i64 s.wai) ∧ W.cell? ⟨B, 7, none⟩ = some (.int .i64 s.clo) ∧ W.cell? ⟨B, 8, none⟩ = some (.int .i64 s.nud) ∧ W.cell? ⟨B, 9, none⟩ = some (.int .i64 s.age) ∧ W.cell? ⟨B, 10, none⟩ = some (.int .i64 s.sil) ∧ W.cell? ⟨B, 11, none⟩ = some (.int .i64 s.bud) ∧ W.cell? ⟨B, 12, none⟩ = some (.int .i64 s.per) ∧ W.cell? ⟨G, k, none⟩ = some (.slice (some ⟨R, 0, none⟩) n n) :=
  ⟨h, h.cell 0, h.cell 1, h.cell 2, h.cell 3, h.cell 4, h.cell 5, h.cell 6, h.cell 7, h.cell 8, h.cell 9, h.cell 10, h.cell 11, h.cell 12, (hG.cell k).trans hk⟩
set_option maxRecDepth 100000 in
set_option maxHeartbeats 2000000 in
theorem table_any (s : St) (r : SM.Rt s) (n : Nat) (hn : s.fl = (n : Int)) (w : World) :
    Calls Try.prog 58 #[.agg (sv s).toArray] w fun e w' => (∃ (G : Nat) (C : Array Value), e = .returned (.slice (some ⟨G, 0, none⟩) n n) ∧ w.heap.size ≤ G ∧ Blk w' G C 55 ∧ Tab s n G n w'.heap.size C w') ∧ Below w.heap.size w w' := by
  have HB : Hid (Below w.heap.size w (w.alloc (.cells (sv s).toArray 23))) := Hid.intro' ((Below.refl _ w).alloc (Nat.le_refl _) _)
  have HN := Hid.intro' (SB.new w s)
  have n1 : 2 ≤ n := by have := r.fl1; omega
  have n2 : n ≤ 64 := by have := r.fl2; omega
  have HFL := Hid.intro' hn
  clear hn
  go_enter Try.func58, Try.ntmps58
  go_wp2_with (refine wpList_load23 rfl _ rfl w.heap.size s rfl HN.out ?_)
  refine (right_t s r _).mono ?_
  rintro e W1 ⟨rfl, hb⟩
  obtain ⟨B, hB⟩ : ∃ B, w.heap.size = B := ⟨_, rfl⟩
  rw [show Value.pointer (some ⟨w.heap.size, 0, none⟩) = Value.pointer (some ⟨B, 0, none⟩) by rw [hB]]
  rw [hB] at HN
  have HS1 := Hid.intro' (SB.below' HN.out hb)
  have HB1 := Hid.intro' (below_class HB.out hb)
  clear hb HN HB
  have hc0 : W1.cell? ⟨B, 0, none⟩ = some (.int .i64 (n : Int)) := by rw [← HFL.out]; exact HS1.out.c0
  have hmB := mkBH n n2
  go_wp2
  have hS2 := Hid.intro' (HS1.out.alloc (.cells (zrows n) 55))
  have hB2 := Hid.intro' (HB1.out.alloc HB1.out.size (.cells (zrows n) 55))
  have hG2 := Hid.intro' (Blk.new W1 (zrows n) 55)
  have hBG : B < W1.heap.size := HS1.out.lt
  have hwG : w.heap.size ≤ W1.heap.size := HB1.out.size
  clear HS1 HB1 hc0 hmB
  generalize W1.alloc (.cells (zrows n) 55) = W2 at hS2 hB2 hG2 ⊢
  generalize W1.heap.size = G at hG2 hBG hwG ⊢
  go_loopw [14] (fun i wr => ∃ (k : Nat) (C : Array Value), k ≤ n ∧ i = .int .i64 k ∧ C.size = n ∧ Blk wr G C 55 ∧ Tab s n G k wr.heap.size C wr ∧ SB wr B s ∧ Below w.heap.size w wr) (fun i _ => n - (intOf i).toNat)
  case atStart => exact ⟨0, zrows n, by omega, rfl, zrows_size n, hG2.out, fun i hi => by omega, hS2.out, hB2.out⟩
  case round =>
    obtain ⟨k, C, hk, rfl, hC, hG, hT, hS, hBw⟩ := hrel
    clear hS2 hB2 hG2
    by_cases hlt : k < n
    · have hkI : (k : Int) < (n : Int) := by omega
      have hc0 : wr.cell? ⟨B, 0, none⟩ = some (.int .i64 (n : Int)) := by rw [← HFL.out]; exact hS.c0
      have hmI := mkIn n n2
      obtain ⟨v, hv⟩ : ∃ v, C[k]? = some v := ⟨_, Array.getElem?_eq_getElem (by omega)⟩
      have hcG : wr.cell? ⟨G, k, none⟩ = some v := (hG.cell k).trans hv
      have hfG := hG.frozen k
      have hGlt := hG.lt
      have g1 := hG.set k (.slice (some ⟨wr.heap.size, 0, none⟩) n n)
      have hcG2 : (wr.setCell ⟨G, k, none⟩ (.slice (some ⟨wr.heap.size, 0, none⟩) n n)).cell? ⟨G, k, none⟩ = some (.slice (some ⟨wr.heap.size, 0, none⟩) n n) :=
        (g1.cell k).trans (by rw [Array.getElem?_setIfInBounds_self_of_lt (by omega)])
      have hsz : (wr.setCell ⟨G, k, none⟩ (.slice (some ⟨wr.heap.size, 0, none⟩) n n)).heap.size = wr.heap.size := by simp [World.setCell]
      have G3 := Hid.intro' (g1.alloc (.cells (zints n) 3))
      have CK := Hid.intro' (show (C.setIfInBounds k (.slice (some ⟨wr.heap.size, 0, none⟩) n n))[k]? = some (.slice (some ⟨wr.heap.size, 0, none⟩) n n) by rw [Array.getElem?_setIfInBounds_self_of_lt (by omega)])
      have CS := Hid.intro' (show (C.setIfInBounds k (.slice (some ⟨wr.heap.size, 0, none⟩) n n)).size = n by simp [hC])
      have T3 := Hid.intro' ((hT.set (.slice (some ⟨wr.heap.size, 0, none⟩) n n)).below (((Below.refl _ _).alloc (Nat.le_refl _) (.cells (zints n) 3))))
      have S3 := Hid.intro' ((hS.other (b' := G) (by omega) k (.slice (some ⟨wr.heap.size, 0, none⟩) n n)).alloc (.cells (zints n) 3))
      have B3 := Hid.intro' ((hBw.setCell (p := ⟨G, k, none⟩) hwG (.slice (some ⟨wr.heap.size, 0, none⟩) n n)).alloc (by rw [hsz]; exact hBw.size) (.cells (zints n) 3))
      have R3 := Blk.new (wr.setCell ⟨G, k, none⟩ (.slice (some ⟨wr.heap.size, 0, none⟩) n n)) (zints n) 3
      rw [hsz] at R3
      have R3 := Hid.intro' R3
      have hwR : w.heap.size ≤ wr.heap.size := hBw.size
      clear g1 hT hS hBw hG hv hC
      go_wp2
      clear hcG hfG hcG2 hc0 hmI hsz
      generalize (wr.setCell ⟨G, k, none⟩ (.slice (some ⟨wr.heap.size, 0, none⟩) n n)).alloc (.cells (zints n) 3) = W3 at G3 T3 S3 B3 R3 ⊢
      generalize C.setIfInBounds k (.slice (some ⟨wr.heap.size, 0, none⟩) n n) = C' at G3 CK CS T3
      generalize wr.heap.size = R at G3 CK T3 R3 hwR hGlt ⊢
      go_loopw [28] (fun i wr => ∃ (j : Nat) (D : Array Value), j ≤ n ∧ i = .int .i64 j ∧ D.size = n ∧ Blk wr R D 3 ∧ (∀ q : Nat, q < n → q < j → D[q]? = some (.int .i64 (SM.trav s k q))) ∧ (∀ q : Nat, q < n → ∃ z : Int, D[q]? = some (.int .i64 z)) ∧ Blk wr G C' 55 ∧ Tab s n G k R C' wr ∧ SB wr B s ∧ Below w.heap.size w wr) (fun i _ => n - (intOf i).toNat)
      case atStart => exact ⟨0, zints n, by omega, rfl, zints_size n, R3.out, fun q _ hq => by omega, fun q hq => ⟨0, zints_get n q hq⟩, G3.out, T3.out, S3.out, B3.out⟩
      case round =>
        obtain ⟨j, D, hj, rfl, hD, hR, hrow, hint, hG, hT, hS, hBw⟩ := hrel
        clear G3 T3 S3 B3 R3
        by_cases hjn : j < n
        · have hjI : (j : Int) < (n : Int) := by omega
          obtain ⟨z, hz⟩ := hint j hjn
          go_wp2
          have hk0 : (0 : Int) ≤ (k : Int) := by omega
          have hj0 : (0 : Int) ≤ (j : Int) := by omega
          go_region_held3 (fun w' => SB w' B s ∧ w'.cell? ⟨B, 0, none⟩ = some (.int .i64 s.fl) ∧ w'.cell? ⟨B, 1, none⟩ = some (.int .i64 s.ca) ∧ w'.cell? ⟨B, 2, none⟩ = some (.int .i64 s.sta) ∧ w'.cell? ⟨B, 3, none⟩ = some (.int .i64 s.ste) ∧ w'.cell? ⟨B, 4, none⟩ = some (.int .i64 s.sto) ∧ w'.cell? ⟨B, 5, none⟩ = some (.int .i64 s.opn) ∧ w'.cell? ⟨B, 6, none⟩ = some (.int .i64 s.wai) ∧ w'.cell? ⟨B, 7, none⟩ = some (.int .i64 s.clo) ∧ w'.cell? ⟨B, 8, none⟩ = some (.int .i64 s.nud) ∧ w'.cell? ⟨B, 9, none⟩ = some (.int .i64 s.age) ∧ w'.cell? ⟨B, 10, none⟩ = some (.int .i64 s.sil) ∧ w'.cell? ⟨B, 11, none⟩ = some (.int .i64 s.bud) ∧ w'.cell? ⟨B, 12, none⟩ = some (.int .i64 s.per) ∧ w'.cell? ⟨G, k, none⟩ = some (.slice (some ⟨R, 0, none⟩) n n)) (first | exact held11 (SB.drew hS) hG CK.out | exact held11 (SB.below' (SB.drew hS) hb2) (Blk.below (W := wr.drew) hG hb2) CK.out | exact held11 (SB.other (SB.below' (SB.drew hS) hb2) (by omega) _ _) (Blk.other (Blk.below (W := wr.drew) hG hb2) (by omega) _ _) CK.out) ((go_at_call 76; refine (travel_any s r _ _ _).mono ?_; rintro e W4 ⟨rfl, hb2⟩; have hR4 := Blk.below (W := wr.drew) hR hb2; have hcR : W4.cell? ⟨R, j, none⟩ = some (.int .i64 z) := (hR4.cell j).trans hz; have hfR := hR4.frozen j))
          rename_i hheld
          have hb3 : Below wr.heap.size wr W4 := below_class (Below.refl _ wr).drew hb2
          have hG4 := hG.below hb3
          have T5 := Hid.intro' ((hT.below hb3).other (Nat.le_refl R) j (.int .i64 (SM.trav s k j)))
          have G5 := Hid.intro' (hG4.other (b' := R) (by omega) j (.int .i64 (SM.trav s k j)))
          have R5 := Hid.intro' (hR4.set j (.int .i64 (SM.trav s k j)))
          have S5 := Hid.intro' ((hS.below' hb3).other (b' := R) (by omega) j (.int .i64 (SM.trav s k j)))
          have B5 := Hid.intro' ((below_class hBw hb3).setCell (p := ⟨R, j, none⟩) hwR (.int .i64 (SM.trav s k j)))
          have D5 := Hid.intro' (show (D.setIfInBounds j (.int .i64 (SM.trav s k j))).size = n by simp [hD])
          have Row5 : Hid (∀ q : Nat, q < n → q < j + 1 → (D.setIfInBounds j (.int .i64 (SM.trav s k j)))[q]? = some (.int .i64 (SM.trav s k q))) := Hid.intro' (fun q hq1 hq2 => by
            by_cases e : j = q
            · subst e; rw [Array.getElem?_setIfInBounds_self_of_lt (by omega)]
            · rw [Array.getElem?_setIfInBounds_ne e]; exact hrow q hq1 (by omega))
          have Int5 : Hid (∀ q : Nat, q < n → ∃ z : Int, (D.setIfInBounds j (.int .i64 (SM.trav s k j)))[q]? = some (.int .i64 z)) := Hid.intro' (fun q hq1 => by
            by_cases e : j = q
            · subst e; exact ⟨_, Array.getElem?_setIfInBounds_self_of_lt (by omega)⟩
            · rw [Array.getElem?_setIfInBounds_ne e]; exact hint q hq1)
          clear hheld hcR hfR hb2 hb3 hR4 hG4 hR hG hT hS hBw hrow hint hz
          go_wp2
          go_roundw
          case rel => exact ⟨j + 1, _, by omega, by go_num, D5.out, R5.out, Row5.out, Int5.out, G5.out, T5.out, S5.out, B5.out⟩
          case measure => simp [intOf]; omega
        · obtain rfl : j = n := by omega
          have T6 : Hid (Tab s j G (k + 1) wr.heap.size C' wr) := Hid.intro' (fun i hi => by
            by_cases e : i < k
            · exact (hT.le (Nat.le_of_lt hR.lt)) i e
            · obtain rfl : i = k := by omega
              exact ⟨R, D, hGlt, hR.lt, CK.out, hR, fun q hq => hrow q hq hq⟩)
          have G6 := Hid.intro' hG
          have S6 := Hid.intro' hS
          have B6 := Hid.intro' hBw
          clear hR hG hT hS hBw hrow hint
          go_wp2
          go_roundw
          case rel => exact ⟨k + 1, C', by omega, by go_num, CS.out, G6.out, T6.out, S6.out, B6.out⟩
          case measure => simp [intOf]; omega
    · obtain rfl : k = n := by omega
      have T6 := Hid.intro' hT
      have G6 := Hid.intro' hG
      have B6 := Hid.intro' hBw
      clear hG hT hS hBw
      go_wp2
      go_ret
      exact ⟨⟨G, C, rfl, hwG, G6.out, T6.out⟩, B6.out⟩
/-- the table, as it is read -/
theorem table_rl (s : St) (r : SM.Rt s) (w : World) :
    Calls Try.prog 58 #[.agg (sv s).toArray] w fun e w' => ∃ v, e = .returned v ∧ RL (fun g => w.heap.size ≤ g) w' v (tbl s) ∧ Below w.heap.size w w' := by
  have f1 := r.fl1
  refine (table_any s r s.fl.toNat (by omega) w).mono fun e w' h => ?_
  obtain ⟨⟨G, C, rfl, hG, hC, hT⟩, hb⟩ := h
  have hlen : (tbl s).length = s.fl.toNat := by unfold tbl; simp
  refine ⟨_, rfl, ⟨some ⟨G, 0, none⟩, s.fl.toNat, by rw [hlen], by rw [hlen]; exact Nat.le_refl _, (fun e => by cases e), .inr ⟨G, 0, rfl, hG, hC.lt, fun i l hi => ?_⟩⟩, hb⟩
  have hi2 : i < s.fl.toNat := by rw [← hlen]; exact (List.getElem?_eq_some_iff.1 hi).1
  rw [tbl_get hi2] at hi
  cases hi
  obtain ⟨R, D, h1, h2, h3, h4, h5⟩ := hT i hi2
  refine ⟨_, (by rw [Nat.zero_add]; exact (hC.cell i).trans h3), some ⟨R, 0, none⟩, s.fl.toNat, by simp, by simp, (fun e => by cases e), .inr ⟨R, 0, rfl, by omega, h4.lt, fun j x hx => ?_⟩⟩
  have hj : j < s.fl.toNat := by
    have := (List.getElem?_eq_some_iff.1 hx).1
    simpa using this
  rw [tbl_at i hj] at hx
  cases hx
  rw [Nat.zero_add]
  exact (h4.cell j).trans (h5 j hj)
end Go.Proofs.Ytagmidolcdefiah
