/- A proof's form, as the document reads it. -/
import Derived.Test.YtagmidolcdefiahPk11
import Derived.Test.YtagmidolcdefiahPk10
namespace Go.Proofs.Ytagmidolcdefiah
open Go.RowKit Go.Shelf
/-- a block that holds a claim, as the document has it -/
def DcB (W : World) (b : Nat) (ok : Bool) (co : Int) (vp : Value) : Prop := W.heap[b]? = some (.cells #[.bool ok, .int .i64 co, vp] 46 (0, 0))
section
variable {W W' : World} {b : Nat} {vp : Value} {co : Int} {ok : Bool}
theorem DcB.lt (H : DcB W b ok co vp) : b < W.heap.size := (Array.getElem?_eq_some_iff.1 H).1
theorem DcB.below' (H : DcB W b ok co vp) (hb : Below W.heap.size W W') : DcB W' b ok co vp := (hb.block b H.lt).trans H
theorem DcB.kp {G : Nat → Prop} (H : DcB W b ok co vp) (k : Kp G W W') (hG : ¬ G b) : DcB W' b ok co vp := (k.block b H.lt hG).trans H
theorem DcB.new (W : World) (ok : Bool) (co : Int) (vp : Value) : DcB (W.alloc (.cells #[.bool ok, .int .i64 co, vp] 46)) W.heap.size ok co vp := World.alloc_heap_new W _
theorem DcB.cell (H : DcB W b ok co vp) (i : Nat) : W.cell? ⟨b, i, none⟩ = [Value.bool ok, .int .i64 co, vp][i]? := blk_cell H i
theorem DcB.fr (H : DcB W b ok co vp) (i : Nat) : W.frozen? ⟨b, i, none⟩ = false := blk_fr H i
end
theorem infoDc : (Try.prog.info? 46).map (·.size) = some 3 := by kernel_rfl
theorem kp_row' (w : World) (b : Nat) (cs : Array Value) : Kp (fun k => k = b) w (w.setRow b cs) := ⟨rfl, rfl, rfl, by simp [World.setRow], fun k _ hk => setRow_other w b k cs hk⟩
theorem wpList_storeDc {ops : Array Oper} {rest : List Oper} {op : Oper} {a : Act} {w : World} {Q : Exit → Act → World → Prop} (hgd : op.guard = none) (x y : Operand) (ho : op.op = .store 46 x y)
    (b : Nat) {vp : Value} {co : Int} {ok : Bool} {a1 : Option Addr} {n1 c1 : Nat} {co' : Int} {ok' : Bool} (hx : a.eval x = .pointer (some ⟨b, 0, none⟩)) (hy : a.eval y = .agg #[.bool ok', .int .i64 co', .slice a1 n1 c1]) (hL : DcB w b ok co vp)
    (hn : ∀ W', Kp (fun k => k = b) w W' → DcB W' b ok' co' (.slice a1 n1 c1) → wpList Try.prog ops Q rest (a.put op.dst undef) W') : wpList Try.prog ops Q (op :: rest) a w :=
  wpList_store_row hgd 46 x y ho b _ hx hy _ _ hL infoDc rfl (by simp [Value.oneCell']) (hn _ (kp_row' w b _) (setRow_heap w b _ _ _ _ hL))
theorem wpList_loadDc {ops : Array Oper} {rest : List Oper} {op : Oper} {a : Act} {w : World} {Q : Exit → Act → World → Prop} (hgd : op.guard = none) (x : Operand) (ho : op.op = .load 46 x) (b : Nat) {vp : Value} {co : Int} {ok : Bool} (hx : a.eval x = .pointer (some ⟨b, 0, none⟩)) (H : DcB w b ok co vp)
    (hn : wpList Try.prog ops Q rest (a.put op.dst (.agg #[.bool ok, .int .i64 co, vp])) w) : wpList Try.prog ops Q (op :: rest) a w :=
  wpList_load_row hgd 46 x ho b hx _ _ _ _ H Try.underlying46 rfl infoDc hn
theorem retK3 {fn : Func} {p t r : Tmp} (hf : fn.results = #[.cell p 46, .tmp t, .tmp r]) {tmps : Array Value} {w : World} {b : Nat} {vp : Value} {co : Int} {ok : Bool} {u z : Value} (hp : tmps.getD p undef = .pointer (some ⟨b, 0, none⟩)) (ht : tmps.getD t undef = u) (hr : tmps.getD r undef = z) (H : DcB w b ok co vp) :
    (results fn tmps).run Try.prog w = .ok (.tuple #[.agg #[.bool ok, .int .i64 co, vp], u, z]) w := by
  have hp' : tmps[p]?.getD undef = .pointer (some ⟨b, 0, none⟩) := by simpa using hp
  have ht' : tmps[t]?.getD undef = u := by simpa using ht
  have hr' : tmps[r]?.getD undef = z := by simpa using hr
  have H' : w.heap[b]? = some (.cells #[.bool ok, .int .i64 co, vp] 46 (0, 0)) := H
  simp [results, hf, hp', ht', hr', asAddr, run_loadVar_row w b 46 46 _ _ _ H' Try.underlying46 rfl infoDc]
/-- what reading gives -/
structure RdP (n : Nat) (b : List Nat) (w : World) (e : Ending) (w' : World) : Prop where
  bel : Below w.heap.size w w'
  out : (rdc n b = none ∧ ∃ ok co a1 n1 c1 x, e = .returned (.tuple #[.agg #[.bool ok, .int .i64 co, .slice a1 n1 c1], x, .bool false])) ∨ ∃ c a vp, rdc n b = some (c, a) ∧ e = .returned (.tuple #[.agg #[.bool c.best, .int .i64 c.cost, vp], .int .i64 (a : Int), .bool true]) ∧ RL (fun g => w.heap.size ≤ g) w' vp c.plan
/-- how far it is read -/
structure Rk (w wr : World) (ok : Bool) (co : Int) (vp : Value) : Prop where
  bel : Below w.heap.size w wr
  k4 : DcB wr w.heap.size false 0 (.slice none 0 0)
  k7 : DcB wr (w.heap.size + 1) ok co vp
section
variable {w wr wr' : World} {ok : Bool} {co : Int} {vp : Value}
theorem Rk.next (h : Rk w wr ok co vp) (hb : Below wr.heap.size wr wr') : Rk w wr' ok co vp := ⟨below_class h.bel hb, h.k4.below' hb, h.k7.below' hb⟩
theorem Rk.lt (h : Rk w wr ok co vp) : w.heap.size + 2 ≤ wr.heap.size := h.k7.lt
theorem Rk.set (h : Rk w wr ok co vp) (i : Nat) (v : Value) {ok' : Bool} {co' : Int} {vp' : Value} (hx : [Value.bool ok, .int .i64 co, vp].set i v = [Value.bool ok', .int .i64 co', vp']) : Rk w (wr.setCell ⟨w.heap.size + 1, i, none⟩ v) ok' co' vp' := by
  refine ⟨h.bel.setCell (p := ⟨w.heap.size + 1, i, none⟩) (by simp) v, ?_, ?_⟩
  · exact (Below.heap_setCell wr ⟨w.heap.size + 1, i, none⟩ v w.heap.size (by simp)).trans h.k4
  · have h7 : wr.heap[w.heap.size + 1]? = some (.cells [Value.bool ok, .int .i64 co, vp].toArray 46 (0, 0)) := h.k7
    have := blk_set h7 i v
    rw [hx] at this
    exact this
end
theorem rdc_not {n : Nat} {b : List Nat} (h : b.length < 9 ∨ 1 < b[0]?.getD 0 ∨ 1099511627776 < be ((b.drop 1).take 8)) : rdc n b = none := by
  unfold rdc
  rw [if_pos h]
theorem rdc_lists {n : Nat} {b : List Nat} (h : rdk b n = none) : rdc n b = none := by
  unfold rdc
  rw [h]
  split <;> rfl
theorem be_take {b : List Nat} {k : Nat} (hk : k ≤ 8) (h : 1099511627776 < be ((b.drop 1).take k)) : 1099511627776 < be ((b.drop 1).take 8) := by
  have h1 := be_append ((b.drop 1).take k) (((b.drop 1).take 8).drop k)
  have h2 : (b.drop 1).take k ++ ((b.drop 1).take 8).drop k = (b.drop 1).take 8 := by
    have := List.take_append_drop k ((b.drop 1).take 8)
    rwa [List.take_take, show min k 8 = k by omega] at this
  rw [h2] at h1
  omega
theorem be_next {b : List Nat} {k x : Nat} (h : b[k + 1]? = some x) : be ((b.drop 1).take (k + 1)) = 256 * be ((b.drop 1).take k) + (x : Int) := by
  rw [take_snoc (by rw [List.getElem?_drop, Nat.add_comm]; exact h), be_snoc]
set_option maxRecDepth 100000 in
set_option maxHeartbeats 2000000 in
theorem rread_any (n : Nat) (D : Nat → Prop) (b : List Nat) (v : Value) (w : World) (hb : RY D w v b) (hn : n ≤ 8) (hl : b.length ≤ 1000000) :
    Calls Try.prog 31 #[.int .i64 (n : Int), v] w fun e w' => RdP n b w e w' := by
  obtain ⟨av, kv, rfl, _, _, _⟩ := hb.form
  have hb1 := (Below.refl w.heap.size w).alloc (Nat.le_refl _) (.cells #[.bool false, .int .i64 0, .slice none 0 0] 46)
  have hb2 := hb1.alloc (by simp) (.cells #[.bool false, .int .i64 0, .slice none 0 0] 46)
  have HK4 := Hid.intro' ((DcB.new w false 0 (.slice none 0 0)).below' ((Below.refl _ (w.alloc (.cells #[.bool false, .int .i64 0, .slice none 0 0] 46))).alloc (Nat.le_refl _) (.cells #[.bool false, .int .i64 0, .slice none 0 0] 46)))
  have HK7 := Hid.intro' (DcB.new (w.alloc (.cells #[.bool false, .int .i64 0, .slice none 0 0] 46)) false 0 (.slice none 0 0))
  have hsz : (w.alloc (.cells #[.bool false, .int .i64 0, .slice none 0 0] 46)).heap.size = w.heap.size + 1 := by simp
  rw [hsz] at HK7
  have HB := Hid.intro' hb2
  have HR := Hid.intro' hb
  have HBY := Hid.intro' hb.1
  clear hb1 hb2 hsz hb
  go_enter Try.func31, Try.ntmps31
  go_wp2_with (refine wpList_storeDc rfl _ _ rfl (w.heap.size + 1) rfl rfl HK7.out ?_)
  intro W3 hk3 hg3
  have HS : Hid (Rk w W3 false 0 (.slice none 0 0)) := ⟨hk3.below HB.out HB.out.size (fun i hi e => by omega), HK4.out.kp hk3 (fun e => by omega), hg3⟩
  clear hk3 hg3 HK4 HK7 HB
  by_cases h9 : b.length < 9
  · have q1 : (b.length : Int) < 9 := by omega
    have HNO := Hid.intro' (rdc_not (n := n) (.inl h9))
    have HK4 := Hid.intro' HS.out.k4
    have HK7 := Hid.intro' HS.out.k7
    clear h9
    go_wp2_with (first | (refine wpList_loadDc rfl _ rfl (w.heap.size + 1) rfl HK7.out ?_) | (refine wpList_storeDc rfl _ _ rfl w.heap.size rfl rfl HK4.out ?_))
    intro W4 hk4 hg4
    have HB4 := Hid.intro' (hk4.below HS.out.bel HS.out.bel.size (fun i hi e => by omega))
    have HG4 := Hid.intro' hg4
    clear hk4 hg4 HK4 HK7 HS
    go_wp2
    exact bodyPost_ret (retK3 Try.results31 rfl rfl rfl HG4.out) rfl ⟨HB4.out, .inl ⟨HNO.out, _, _, _, _, _, _, rfl⟩⟩
  · have q1 : ¬ (b.length : Int) < 9 := by omega
    obtain ⟨x0, hx0⟩ : ∃ x, b[0]? = some x := ⟨_, List.getElem?_eq_getElem (by omega)⟩
    have hne : b ≠ [] := fun e => by rw [e] at h9; simp at h9
    obtain ⟨gb, ob, rfl, hDb, hltb, hcb⟩ := HR.out.lies hne
    have HCB : Hid (∀ (wr : World), Below w.heap.size w wr → ∀ (i : Nat) x, b[i]? = some x → wr.cell? ⟨gb, ob + i, none⟩ = some (.int .u8 (x : Int))) := fun wr h i x hx => (h.cell (p := ⟨gb, ob + i, none⟩) hltb).trans (hcb i x hx)
    have c0 : W3.cell? ⟨gb, ob, none⟩ = some (.int .u8 (x0 : Int)) := HCB.out W3 HS.out.bel 0 x0 hx0
    have HB0 : Hid (b[0]?.getD 0 = x0) := by show _ = _; rw [hx0]; rfl
    clear hcb hne hDb hltb hx0
    by_cases h1 : 1 < x0
    · have q2 : (1 : Int) < (x0 : Int) := by omega
      have HNO := Hid.intro' (rdc_not (n := n) (b := b) (.inr (.inl (by rw [HB0.out]; exact h1))))
      have HK4 := Hid.intro' HS.out.k4
      have HK7 := Hid.intro' HS.out.k7
      clear h1
      go_wp2_with (first | (refine wpList_loadDc rfl _ rfl (w.heap.size + 1) rfl HK7.out ?_) | (refine wpList_storeDc rfl _ _ rfl w.heap.size rfl rfl HK4.out ?_))
      intro W4 hk4 hg4
      have HB4 := Hid.intro' (hk4.below HS.out.bel HS.out.bel.size (fun i hi e => by omega))
      have HG4 := Hid.intro' hg4
      clear hk4 hg4 HK4 HK7 HS
      go_wp2
      exact bodyPost_ret (retK3 Try.results31 rfl rfl rfl HG4.out) rfl ⟨HB4.out, .inl ⟨HNO.out, _, _, _, _, _, _, rfl⟩⟩
    · have q2 : ¬ (1 : Int) < (x0 : Int) := by omega
      have d0 : W3.cell? ⟨w.heap.size + 1, 0, none⟩ = some (.bool false) := HS.out.k7.cell 0
      have d1 : W3.frozen? ⟨w.heap.size + 1, 0, none⟩ = false := HS.out.k7.fr 0
      obtain ⟨ok, HOK, hq3, hq4⟩ : ∃ ok, Hid (decide (x0 = 1) = ok) ∧ ((x0 : Int) == 1) = ok ∧ decide ((x0 : Int) = 1) = ok := by
        rcases (show x0 = 0 ∨ x0 = 1 by omega) with rfl | rfl
        · exact ⟨false, rfl, rfl, rfl⟩
        · exact ⟨true, rfl, rfl, rfl⟩
      have HS1 := Hid.intro' (HS.out.set 0 (.bool ok) rfl)
      go_wp2_with fail
      clear d0 d1 c0 hq3 hq4 HS
      generalize W3.setCell ⟨w.heap.size + 1, 0, none⟩ (.bool ok) = W4 at HS1 ⊢
      go_loopw [8] (fun iv wr => ∃ (k : Nat), k ≤ 8 ∧ iv = .int .i64 ((k : Int) + 1) ∧ Hid (Rk w wr ok (be ((b.drop 1).take k)) (.slice none 0 0))) (fun iv _ => 9 - (intOf iv).toNat)
      case atStart => exact ⟨0, Nat.zero_le _, rfl, HS1⟩
      case round =>
        clear HS1
        obtain ⟨k, hk, rfl, HS⟩ := hrel
        by_cases hk8 : k < 8
        · have hkz : (k : Int) + 1 < 9 := by omega
          obtain ⟨co, HCO⟩ : ∃ c, Hid (be ((b.drop 1).take k) = c) := ⟨_, Hid.intro' rfl⟩
          have hnn := be_nn ((b.drop 1).take k)
          rw [HCO.out] at HS hnn
          have d1 : wr.cell? ⟨w.heap.size + 1, 1, none⟩ = some (.int .i64 co) := HS.out.k7.cell 1
          by_cases hbig : 1099511627776 < co
          · have HNO := Hid.intro' (rdc_not (n := n) (b := b) (.inr (.inr (be_take hk (by rw [HCO.out]; exact hbig)))))
            have HK4 := Hid.intro' HS.out.k4
            have HK7 := Hid.intro' HS.out.k7
            go_wp2_with (first | (refine wpList_loadDc rfl _ rfl (w.heap.size + 1) rfl HK7.out ?_) | (refine wpList_storeDc rfl _ _ rfl w.heap.size rfl rfl HK4.out ?_))
            intro W4 hk4 hg4
            have HB4 := Hid.intro' (hk4.below HS.out.bel HS.out.bel.size (fun i hi e => by omega))
            have HG4 := Hid.intro' hg4
            clear hk4 hg4 HK4 HK7 HS
            go_wp2
            exact bodyPost_ret (retK3 Try.results31 rfl rfl rfl HG4.out) rfl ⟨HB4.out, .inl ⟨HNO.out, _, _, _, _, _, _, rfl⟩⟩
          · obtain ⟨x, hx⟩ : ∃ x, b[k + 1]? = some x := ⟨_, List.getElem?_eq_getElem (by omega)⟩
            have hxb : x < 256 := HBY.out x (List.mem_of_getElem? hx)
            have hbe := be_next hx
            rw [HCO.out] at hbe
            have hw0 := i64_byt hxb
            have hw1 : IntKind.i64.wrap (256 * co) = 256 * co := IntWalk.i64_in _ (by omega)
            have hw2 : IntKind.i64.wrap (256 * co + (x : Int)) = 256 * co + (x : Int) := IntWalk.i64_in _ (by omega)
            have HBE := Hid.intro' hbe
            have HL1 : Hid (∀ w', Below wr.drew.heap.size wr.drew w' → w'.cell? ⟨w.heap.size + 1, 1, none⟩ = some (.int .i64 co)) := fun w' hw => (HS.out.next ((Below.refl _ _).drew.trans hw)).k7.cell 1
            have HL2 : Hid (∀ w', Below wr.drew.heap.size wr.drew w' → w'.cell? ⟨gb, ob + (k + 1), none⟩ = some (.int .u8 (x : Int))) := fun w' hw => HCB.out w' (below_class HS.out.bel ((Below.refl _ _).drew.trans hw)) (k + 1) x hx
            have hkl : k + 1 < b.length := by omega
            clear hx hbe
            go_wp2_with fail
            refine wp_region_tail 10 (by kernel_rfl) (by kernel_rfl) ?_
            simp only [List.take_succ_cons, List.take_zero, List.drop_succ_cons, List.drop_zero]
            unfold wpCalm
            generalize hK : wpCalm Try.prog _ _ _ _ = K
            unfold Oper.calm
            go_simp
            refine ⟨_, fun _ _ => rfl, ?_⟩
            subst hK
            unfold wpCalm
            generalize hK : wpCalm Try.prog _ _ _ _ = K
            rw [if_pos (by go_simp)]
            refine calm_load3 _ _ _ rfl rfl HL1.out ?_
            go_simp
            subst hK
            unfold wpCalm
            generalize hK : wpCalm Try.prog _ _ _ _ = K
            unfold Oper.calm
            go_simp
            refine ⟨_, fun _ _ => rfl, ?_⟩
            subst hK
            unfold wpCalm
            generalize hK : wpCalm Try.prog _ _ _ _ = K
            unfold Oper.calm
            go_simp
            refine ⟨_, fun _ _ => rfl, ?_⟩
            subst hK
            unfold wpCalm
            generalize hK : wpCalm Try.prog _ _ _ _ = K
            unfold Oper.calm
            go_simp
            refine ⟨_, fun _ _ => rfl, ?_⟩
            subst hK
            unfold wpCalm
            generalize hK : wpCalm Try.prog _ _ _ _ = K
            rw [if_pos (by go_simp)]
            refine calm_ixYz _ _ (k + 1) (by omega) rfl rfl rfl hkl ?_
            go_simp
            subst hK
            unfold wpCalm
            generalize hK : wpCalm Try.prog _ _ _ _ = K
            rw [if_pos (by go_simp)]
            refine calm_loadY _ _ _ rfl rfl HL2.out ?_
            go_simp
            subst hK
            unfold wpCalm
            generalize hK : wpCalm Try.prog _ _ _ _ = K
            unfold Oper.calm
            go_simp
            refine ⟨_, fun _ _ => rfl, ?_⟩
            subst hK
            unfold wpCalm
            generalize hK : wpCalm Try.prog _ _ _ _ = K
            unfold Oper.calm
            go_simp
            refine ⟨_, fun _ _ => rfl, ?_⟩
            subst hK
            unfold wpCalm
            generalize hK : wpCalm Try.prog _ _ _ _ = K
            unfold Oper.calm
            go_simp
            refine ⟨_, fun _ _ => rfl, ?_⟩
            subst hK
            refine wpCalm_nil ?_
            intro W5 hb5
            have HS5 := Hid.intro' (HS.out.next ((Below.refl _ _).drew.trans hb5))
            have d5 : W5.cell? ⟨w.heap.size + 1, 1, none⟩ = some (.int .i64 co) := HS5.out.k7.cell 1
            have f5 : W5.frozen? ⟨w.heap.size + 1, 1, none⟩ = false := HS5.out.k7.fr 1
            have HS6 := Hid.intro' (HS5.out.set 1 (.int .i64 (256 * co + (x : Int))) (ok' := ok) (co' := be ((b.drop 1).take (k + 1))) (vp' := .slice none 0 0) (by rw [HBE.out]; rfl))
            clear HL1 HL2 HS HS5 hb5 d1
            go_wp2
            go_roundw
            case rel => exact ⟨k + 1, by omega, by go_num, HS6⟩
            case measure => simp [intOf]; omega
        · have hkz : ¬ (k : Int) + 1 < 9 := by omega
          have hk9 : k = 8 := by omega
          rw [hk9] at HS
          obtain ⟨co, HCO⟩ : ∃ c, Hid (be ((b.drop 1).take 8) = c) := ⟨_, Hid.intro' rfl⟩
          rw [HCO.out] at HS
          have d1 : wr.cell? ⟨w.heap.size + 1, 1, none⟩ = some (.int .i64 co) := HS.out.k7.cell 1
          clear hk9
          by_cases hbig : 1099511627776 < co
          · have HNO := Hid.intro' (rdc_not (n := n) (b := b) (.inr (.inr (by rw [HCO.out]; exact hbig))))
            have HK4 := Hid.intro' HS.out.k4
            have HK7 := Hid.intro' HS.out.k7
            go_wp2_with (first | (refine wpList_loadDc rfl _ rfl (w.heap.size + 1) rfl HK7.out ?_) | (refine wpList_storeDc rfl _ _ rfl w.heap.size rfl rfl HK4.out ?_))
            intro W4 hk4 hg4
            have HB4 := Hid.intro' (hk4.below HS.out.bel HS.out.bel.size (fun i hi e => by omega))
            have HG4 := Hid.intro' hg4
            clear hk4 hg4 HK4 HK7 HS
            go_wp2
            exact bodyPost_ret (retK3 Try.results31 rfl rfl rfl HG4.out) rfl ⟨HB4.out, .inl ⟨HNO.out, _, _, _, _, _, _, rfl⟩⟩
          · have HYES : Hid (¬ (b.length < 9 ∨ 1 < b[0]?.getD 0 ∨ 1099511627776 < be ((b.drop 1).take 8))) := by
              show ¬ _
              rw [HB0.out, HCO.out]
              omega
            go_wp2_with fail
            clear d1 hkz hk hk8
            have HQ0 := Hid.intro' (OQ.nil wr (w.heap.size + 2))
            rename World => Wr
            go_loopw [9, 10] (fun av kv wr => ∃ (k a : Nat) (p : List (List Int)) (vp : Value), k ≤ n ∧ kv = .int .i64 (k : Int) ∧ av = .int .i64 (a : Int) ∧ Hid (rdk b k = some (p, a)) ∧ Hid (Rk w wr ok co vp) ∧ Hid (OQ wr (w.heap.size + 2) vp p)) (fun _ kv _ => n - (intOf kv).toNat)
            case atStart => exact ⟨0, 9, [], _, Nat.zero_le _, rfl, rfl, rfl, HS, HQ0⟩
            case round =>
              clear HS HQ0
              obtain ⟨k, a, p, vp, hk, rfl, rfl, HRK, HS, HQ⟩ := hrel
              obtain ⟨hpk, ha9, hal⟩ := rdk_form (by omega) HRK.out
              have HPK := Hid.intro' hpk
              clear hpk
              by_cases hkn : k < n
              · have hkz : (k : Int) < (n : Int) := by omega
                obtain ⟨ap, kp, rfl⟩ := HQ.out.form
                by_cases hab : a < b.length
                · have haz : ¬ (b.length : Int) ≤ (a : Int) := by omega
                  obtain ⟨y, hy⟩ : ∃ y, b[a]? = some y := ⟨_, List.getElem?_eq_getElem hab⟩
                  have hyb : y < 256 := HBY.out y (List.mem_of_getElem? hy)
                  have hw0 := i64_byt hyb
                  have HY := Hid.intro' hy
                  have ca : wr.cell? ⟨gb, ob + a, none⟩ = some (.int .u8 (y : Int)) := HCB.out wr HS.out.bel a y hy
                  clear hy
                  by_cases hlong : b.length < a + 1 + y
                  · have hlz : (b.length : Int) - (a : Int) - 1 < (y : Int) := by omega
                    have HNO := Hid.intro' (rdc_lists (n := n) (b := b) (by
                      have := rdk_none (rdk_long HRK.out HY.out hlong) (n - (k + 1))
                      rwa [show k + 1 + (n - (k + 1)) = n by omega] at this))
                    have HK4 := Hid.intro' HS.out.k4
                    have HK7 := Hid.intro' HS.out.k7
                    go_wp2_with (first | (refine wpList_loadDc rfl _ rfl (w.heap.size + 1) rfl HK7.out ?_) | (refine wpList_storeDc rfl _ _ rfl w.heap.size rfl rfl HK4.out ?_))
                    intro W4 hk4 hg4
                    have HB4 := Hid.intro' (hk4.below HS.out.bel HS.out.bel.size (fun i hi e => by omega))
                    have HG4 := Hid.intro' hg4
                    clear hk4 hg4 HK4 HK7 HS
                    go_wp2
                    exact bodyPost_ret (retK3 Try.results31 rfl rfl rfl HG4.out) rfl ⟨HB4.out, .inl ⟨HNO.out, _, _, _, _, _, _, rfl⟩⟩
                  · have hlz : ¬ (b.length : Int) - (a : Int) - 1 < (y : Int) := by omega
                    go_wp2_with fail
                    have hbA := (Below.refl wr.heap.size wr).alloc (Nat.le_refl _) (.cells #[] 3)
                    have HO0 : Hid (OI (wr.alloc (.cells #[] 3)) wr.heap.size (.slice (some ⟨wr.heap.size, 0, none⟩) 0 0) []) := OI.lit (B := wr.heap.size) wr [] (Nat.le_refl _) (Nat.zero_le _)
                    have HBA := Hid.intro' hbA
                    have hyl : a + 1 + y ≤ b.length := by omega
                    clear hbA ca haz hlz hlong hab
                    clear Wr
                    rename World => Wr
                    generalize hX : Wr.alloc (.cells #[] 3) = X at HO0 HBA ⊢
                    clear hX
                    go_loopw [12, 13] (fun ov iv wr => ∃ (i g c : Nat), i ≤ y ∧ iv = .int .i64 (i : Int) ∧ ov = .slice (some ⟨g, 0, none⟩) i c ∧ Hid (OI wr Wr.heap.size (.slice (some ⟨g, 0, none⟩) i c) (((b.drop (a + 1)).take i).map fun (x : Nat) => (x : Int))) ∧ Hid (Below Wr.heap.size Wr wr)) (fun _ iv _ => y - (intOf iv).toNat)
                    case atStart => exact ⟨0, _, 0, Nat.zero_le _, rfl, rfl, by rw [List.take_zero]; exact HO0, HBA⟩
                    case round =>
                      clear HO0 HBA
                      obtain ⟨i, g, c, hi, rfl, rfl, HO, HBJ⟩ := hrel
                      by_cases hiy : i < y
                      · have hiz : (i : Int) < (y : Int) := by omega
                        obtain ⟨z, hz⟩ : ∃ z, b[a + 1 + i]? = some z := ⟨_, List.getElem?_eq_getElem (by omega)⟩
                        have hzb : z < 256 := HBY.out z (List.mem_of_getElem? hz)
                        have hw1 := i64_byt hzb
                        have hix : (Instr.indexAt 33 (.slice (some ⟨gb, ob, none⟩) b.length kv) (.int .i64 ((a : Int) + 1 + (i : Int)))).run Try.prog wr = .ok (.pointer (some ⟨gb, ob + (a + 1 + i), none⟩)) wr := by
                          have := ixY wr (a := some ⟨gb, ob, none⟩) (g := gb) (o := ob) (cap := kv) rfl (show a + 1 + i < b.length by omega)
                          rwa [show ((a + 1 + i : Nat) : Int) = (a : Int) + 1 + (i : Int) by omega] at this
                        have ci : wr.cell? ⟨gb, ob + (a + 1 + i), none⟩ = some (.int .u8 (z : Int)) := HCB.out wr (below_class HS.out.bel HBJ.out) (a + 1 + i) z hz
                        have HTS : Hid ((((b.drop (a + 1)).take (i + 1)).map fun (x : Nat) => (x : Int)) = (((b.drop (a + 1)).take i).map fun (x : Nat) => (x : Int)) ++ [(z : Int)]) := by
                          show _ = _
                          rw [take_snoc (by rw [List.getElem?_drop]; exact hz), List.map_append]
                          rfl
                        obtain ⟨L, HL⟩ : ∃ L, Hid ((((b.drop (a + 1)).take i).map fun (x : Nat) => (x : Int)) = L) := ⟨_, Hid.intro' rfl⟩
                        have HLN : Hid (L.length = i) := by
                          show _ = _
                          rw [← HL.out, List.length_map, List.length_take, List.length_drop]
                          omega
                        rw [HL.out] at HO HTS
                        have HOA := Hid.intro' (HO.out.alloc (.cells #[.int .i64 (z : Int)] 3))
                        have HCX : Hid ((wr.alloc (.cells #[.int .i64 (z : Int)] 3)).cell? ⟨wr.heap.size, 0, none⟩ = some (.int .i64 (z : Int))) := (OI.lit (B := 0) wr [(z : Int)] (Nat.zero_le _) (by unfold maxLen; simp)).cell (i := 0) rfl
                        have HZJ := Hid.intro' HBJ.out.size
                        clear hz hzb
                        go_wp2_with (at_builtin; refine wpList_appI rfl _ _ rfl Wr.heap.size _ L rfl HOA.out wr.heap.size 1 (z : Int) rfl HCX.out ?qa3 ?qa4 ?_)
                        case qa3 => have := HLN.out; omega
                        case qa4 => have := HZJ.out; simp; omega
                        intro g' c' W7 ho7 hg7 hat7 hlt7
                        have HO7 := Hid.intro' ho7
                        rw [← HTS.out, HLN.out] at HO7
                        have HB7 := Hid.intro' ((HBJ.out.alloc HZJ.out (.cells #[.int .i64 (z : Int)] 3)).grown hg7 (by have := HZJ.out; simp; omega) (fun q hq => (HO.out.lt q hq).1))
                        rw [HLN.out]
                        clear ho7 hg7 hat7 hlt7 HOA HCX ci hix HO HBJ
                        go_wp2
                        go_roundw
                        case rel => exact ⟨i + 1, g', c', by omega, by go_num, rfl, HO7, HB7⟩
                        case measure => simp [intOf]; omega
                      · have hiz : ¬ (i : Int) < (y : Int) := by omega
                        have hie : i = y := by omega
                        subst hie
                        obtain ⟨L, HL⟩ : ∃ L, Hid ((((b.drop (a + 1)).take i).map fun (x : Nat) => (x : Int)) = L) := ⟨_, Hid.intro' rfl⟩
                        rw [HL.out] at HO
                        have HS2 := Hid.intro' (HS.out.next HBJ.out)
                        have d2 : wr.cell? ⟨w.heap.size + 1, 2, none⟩ = some (.slice ap p.length kp) := HS2.out.k7.cell 2
                        have hbA := (Below.refl wr.heap.size wr).alloc (Nat.le_refl _) (.cells #[.slice (some ⟨g, 0, none⟩) i c] 55)
                        have HS3 := Hid.intro' (HS2.out.next hbA)
                        have hq3 := HQ.out.next (HBJ.out.trans (hbA.mono HBJ.out.size))
                        obtain ⟨us, hop, hul, hus⟩ := hq3
                        have HOP := Hid.intro' hop
                        have hoi := HO.out.below' hbA
                        have hgB := (HO.out.lt g rfl).1
                        have hWr := HS.out.lt
                        have hsz3 := HBJ.out.size
                        have hne : ∀ q, (Value.slice ap p.length kp).ownBlock = some q → q < Wr.heap.size := fun q hq => by
                          obtain ⟨us0, h0, _, _⟩ := HQ.out
                          exact (h0.lt q hq).2
                        have hri : RI (fun g => w.heap.size + 2 ≤ g ∧ (Value.slice ap p.length kp).ownBlock ≠ some g) (wr.alloc (.cells #[.slice (some ⟨g, 0, none⟩) i c] 55)) (.slice (some ⟨g, 0, none⟩) i c) L := hoi.ri fun q hq => by
                          cases hq
                          show w.heap.size + 2 ≤ g ∧ (Value.slice ap p.length kp).ownBlock ≠ some g
                          exact ⟨by omega, fun e => by have := hne g e; omega⟩
                        have HCX : Hid ((wr.alloc (.cells #[.slice (some ⟨g, 0, none⟩) i c] 55)).cell? ⟨wr.heap.size, 0, none⟩ = some (.slice (some ⟨g, 0, none⟩) i c)) := by
                          show _ = _
                          rw [cell_of_row _ _ 0 _ _ _ (heap_alloc_new wr _)]; rfl
                        have HUS := Hid.intro' hus
                        have HUL := Hid.intro' hul
                        have HRI := Hid.intro' hri
                        have HSA : Hid (w.heap.size + 2 ≤ (wr.alloc (.cells #[.slice (some ⟨g, 0, none⟩) i c] 55)).heap.size) := by show _ ≤ _; simp; omega
                        have HPL : Hid (us.length ≤ 1000000) := by show _ ≤ _; have := HPK.out; omega
                        clear hbA hop hul hus hri hoi hne hWr hsz3 hgB HO HBJ HS2
                        go_wp2_with (at_builtin; refine wpList_appP rfl _ _ rfl (w.heap.size + 2) _ us rfl HOP.out wr.heap.size 1 (.slice (some ⟨g, 0, none⟩) i c) rfl HCX.out rfl HPL.out HSA.out ?_)
                        intro g8 c8 W8 ho8 hg8 hat8 hlt8
                        have hq8 := OQ.snoc HUL.out HUS.out HRI.out ho8 hg8 (g' := g8) rfl (by simpa using hat8)
                        rw [HUL.out] at hq8 ⊢
                        have hkp8 : Kp (fun j => (Value.slice ap p.length kp).ownBlock = some j) (wr.alloc (.cells #[.slice (some ⟨g, 0, none⟩) i c] 55)) W8 := (Kp.refl _ _).grown hg8 (fun j _ e => e)
                        have hnw : ∀ j, (Value.slice ap p.length kp).ownBlock = some j → w.heap.size + 2 ≤ j := fun j hj => (HOP.out.lt j hj).1
                        have HS8 : Hid (Rk w W8 ok co (.slice ap p.length kp)) := ⟨hkp8.below HS3.out.bel HS3.out.bel.size (fun j hj e => by have := hnw j e; omega), HS3.out.k4.kp hkp8 (fun e => by have := hnw _ e; omega), HS3.out.k7.kp hkp8 (fun e => by have := hnw _ e; omega)⟩
                        have d8 : W8.cell? ⟨w.heap.size + 1, 2, none⟩ = some (.slice ap p.length kp) := HS8.out.k7.cell 2
                        have f8 : W8.frozen? ⟨w.heap.size + 1, 2, none⟩ = false := HS8.out.k7.fr 2
                        have HS9 := Hid.intro' (HS8.out.set 2 (.slice (some ⟨g8, 0, none⟩) (p.length + 1) c8) (ok' := ok) (co' := co) (vp' := .slice (some ⟨g8, 0, none⟩) (p.length + 1) c8) rfl)
                        have HQ9 := Hid.intro' (hq8.keep (W' := W8.setCell ⟨w.heap.size + 1, 2, none⟩ (.slice (some ⟨g8, 0, none⟩) (p.length + 1) c8)) (by simp [World.setCell]) fun j hj _ => Below.heap_setCell W8 ⟨w.heap.size + 1, 2, none⟩ _ j (fun e => by have e : j = w.heap.size + 1 := e; omega))
                        have HRN := Hid.intro' (rdk_next HRK.out HY.out hyl)
                        rw [HL.out] at HRN
                        clear ho8 hg8 hat8 hlt8 hq8 hkp8 hnw HS8 HS3 HOP HCX HUS HUL HRI HSA HPL d2
                        go_wp2
                        go_roundw
                        case rel => exact ⟨k + 1, a + i + 1, p ++ [L], _, by omega, by go_num, by go_num, HRN, HS9, HQ9⟩
                        case measure => simp [intOf]; omega
                · have haz : (b.length : Int) ≤ (a : Int) := by omega
                  have HNO := Hid.intro' (rdc_lists (n := n) (b := b) (by
                    have := rdk_none (rdk_out HRK.out (by omega)) (n - (k + 1))
                    rwa [show k + 1 + (n - (k + 1)) = n by omega] at this))
                  have HK4 := Hid.intro' HS.out.k4
                  have HK7 := Hid.intro' HS.out.k7
                  go_wp2_with (first | (refine wpList_loadDc rfl _ rfl (w.heap.size + 1) rfl HK7.out ?_) | (refine wpList_storeDc rfl _ _ rfl w.heap.size rfl rfl HK4.out ?_))
                  intro W4 hk4 hg4
                  have HB4 := Hid.intro' (hk4.below HS.out.bel HS.out.bel.size (fun i hi e => by omega))
                  have HG4 := Hid.intro' hg4
                  clear hk4 hg4 HK4 HK7 HS
                  go_wp2
                  exact bodyPost_ret (retK3 Try.results31 rfl rfl rfl HG4.out) rfl ⟨HB4.out, .inl ⟨HNO.out, _, _, _, _, _, _, rfl⟩⟩
              · have hkz : ¬ (k : Int) < (n : Int) := by omega
                obtain ⟨ap, kp, rfl⟩ := HQ.out.form
                have hkn' : k = n := by omega
                have HRN := HRK
                rw [hkn'] at HRN
                clear hkn'
                have HK4 := Hid.intro' HS.out.k4
                have HK7 := Hid.intro' HS.out.k7
                have c7 : wr.cell? ⟨w.heap.size + 1, 0, none⟩ = some (.bool ok) := HS.out.k7.cell 0
                cases ok with
                | true =>
                  go_wp2_with (first | (refine wpList_loadDc rfl _ rfl (w.heap.size + 1) rfl HK7.out ?_) | (refine wpList_storeDc rfl _ _ rfl w.heap.size rfl rfl HK4.out ?_))
                  intro W4 hk4 hg4
                  have HB4 := Hid.intro' (hk4.below HS.out.bel HS.out.bel.size (fun i hi e => by omega))
                  have HG4 := Hid.intro' hg4
                  have HQ4 := Hid.intro' ((HQ.out.keep hk4.size fun g hg hlt => hk4.block g hlt (fun e => by omega)).rl.mono (D' := fun g => w.heap.size ≤ g) fun g hg _ _ => by omega)
                  clear hk4 hg4 HK4 HK7 HS HQ c7
                  go_wp2
                  have hx1 := of_decide_eq_true HOK.out
                  refine bodyPost_ret (retK3 Try.results31 rfl rfl rfl HG4.out) rfl ⟨HB4.out, .inr ⟨⟨true, co, p⟩, a, _, ?_, rfl, HQ4.out⟩⟩
                  unfold rdc
                  rw [if_neg HYES.out, HRN.out, HB0.out, HCO.out, hx1]
                  rfl
                | false =>
                  by_cases hab : a = b.length
                  · have haz : (a : Int) = (b.length : Int) := by omega
                    have HAB := Hid.intro' hab
                    clear hab
                    go_wp2_with (first | (refine wpList_loadDc rfl _ rfl (w.heap.size + 1) rfl HK7.out ?_) | (refine wpList_storeDc rfl _ _ rfl w.heap.size rfl rfl HK4.out ?_))
                    intro W4 hk4 hg4
                    have HB4 := Hid.intro' (hk4.below HS.out.bel HS.out.bel.size (fun i hi e => by omega))
                    have HG4 := Hid.intro' hg4
                    have HQ4 := Hid.intro' ((HQ.out.keep hk4.size fun g hg hlt => hk4.block g hlt (fun e => by omega)).rl.mono (D' := fun g => w.heap.size ≤ g) fun g hg _ _ => by omega)
                    clear hk4 hg4 HK4 HK7 HS HQ c7
                    go_wp2
                    have hx1 := of_decide_eq_false HOK.out
                    refine bodyPost_ret (retK3 Try.results31 rfl rfl rfl HG4.out) rfl ⟨HB4.out, .inr ⟨⟨false, co, p⟩, b.length, _, ?_, rfl, HQ4.out⟩⟩
                    unfold rdc
                    rw [if_neg HYES.out, HRN.out, HB0.out, HCO.out]
                    show (if x0 = 1 ∨ a = b.length then _ else _) = _
                    rw [if_pos (.inr HAB.out), decide_eq_false hx1, HAB.out]
                  · have haz : ¬ (a : Int) = (b.length : Int) := by omega
                    have haq : ((a : Int) == (b.length : Int)) = false := by simpa using haz
                    have haw : decide ((a : Int) = (b.length : Int)) = false := decide_eq_false haz
                    have HAB := Hid.intro' hab
                    clear hab
                    go_wp2_with (first | (refine wpList_loadDc rfl _ rfl (w.heap.size + 1) rfl HK7.out ?_) | (refine wpList_storeDc rfl _ _ rfl w.heap.size rfl rfl HK4.out ?_))
                    intro W4 hk4 hg4
                    have HB4 := Hid.intro' (hk4.below HS.out.bel HS.out.bel.size (fun i hi e => by omega))
                    have HG4 := Hid.intro' hg4
                    clear hk4 hg4 HK4 HK7 HS HQ c7
                    go_wp2
                    have hx1 := of_decide_eq_false HOK.out
                    refine bodyPost_ret (retK3 Try.results31 rfl rfl rfl HG4.out) rfl ⟨HB4.out, .inl ⟨?_, _, _, _, _, _, _, rfl⟩⟩
                    unfold rdc
                    rw [if_neg HYES.out, HRN.out, HB0.out, HCO.out]
                    show (if x0 = 1 ∨ a = b.length then _ else _) = _
                    rw [if_neg (fun h => h.elim hx1 HAB.out)]
end Go.Proofs.Ytagmidolcdefiah
