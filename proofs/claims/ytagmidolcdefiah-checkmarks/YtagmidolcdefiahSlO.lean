/- Find: what a search gives. -/
import Derived.Test.YtagmidolcdefiahPk12
import Derived.Test.YtagmidolcdefiahSlP
import Derived.Test.YtagmidolcdefiahSlZ
import Derived.Test.YtagmidolcdefiahPk18
import Derived.Test.YtagmidolcdefiahRtP
namespace Go.Proofs.Ytagmidolcdefiah
open Go.RowKit Go.Shelf
/-- a block that holds a result -/
def GB (W : World) (b : Nat) (vp : Value) (co : Int) (ok : Bool) (n : Int) (vf : Value) : Prop := W.heap[b]? = some (.cells (rcl vp co ok n vf).toArray 35 (0, 0))
section
variable {W W' : World} {b : Nat} {vp vf : Value} {co n : Int} {ok : Bool}
theorem GB.lt (H : GB W b vp co ok n vf) : b < W.heap.size := (Array.getElem?_eq_some_iff.1 H).1
theorem GB.below' (H : GB W b vp co ok n vf) (hb : Below W.heap.size W W') : GB W' b vp co ok n vf := (hb.block b H.lt).trans H
theorem GB.kp {G : Nat → Prop} (H : GB W b vp co ok n vf) (k : Kp G W W') (hG : ¬ G b) : GB W' b vp co ok n vf := (k.block b H.lt hG).trans H
theorem GB.new (W : World) (vp : Value) (co : Int) (ok : Bool) (n : Int) (vf : Value) : GB (W.alloc (.cells #[vp, .int .i64 co, .bool ok, .int .i64 n, vf] 35)) W.heap.size vp co ok n vf := World.alloc_heap_new W _
theorem GB.cell (H : GB W b vp co ok n vf) (i : Nat) : W.cell? ⟨b, i, none⟩ = (rcl vp co ok n vf)[i]? := blk_cell H i
theorem GB.fr (H : GB W b vp co ok n vf) (i : Nat) : W.frozen? ⟨b, i, none⟩ = false := blk_fr H i
end
theorem infoG : (Try.prog.info? 35).map (·.size) = some 5 := by kernel_rfl
theorem wpList_storeG {ops : Array Oper} {rest : List Oper} {op : Oper} {a : Act} {w : World} {Q : Exit → Act → World → Prop} (hgd : op.guard = none) (x y : Operand) (ho : op.op = .store 35 x y)
    (b : Nat) {vp vf : Value} {co n : Int} {ok : Bool} {a1 a2 : Option Addr} {n1 c1 n2 c2 : Nat} {co' n' : Int} {ok' : Bool} (hx : a.eval x = .pointer (some ⟨b, 0, none⟩)) (hy : a.eval y = .agg #[.slice a1 n1 c1, .int .i64 co', .bool ok', .int .i64 n', .slice a2 n2 c2]) (hL : GB w b vp co ok n vf)
    (hn : ∀ W', Kp (fun k => k = b) w W' → GB W' b (.slice a1 n1 c1) co' ok' n' (.slice a2 n2 c2) → wpList Try.prog ops Q rest (a.put op.dst undef) W') : wpList Try.prog ops Q (op :: rest) a w :=
  wpList_store_row hgd 35 x y ho b _ hx hy _ _ hL infoG rfl (by simp [Value.oneCell']) (hn _ (kp_row b w _) (setRow_heap w b _ _ _ _ hL))
theorem wpList_loadG {ops : Array Oper} {rest : List Oper} {op : Oper} {a : Act} {w : World} {Q : Exit → Act → World → Prop} (hgd : op.guard = none) (x : Operand) (ho : op.op = .load 35 x) (b : Nat) {vp vf : Value} {co n : Int} {ok : Bool} (hx : a.eval x = .pointer (some ⟨b, 0, none⟩)) (H : GB w b vp co ok n vf)
    (hn : wpList Try.prog ops Q rest (a.put op.dst (.agg #[vp, .int .i64 co, .bool ok, .int .i64 n, vf])) w) : wpList Try.prog ops Q (op :: rest) a w :=
  wpList_load_row hgd 35 x ho b hx _ _ _ _ H Try.underlying35 rfl infoG hn
theorem retG2 {fn : Func} {p t : Tmp} (hf : fn.results = #[.cell p 35, .tmp t]) {tmps : Array Value} {w : World} {b : Nat} {vp vf : Value} {co n : Int} {ok : Bool} {u : Value} (hp : tmps.getD p undef = .pointer (some ⟨b, 0, none⟩)) (ht : tmps.getD t undef = u) (H : GB w b vp co ok n vf) :
    (results fn tmps).run Try.prog w = .ok (.tuple #[.agg #[vp, .int .i64 co, .bool ok, .int .i64 n, vf], u]) w := by
  have hp' : tmps[p]?.getD undef = .pointer (some ⟨b, 0, none⟩) := by simpa using hp
  have ht' : tmps[t]?.getD undef = u := by simpa using ht
  have H' : w.heap[b]? = some (.cells #[vp, .int .i64 co, .bool ok, .int .i64 n, vf] 35 (0, 0)) := H
  simp [results, hf, hp', ht', asAddr, run_loadVar_row w b 35 35 _ _ _ H' Try.underlying35 rfl infoG]
theorem OY.less {W : World} {B B' : Nat} {v : Value} {l : List Nat} (h : OY W B v l) (hb : B' ≤ B) : OY W B' v l :=
  ⟨h.1, h.2.imp id fun ⟨g, c, u, h1, h2, h3⟩ => ⟨g, c, u, h1, Nat.le_trans hb h2, h3⟩⟩
theorem OY.low {W : World} {B : Nat} {v : Value} {l : List Nat} (h : OY W B v l) : OY W 0 v l := h.less (Nat.zero_le _)
section
variable {D : Nat → Prop} {w : World} {s : Sn} {vc vw : Value} {B : Int}
set_option maxRecDepth 100000 in
set_option maxHeartbeats 2000000 in
theorem find_arg (hB : B < 1 ∨ 1000000 < B) :
    Calls Try.prog 11 #[.agg (nv s.st vc vw).toArray, .int .i64 B] w fun e w' => e = .returned (.tuple #[.agg #[.slice none 0 0, .int .i64 0, .bool false, .int .i64 0, .slice none 0 0], .int .i64 1]) ∧ Below w.heap.size w w' := by
  have hbx := (Below.refl w.heap.size w).alloc (Nat.le_refl _) (.cells (nv s.st vc vw).toArray 27)
  have hb2 := hbx.alloc (by simp) (.cells #[.slice none 0 0, .int .i64 0, .bool false, .int .i64 0, .slice none 0 0] 35)
  have HG := Hid.intro' (GB.new (w.alloc (.cells (nv s.st vc vw).toArray 27)) (.slice none 0 0) 0 false 0 (.slice none 0 0))
  have HB := Hid.intro' hb2
  have hsz : (w.alloc (.cells (nv s.st vc vw).toArray 27)).heap.size = w.heap.size + 1 := by simp
  rw [hsz] at HG
  clear hbx hb2 hsz
  by_cases h1 : B < 1
  · go_enter Try.func11, Try.ntmps11
    go_wp2_with (refine wpList_storeG rfl _ _ rfl (w.heap.size + 1) rfl rfl HG.out ?_)
    intro W3 hk3 hg3
    have HG3 := Hid.intro' hg3
    have HB3 := Hid.intro' (hk3.below HB.out HB.out.size (fun i hi e => by omega))
    clear hk3 hg3 HG HB
    go_wp2
    refine bodyPost_ret (retG2 Try.results11 rfl rfl HG3.out) rfl ⟨rfl, HB3.out⟩
  · have h2 : 1000000 < B := by omega
    go_enter Try.func11, Try.ntmps11
    go_wp2_with (refine wpList_storeG rfl _ _ rfl (w.heap.size + 1) rfl rfl HG.out ?_)
    intro W3 hk3 hg3
    have HG3 := Hid.intro' hg3
    have HB3 := Hid.intro' (hk3.below HB.out HB.out.size (fun i hi e => by omega))
    clear hk3 hg3 HG HB
    go_wp2
    refine bodyPost_ret (retG2 Try.results11 rfl rfl HG3.out) rfl ⟨rfl, HB3.out⟩
set_option maxRecDepth 100000 in
set_option maxHeartbeats 2000000 in
theorem find_no (hc : R2 D w vc s.cs) (hw : R2 D w vw s.ws) (hr : rgt s = false) (h1 : 1 ≤ B) (h2 : B ≤ 1000000) :
    Calls Try.prog 11 #[.agg (nv s.st vc vw).toArray, .int .i64 B] w fun e w' => e = .returned (.tuple #[.agg #[.slice none 0 0, .int .i64 0, .bool false, .int .i64 0, .slice none 0 0], .int .i64 1]) ∧ Below w.heap.size w w' := by
  have hbx := (Below.refl w.heap.size w).alloc (Nat.le_refl _) (.cells (nv s.st vc vw).toArray 27)
  have hb2 := hbx.alloc (by simp) (.cells #[.slice none 0 0, .int .i64 0, .bool false, .int .i64 0, .slice none 0 0] 35)
  have HG := Hid.intro' (GB.new (w.alloc (.cells (nv s.st vc vw).toArray 27)) (.slice none 0 0) 0 false 0 (.slice none 0 0))
  have hn := (NB.new w s.st vc vw).below' ((Below.refl _ (w.alloc (.cells (nv s.st vc vw).toArray 27))).alloc (Nat.le_refl _) (.cells #[.slice none 0 0, .int .i64 0, .bool false, .int .i64 0, .slice none 0 0] 35))
  have HN := Hid.intro' hn
  have HB := Hid.intro' hb2
  have HF := Hid.intro' (first_no s D vc vw _ (hc.below' hb2) (hw.below' hb2) hr)
  have hsz : (w.alloc (.cells (nv s.st vc vw).toArray 27)).heap.size = w.heap.size + 1 := by simp
  rw [hsz] at HG
  clear hbx hb2 hsz hn hc hw
  have h1z : ¬ (B < 1) := by omega
  have h2z : ¬ (1000000 < B) := by omega
  go_enter Try.func11, Try.ntmps11
  go_wp2_with (refine wpList_load27g rfl _ rfl w.heap.size s.st _ _ rfl HN.out ?_)
  refine HF.out.mono ?_
  rintro e W2 ⟨rfl, hb2⟩
  have HG2 := Hid.intro' (HG.out.below' hb2)
  have HB2 := Hid.intro' (below_class HB.out hb2)
  clear hb2 HG HB HF HN
  go_wp2_with (refine wpList_storeG rfl _ _ rfl (w.heap.size + 1) rfl rfl HG2.out ?_)
  intro W3 hk3 hg3
  have HG3 := Hid.intro' hg3
  have HB3 := Hid.intro' (hk3.below HB2.out HB2.out.size (fun i hi e => by omega))
  clear hk3 hg3 HG2 HB2
  go_wp2
  refine bodyPost_ret (retG2 Try.results11 rfl rfl HG3.out) rfl ⟨rfl, HB3.out⟩
set_option maxRecDepth 100000 in
set_option maxHeartbeats 2000000 in
theorem find_yes {B : Nat} (hc : R2 D w vc s.cs) (hw : R2 D w vw s.ws) (hr : rgt s = true) (h1 : 1 ≤ B) (h2 : B ≤ 1000000) :
    Calls Try.prog 11 #[.agg (nv s.st vc vw).toArray, .int .i64 (B : Int)] w fun e w' => ∃ vp vf, e = .returned (.tuple #[.agg #[vp, .int .i64 (fnd s B).cost, .bool (!(fnd s B).ended), .int .i64 ((fnd s B).marks.length : Int), vf], .int .i64 0]) ∧ RL (fun _ => True) w' vp (fnd s B).plan ∧ OY w' w.heap.size vf (prf (fnd s B)) ∧ Below w.heap.size w w' := by
  have hbx := (Below.refl w.heap.size w).alloc (Nat.le_refl _) (.cells (nv s.st vc vw).toArray 27)
  have hb2 := hbx.alloc (by simp) (.cells #[.slice none 0 0, .int .i64 0, .bool false, .int .i64 0, .slice none 0 0] 35)
  have HG := Hid.intro' (GB.new (w.alloc (.cells (nv s.st vc vw).toArray 27)) (.slice none 0 0) 0 false 0 (.slice none 0 0))
  have hn := (NB.new w s.st vc vw).below' ((Below.refl _ (w.alloc (.cells (nv s.st vc vw).toArray 27))).alloc (Nat.le_refl _) (.cells #[.slice none 0 0, .int .i64 0, .bool false, .int .i64 0, .slice none 0 0] 35))
  have HN := Hid.intro' hn
  have HB := Hid.intro' hb2
  have HF := Hid.intro' (first_yes s D vc vw _ (hc.below' hb2) (hw.below' hb2) hr)
  have HC := Hid.intro' hc
  have HW := Hid.intro' hw
  have hsz : (w.alloc (.cells (nv s.st vc vw).toArray 27)).heap.size = w.heap.size + 1 := by simp
  rw [hsz] at HG
  clear hbx hb2 hsz hn hc hw
  have hbd := fnd_bd (B := B) hr
  obtain ⟨x, HX⟩ : ∃ x, Hid (fnd s B = x) := ⟨_, Hid.intro' rfl⟩
  rw [HX.out] at hbd ⊢
  have HBD := Hid.intro' hbd
  clear hbd
  have h1z : ¬ ((B : Int) < 1) := by omega
  have h2z : ¬ ((1000000 : Int) < (B : Int)) := by omega
  go_enter Try.func11, Try.ntmps11
  go_wp2_with (refine wpList_load27g rfl _ rfl w.heap.size s.st _ _ rfl HN.out ?_)
  refine HF.out.mono ?_
  rintro e W2 ⟨hb2, v1, rfl, hrl⟩
  obtain ⟨a1, k1, rfl, _, _⟩ := hrl.form
  have hfl : (ffp s s.ws.length).length = s.cs.length := (ffp_pw hr _ (Nat.le_refl _)).len
  have HFL := Hid.intro' hfl
  rw [hfl] at hrl ⊢
  have HG2 := Hid.intro' (HG.out.below' hb2)
  have HB2 := Hid.intro' (below_class HB.out hb2)
  have HN2 := Hid.intro' (HN.out.below' hb2)
  have HRL := Hid.intro' hrl
  have hwl : s.ws.length ≤ 128 := (nd0_ok hr).nb.bs.wl
  have hcl : s.cs.length ≤ 8 := by have := (nd0_ok hr).nb.bs.p8; have := (nd0_ok hr).nb.bs.pc; omega
  have HCO := Hid.intro' (cost_yes s (fun _ => True) vc vw (.slice a1 s.cs.length k1) (ffp s s.ws.length) W2 ((HC.out.mono fun _ _ _ _ => trivial).below' HB2.out) ((HW.out.mono fun _ _ _ _ => trivial).below' HB2.out) (hrl.mono fun _ _ _ _ => trivial) (ffp_fsb hr) (by omega) (fun l hl => by have := ffp_max s.ws.length l hl; omega))
  clear hb2 hrl hfl HF HN HG HB
  go_wp2_with (refine wpList_load27g rfl _ rfl w.heap.size s.st _ _ rfl HN2.out ?_)
  refine HCO.out.mono ?_
  rintro e W3 ⟨rfl, hb3⟩
  have HG3 := Hid.intro' (HG2.out.below' hb3)
  have HB3 := Hid.intro' (below_class HB2.out hb3)
  have HN3 := Hid.intro' (HN2.out.below' hb3)
  have HRL3 := Hid.intro' (HRL.out.below' hb3)
  have HG0 : Hid (w.heap.size + 2 ≤ W3.heap.size) := HG3.out.lt
  clear hb3 HG2 HB2 HN2 HRL HCO
  obtain ⟨ct, HCT⟩ : ∃ c, Hid (RM.cst s.st s.ws s.cs (ffp s s.ws.length) = c) := ⟨_, Hid.intro' rfl⟩
  rw [HCT.out]
  have HZ := Hid.intro' (GB.new W3 (.slice none 0 0) 0 false 0 (.slice none 0 0))
  go_wp2_with (refine wpList_storeG rfl _ _ rfl W3.heap.size rfl rfl HZ.out ?_)
  intro W4 hk4 hg4
  have hb4 : Below W3.heap.size W3 W4 := hk4.below ((Below.refl W3.heap.size W3).alloc (Nat.le_refl _) _) (by simp) (fun i hi e => by omega)
  have HG4 := Hid.intro' (HG3.out.below' hb4)
  have HB4 := Hid.intro' (below_class HB3.out hb4)
  have HN4 := Hid.intro' (HN3.out.below' hb4)
  have HRL4 := Hid.intro' ((HRL3.out.mono (D' := fun g => w.heap.size + 2 ≤ g ∧ g < W3.heap.size) fun g h hlt _ => ⟨by simpa using h, hlt⟩).below' hb4)
  have HR4 := Hid.intro' hg4
  clear hb4 hk4 hg4 HG3 HB3 HN3 HRL3 HZ
  have HT := Hid.intro' (newTree_any s (fun g => g < w.heap.size) vc vw W4 ((HC.out.mono (D' := fun g => g < w.heap.size) fun _ _ h _ => h).below' HB4.out) ((HW.out.mono (D' := fun g => g < w.heap.size) fun _ _ h _ => h).below' HB4.out) hr)
  go_wp2_with (refine wpList_load27g rfl _ rfl w.heap.size s.st _ _ rfl HN4.out ?_)
  refine HT.out.mono ?_
  rintro e W5 ⟨hb5, tb, vb, rfl, htb, htr⟩
  have hrb := HR4.out.lt
  have hw3 : w.heap.size + 2 ≤ W3.heap.size := by have := HG0.out; omega
  have hgr := HR4.out.below' hb5
  unfold GB at hgr
  rw [← HCT.out] at hgr
  have hsz5 := hb5.size
  have HV := Hid.intro' (svisit_any (r0 := w.heap.size + 1) (B := B) hgr (by omega) ((HRL4.out.mono (D' := fun g => g ≠ W3.heap.size ∧ g ≠ w.heap.size + 1) fun g h _ _ => by omega).below' hb5) (htr.mono (D' := fun g => g ≠ W3.heap.size ∧ g ≠ w.heap.size + 1) fun g h _ => by omega) h1 h2)
  have HG5 := Hid.intro' (HG4.out.below' hb5)
  have HB5 := Hid.intro' (below_class HB4.out hb5)
  have HR5 : Hid (W3.heap.size < W5.heap.size) := Nat.lt_of_lt_of_le hrb hsz5
  clear hb5 htr hgr HT HG4 HB4 HN4 HRL4 HR4 hsz5 hrb htb
  generalize W3.heap.size = rb at HV HR5 HG0 hw3 ⊢
  go_wp2_with fail
  refine HV.out.mono ?_
  rintro e W6 ⟨⟨v, vp, rfl, hms, hgr, hrl, hkp⟩⟩
  rw [HX.out] at hms hgr hrl
  obtain ⟨av, kv, rfl⟩ := hms.slice
  obtain ⟨ap, kp, rfl, _, _⟩ := hrl.form
  have hg6 : GB W6 rb (.slice ap x.plan.length kp) x.cost (!x.ended) 0 (.slice none 0 0) := hgr
  have HG6 := Hid.intro' (HG5.out.kp hkp (fun e => by omega))
  have HB6 := Hid.intro' (hkp.below HB5.out HB5.out.size (fun i hi e => by omega))
  have z3 : W6.cell? ⟨rb, 3, none⟩ = some (.int .i64 0) := hg6.cell 3
  have y3 := hg6.fr 3
  have hk7 : Kp (fun k => k = rb) W6 (W6.setCell ⟨rb, 3, none⟩ (.int .i64 (x.marks.length : Int))) := (Kp.refl (fun k => k = rb) W6).set rb 3 _ (fun _ => rfl)
  have hg7 : GB (W6.setCell ⟨rb, 3, none⟩ (.int .i64 (x.marks.length : Int))) rb (.slice ap x.plan.length kp) x.cost (!x.ended) (x.marks.length : Int) (.slice none 0 0) := blk_set hg6 3 _
  have hrl7 : RL (fun g => g ≠ rb ∧ g ≠ w.heap.size + 1) (W6.setCell ⟨rb, 3, none⟩ (.int .i64 (x.marks.length : Int))) (.slice ap x.plan.length kp) x.plan := (hrl.keep hk7.size fun g hg hlt => hk7.block g hlt (fun e => hg.1.1 e)).mono fun g hg _ _ => hg.1
  have hms7 : OY (W6.setCell ⟨rb, 3, none⟩ (.int .i64 (x.marks.length : Int))) 0 (.slice av x.marks.length kv) x.marks := (hms.keep fun g hg => hk7.block g (hms.lt g hg).2 (fun e => by have := (hms.lt g hg).1; have := HR5.out; omega)).low
  have HPR := Hid.intro' (prove_any (M := x.marks.length) (w := W6.setCell ⟨rb, 3, none⟩ (.int .i64 (x.marks.length : Int))) ⟨hg7, hrl7.mono fun _ _ _ _ => trivial, hms7⟩ HBD.out.1.1 (by have := HBD.out.1.2; omega) HBD.out.2.1 HBD.out.2.2.1 (by have := HBD.out.2.2.2; omega))
  have HG7 := Hid.intro' (HG6.out.kp hk7 (fun e => by omega))
  have HB7 := Hid.intro' (hk7.below HB6.out HB6.out.size (fun i hi e => by omega))
  have HR7 := Hid.intro' hg7
  have HL7 := Hid.intro' hrl7
  clear hkp hgr hg6 hms hrl hk7 hg7 hrl7 hms7 HV HG5 HB5 HG6 HB6
  go_wp2_with fail
  clear z3 y3
  generalize W6.setCell ⟨rb, 3, none⟩ (.int .i64 (x.marks.length : Int)) = W7 at HPR HG7 HB7 HR7 HL7 ⊢
  refine HPR.out.mono ?_
  rintro e W8 ⟨v8, rfl, ho8, hb8⟩
  obtain ⟨a8, k8, rfl⟩ := ho8.slice
  have hg8 := HR7.out.below' hb8
  have z4 : W8.cell? ⟨rb, 4, none⟩ = some (.slice none 0 0) := hg8.cell 4
  have y4 := hg8.fr 4
  have HS7 : Hid (rb < W7.heap.size) := HR7.out.lt
  have hk9 : Kp (fun k => k = rb) W8 (W8.setCell ⟨rb, 4, none⟩ (.slice a8 (prf x).length k8)) := (Kp.refl (fun k => k = rb) W8).set rb 4 _ (fun _ => rfl)
  have HR9 : Hid (GB (W8.setCell ⟨rb, 4, none⟩ (.slice a8 (prf x).length k8)) rb (.slice ap x.plan.length kp) x.cost (!x.ended) (x.marks.length : Int) (.slice a8 (prf x).length k8)) := blk_set hg8 4 _
  have HG9 := Hid.intro' ((HG7.out.below' hb8).kp hk9 (fun e => by omega))
  have HB9 := Hid.intro' (hk9.below (below_class HB7.out hb8) (below_class HB7.out hb8).size (fun i hi e => by omega))
  have HL9 : Hid (RL (fun g => g ≠ rb ∧ g ≠ w.heap.size + 1) (W8.setCell ⟨rb, 4, none⟩ (.slice a8 (prf x).length k8)) (.slice ap x.plan.length kp) x.plan) := (HL7.out.below' hb8).keep hk9.size fun g hg hlt => hk9.block g hlt (fun e => hg.1 e)
  have HO9 : Hid (OY (W8.setCell ⟨rb, 4, none⟩ (.slice a8 (prf x).length k8)) W7.heap.size (.slice a8 (prf x).length k8) (prf x)) := ho8.keep fun g hg => hk9.block g (ho8.lt g hg).2 (fun e => by have := (ho8.lt g hg).1; have := HS7.out; omega)
  have HW7 : Hid (w.heap.size + 2 ≤ W7.heap.size) := HG7.out.lt
  clear ho8 hb8 hg8 hk9 HPR HR7 HG7 HB7 HL7
  go_wp2_with (first | (refine wpList_loadG rfl _ rfl rb rfl HR9.out ?_) | (refine wpList_storeG rfl _ _ rfl (w.heap.size + 1) rfl rfl HG9.out ?_))
  intro W10 hk10 hg10
  have HB10 := Hid.intro' (hk10.below HB9.out HB9.out.size (fun i hi e => by omega))
  have HG10 := Hid.intro' hg10
  have HL10 : Hid (RL (fun _ => True) W10 (.slice ap x.plan.length kp) x.plan) := (HL9.out.keep hk10.size fun g hg hlt => hk10.block g hlt (fun e => hg.2 e)).mono fun _ _ _ _ => trivial
  have HO10 : Hid (OY W10 w.heap.size (.slice a8 (prf x).length k8) (prf x)) := (HO9.out.keep fun g hg => hk10.block g (HO9.out.lt g hg).2 (fun e => by have := (HO9.out.lt g hg).1; have := HW7.out; omega)).less (by have := HW7.out; omega)
  clear hk10 hg10 HB9 HG9 HL9 HO9 HR9 z4 y4
  go_wp2
  exact bodyPost_ret (retG2 Try.results11 rfl rfl HG10.out) rfl ⟨_, _, rfl, HL10.out, HO10.out, HB10.out⟩
end
end Go.Proofs.Ytagmidolcdefiah
