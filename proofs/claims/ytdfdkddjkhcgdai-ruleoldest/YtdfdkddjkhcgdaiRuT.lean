/- The oldest call, as the program tells it. -/
import Derived.Test.YtdfdkddjkhcgdaiRuQ
namespace Go.Proofs.Ytdfdkddjkhcgdai
open Go.RowKit Go.Shelf

/-- what holds while the oldest is looked for -/
structure Oz (W wr : World) (o : Option (Nat × Ca)) : Prop where
  z : CaB wr W.heap.size ca0
  c : CaB wr (W.heap.size + 1) (ocl o)
  bel : Below W.heap.size W wr
theorem Oz.next {W wr w' : World} {o : Option (Nat × Ca)} (h : Oz W wr o) (hb : Below wr.heap.size wr w') : Oz W w' o := ⟨h.z.below' hb, h.c.below' hb, below_class h.bel hb⟩
set_option maxRecDepth 100000 in
set_option maxHeartbeats 4000000 in
theorem oldest_any (D : Nat → Prop) (v : Value) (L : List Ca) (g : Nat) (lb : Array Value) (p : Ca → Bool) (age : Int) (W : World) (eg : ∀ args w, (callFunc g args).run Try.prog w = .ok (.enter g args) w) (h : RC D W v L) (hl : L.length ≤ 200) (hp : PrC g lb p W) :
    Calls Try.prog 6 #[v, .func (.func g) #[] lb, .int .i64 age] W fun e w' => e = .returned (.tuple #[.agg #[.int .i64 (ocl (oldk (fun y => decide (age ≤ y.ag) && p y) L L.length)).fl, .int .i64 (ocl (oldk (fun y => decide (age ≤ y.ag) && p y) L L.length)).ca, .int .i64 (ocl (oldk (fun y => decide (age ≤ y.ag) && p y) L L.length)).ag, .bool (ocl (oldk (fun y => decide (age ≤ y.ag) && p y) L L.length)).up], .bool (oldk (fun y => decide (age ≤ y.ag) && p y) L L.length).isSome]) ∧ Below W.heap.size W w' := by
  obtain ⟨av, kv, rfl, _⟩ := h.form
  have hb0 := ((Below.refl W.heap.size W).alloc (Nat.le_refl _) (.cells (cav ca0).toArray 25)).alloc (by simp) (.cells (cav ca0).toArray 25)
  have h2 := CaB.new (W.alloc (.cells (cav ca0).toArray 25)) ca0
  rw [World.size_alloc] at h2
  have HO0 : Hid (Oz W ((W.alloc (.cells (cav ca0).toArray 25)).alloc (.cells (cav ca0).toArray 25)) none) := ⟨(CaB.new W ca0).below' ((Below.refl _ _).alloc (Nat.le_refl _) _), h2, hb0⟩
  have HC := Hid.intro' h
  have HP := Hid.intro' hp
  obtain ⟨P, hP⟩ : ∃ P : Ca → Bool, (fun y : Ca => decide (age ≤ y.ag) && p y) = P := ⟨_, rfl⟩
  rw [hP]
  have HPP : Hid (∀ y, P y = (decide (age ≤ y.ag) && p y)) := fun y => by rw [← hP]
  obtain ⟨r, HR⟩ : ∃ r, Hid (oldk P L L.length = r) := ⟨_, Hid.intro' rfl⟩
  rw [HR.out]
  clear h hp hb0 h2 hP
  change Hid (Oz W ((W.alloc (.cells #[.int .i64 0, .int .i64 0, .int .i64 0, .bool false] 25)).alloc (.cells #[.int .i64 0, .int .i64 0, .int .i64 0, .bool false] 25)) none) at HO0
  have hnil : ∀ W, (binOp .eql 28 (.func (.func g) #[] lb) .nilFunc).run Try.prog W = .ok (.bool false) W := fun W => by rfl
  go_enter Try.func6, Try.ntmps6
  go_wp2_with fail
  generalize (W.alloc (.cells #[.int .i64 0, .int .i64 0, .int .i64 0, .bool false] 25)).alloc (.cells #[.int .i64 0, .int .i64 0, .int .i64 0, .bool false] 25) = W1 at HO0 ⊢
  go_loopw [9, 18] (fun fv iv wr => ∃ (i : Nat) (o : Option (Nat × Ca)), i ≤ L.length ∧ fv = .bool o.isSome ∧ iv = .int .i64 (i : Int) ∧ Hid (oldk P L i = o) ∧ Hid (Oz W wr o)) (fun _ iv _ => L.length - (intOf iv).toNat)
  case atStart => exact ⟨0, none, Nat.zero_le _, rfl, rfl, rfl, HO0⟩
  case round =>
    clear HO0
    obtain ⟨i, o, hi, rfl, rfl, HK, HO⟩ := hrel
    by_cases hlt : i < L.length
    · have hiz : (i : Int) < (L.length : Int) := by omega
      obtain ⟨y, hy⟩ : ∃ y, L[i]? = some y := ⟨_, List.getElem?_eq_getElem hlt⟩
      obtain ⟨ga, oa, ha, hga, c0, c1, c2, c3⟩ := (HC.out.below' HO.out.bel).at hy
      subst ha
      have HY := Hid.intro' hy
      have hbv := (Below.refl wr.heap.size wr).alloc (Nat.le_refl _) (.cells #[.int .i64 y.fl, .int .i64 y.ca, .int .i64 y.ag, .bool y.up] 25)
      have HO1 := Hid.intro' (HO.out.next hbv)
      have HCY : Hid (CaB (wr.alloc (.cells #[.int .i64 y.fl, .int .i64 y.ca, .int .i64 y.ag, .bool y.up] 25)) wr.heap.size y) := CaB.new wr y
      have HW1 := Hid.intro' (HP.out _ y HO1.out.bel)
      have HPY := Hid.intro' (HPP.out y)
      clear hy hga hbv HO
      generalize hq : p y = q at HW1 HPY
      clear hq
      have g0 : (wr.alloc (.cells #[.int .i64 y.fl, .int .i64 y.ca, .int .i64 y.ag, .bool y.up] 25)).cell? ⟨wr.heap.size, 0, none⟩ = some (.int .i64 y.fl) := HCY.out.cell 0
      have g1 : (wr.alloc (.cells #[.int .i64 y.fl, .int .i64 y.ca, .int .i64 y.ag, .bool y.up] 25)).cell? ⟨wr.heap.size, 1, none⟩ = some (.int .i64 y.ca) := HCY.out.cell 1
      have g2 : (wr.alloc (.cells #[.int .i64 y.fl, .int .i64 y.ca, .int .i64 y.ag, .bool y.up] 25)).cell? ⟨wr.heap.size, 2, none⟩ = some (.int .i64 y.ag) := HCY.out.cell 2
      have g3 : (wr.alloc (.cells #[.int .i64 y.fl, .int .i64 y.ca, .int .i64 y.ag, .bool y.up] 25)).cell? ⟨wr.heap.size, 3, none⟩ = some (.bool y.up) := HCY.out.cell 3
      go_wp2_with (go_at_fn g; refine HW1.out.mono ?_)
      rintro e V2 ⟨rfl, hb2⟩
      have HO3 := Hid.intro' (HO1.out.next hb2)
      have HCY2 := Hid.intro' (HCY.out.below' hb2)
      have HC3 := Hid.intro' HO3.out.c
      clear hb2 HW1 HO1 HCY c0 c1 c2 c3 g0 g1 g2 g3
      generalize wr.heap.size = yb at HCY2 ⊢
      have f0 : V2.cell? ⟨yb, 0, none⟩ = some (.int .i64 y.fl) := HCY2.out.cell 0
      have f1 : V2.cell? ⟨yb, 1, none⟩ = some (.int .i64 y.ca) := HCY2.out.cell 1
      have f2 : V2.cell? ⟨yb, 2, none⟩ = some (.int .i64 y.ag) := HCY2.out.cell 2
      have f3 : V2.cell? ⟨yb, 3, none⟩ = some (.bool y.up) := HCY2.out.cell 3
      have e2 : V2.cell? ⟨W.heap.size + 1, 2, none⟩ = some (.int .i64 (ocl o).ag) := HO3.out.c.cell 2
      cases q with
      | false =>
        have HK2 : Hid (oldk P L (i + 1) = o) := by
          show _ = _
          rw [oldk_not HY.out (by rw [HPY.out, Bool.and_false]), HK.out]
        clear HK HPY HC3 HCY2 f0 f1 f3
        go_wp2
        go_roundw
        case rel => exact ⟨i + 1, o, by omega, rfl, by go_num, HK2, HO3⟩
        case measure => simp [intOf]; omega
      | true =>
        by_cases q1 : age ≤ y.ag
        · have HAG : Hid (P y = true) := by show _ = _; rw [HPY.out, decide_eq_true q1]; rfl
          have d1 : decide (age ≤ y.ag) = true := decide_eq_true q1
          clear HPY
          cases o with
          | none =>
            have HK2 : Hid (oldk P L (i + 1) = some (i, y)) := oldk_first HY.out HAG.out HK.out
            clear HK HAG
            go_wp2_with (refine wpList_storeCa rfl _ _ rfl (W.heap.size + 1) y rfl rfl HC3.out ?_)
            intro V3 hk3 hc3
            have HO2 : Hid (Oz W V3 (some (i, y))) := ⟨HO3.out.z.kp hk3 (by omega), hc3, hk3.below HO3.out.bel HO3.out.bel.size (fun k hk e => by omega)⟩
            clear hk3 hc3 HO3 HC3 HCY2 f0 f1 f2 f3 e2
            go_wp2
            go_roundw
            case rel => exact ⟨i + 1, some (i, y), by omega, rfl, by go_num, HK2, HO2⟩
            case measure => simp [intOf]; omega
          | some x =>
            have e3 : V2.cell? ⟨W.heap.size + 1, 2, none⟩ = some (.int .i64 x.2.ag) := e2
            clear e2
            by_cases q2 : x.2.ag < y.ag
            · have HK2 : Hid (oldk P L (i + 1) = some (i, y)) := oldk_more HY.out HAG.out HK.out q2
              have d2 : decide (x.2.ag < y.ag) = true := decide_eq_true q2
              clear HK HAG
              go_wp2_with (refine wpList_storeCa rfl _ _ rfl (W.heap.size + 1) y rfl rfl HC3.out ?_)
              intro V3 hk3 hc3
              have HO2 : Hid (Oz W V3 (some (i, y))) := ⟨HO3.out.z.kp hk3 (by omega), hc3, hk3.below HO3.out.bel HO3.out.bel.size (fun k hk e => by omega)⟩
              clear hk3 hc3 HO3 HC3 HCY2 f0 f1 f2 f3 e3
              go_wp2
              go_roundw
              case rel => exact ⟨i + 1, some (i, y), by omega, rfl, by go_num, HK2, HO2⟩
              case measure => simp [intOf]; omega
            · have HK2 : Hid (oldk P L (i + 1) = some x) := by
                show _ = _
                rw [oldk_less HY.out HK.out q2, HK.out]
              have d2 : decide (x.2.ag < y.ag) = false := decide_eq_false q2
              clear HK HAG HC3 HCY2
              go_wp2
              go_roundw
              case rel => exact ⟨i + 1, some x, by omega, rfl, by go_num, HK2, HO3⟩
              case measure => simp [intOf]; omega
        · have d1 : decide (age ≤ y.ag) = false := decide_eq_false q1
          have HK2 : Hid (oldk P L (i + 1) = o) := by
            show _ = _
            rw [oldk_not HY.out (by rw [HPY.out, d1]; rfl), HK.out]
          clear HK HPY HC3 HCY2
          go_wp2
          go_roundw
          case rel => exact ⟨i + 1, o, by omega, rfl, by go_num, HK2, HO3⟩
          case measure => simp [intOf]; omega
    · have hiz : ¬ (i : Int) < (L.length : Int) := by omega
      have hie : oldk P L L.length = o := by rw [← HK.out, show i = L.length by omega]
      have hor : o = r := by rw [← hie, HR.out]
      subst hor
      have HZ := Hid.intro' HO.out.z
      have f0 : wr.cell? ⟨W.heap.size + 1, 0, none⟩ = some (.int .i64 (ocl o).fl) := HO.out.c.cell 0
      have f1 : wr.cell? ⟨W.heap.size + 1, 1, none⟩ = some (.int .i64 (ocl o).ca) := HO.out.c.cell 1
      have f2 : wr.cell? ⟨W.heap.size + 1, 2, none⟩ = some (.int .i64 (ocl o).ag) := HO.out.c.cell 2
      have f3 : wr.cell? ⟨W.heap.size + 1, 3, none⟩ = some (.bool (ocl o).up) := HO.out.c.cell 3
      clear hie
      go_wp2_with (refine wpList_storeCa rfl _ _ rfl W.heap.size (ocl o) rfl rfl HZ.out ?_)
      intro W9 hk9 hc9
      have HK9 := Hid.intro' (And.intro hk9 hc9)
      clear hk9 hc9 f0 f1 f2 f3
      go_wp2
      exact bodyPost_ret (retCa2 Try.results6 rfl rfl HK9.out.2) rfl ⟨rfl, HK9.out.1.below HO.out.bel HO.out.bel.size (fun k hk e => by omega)⟩

end Go.Proofs.Ytdfdkddjkhcgdai
