/- Serve. -/
import Derived.Test.YtiihnjfknohhbadCallG
namespace Go.Proofs.Ytiihnjfknohhbad
open Go.RowKit

theorem RW.slice {W : World} {B : Nat} {v : Value} {L : List Cl} (h : RW W B v L) : ∃ a n c, v = .slice a n c := by
  rcases h.form with ⟨h1, _⟩ | ⟨g, cap, h1, _⟩
  · exact ⟨_, _, _, h1⟩
  · exact ⟨_, _, _, h1⟩
theorem serves_pr (car floor : Int) (u d : Bool) : PrA 29 #[.agg #[.int .i64 car, .int .i64 floor, .bool u, .bool d]] #[] (KM.srv car floor u d) := fun W x => serves_any car floor u d x W
theorem serves_eg : ∀ args w, (callFunc 29 args).run Try.prog w = .ok (.enter 29 args) w := enters_of Try.func29 (by kernel_rfl) rfl
theorem RW.set {W : World} {B b i : Nat} {v : Value} {L : List Cl} (h : RW W B v L) (hne : v.ownBlock ≠ some b) (u : Value) : RW (W.setCell ⟨b, i, none⟩ u) B v L :=
  h.keep fun g hg => Below.heap_setCell W ⟨b, i, none⟩ u g (fun e => hne (by rw [hg, e]))

/-- append of one call to a row that the call owns -/
theorem wpList_appendK {ops : Array Oper} {rest : List Oper} {o : Oper} {a : Act} {W : World} {Q : Exit → Act → World → Prop} (hgd : o.guard = none) (s x : Operand)
    (ho : o.op = .call { callee := .builtin .append, args := #[s, x], argTypes := #[30, 30] }) (B : Nat) {v : Value} {M : List Cl} {y : Cl} {b c : Nat} (hs : a.eval s = v) (hR : RW W B v M) (hM : M.length ≤ 1000)
    (hx : a.eval x = .slice (some ⟨b, 0, none⟩) 1 c) (hy : CB W b y) (hB : B ≤ W.heap.size)
    (h : ∀ g cap W', RW W' B (.slice (some ⟨g, 0, none⟩) (M.length + 1) cap) (M ++ [y]) → W.grownBy W' v.ownBlock → (v.ownBlock = some g ∨ g = W.heap.size) → wpList Try.prog ops Q rest (a.put o.dst (.slice (some ⟨g, 0, none⟩) (M.length + 1) cap)) W') :
    wpList Try.prog ops Q (o :: rest) a W := by
  obtain ⟨i0, hi, hz0, hz1, hz2⟩ := info_parts infoKz
  refine wpList_append_lies W hgd s x 30 ho B 35 i0 _ 4 32 Try.underlying30 hi hz0 hz1 hz2 rfl (by decide) v M.length (rv M) hs hR ⟨b, 0, none⟩ 1 c (cv y) hx rfl ?_ ?_ (by omega) (by unfold maxLen; omega) (by omega) hB W.heap.size rfl ?_
  · intro j u hj
    rw [Addr.add_mid]
    exact hy.range j u hj
  · intro u hu
    exact rv_one [y] u (by simpa [rv] using hu)
  · intro g cap W' hown hg hat _
    refine h g cap W' ?_ hg hat
    unfold RW
    rw [List.length_append, rv_append]
    simpa [rv] using hown

set_option maxHeartbeats 1000000 in
theorem serve_any (B b : Nat) (F C : Int) (v : Value) (s : Nat) (L : List Cl) (car floor : Int) (u d : Bool) (w : World) (H : BK w B b F C v s L) (hL : L.length ≤ 128) :
    Calls Try.prog 16 #[.pointer (some ⟨b, 0, none⟩), .int .i64 car, .int .i64 floor, .bool u, .bool d] w fun e w' => ∃ vo v', e = .returned vo ∧ RW w' w.heap.size vo (L.filter (KM.srv car floor u d)) ∧
      BK w' B b F C v' s (L.filter fun c => !KM.srv car floor u d c) ∧ v'.ownBlock = v.ownBlock ∧ Kp (Fp b v) w w' := by
  obtain ⟨i0, hi, hz0, hz1, hz2⟩ := info_parts infoKz
  have c2 := H.pb.c2
  have HB := Hid.intro' H
  obtain ⟨p, hp⟩ : ∃ p, p = KM.srv car floor u d := ⟨_, rfl⟩
  have HS : Hid (∀ x W, Calls Try.prog 29 #[.agg #[.int .i64 car, .int .i64 floor, .bool u, .bool d], .agg #[.int .i64 x.fl, .int .i64 x.ca, .int .i64 x.ag, .bool x.up]] W fun e w' => e = .returned (.bool (p x)) ∧ Below W.heap.size W w') := by rw [hp]; exact fun x W => serves_any car floor u d x W
  have HPA : Hid (PrA 29 #[.agg #[.int .i64 car, .int .i64 floor, .bool u, .bool d]] #[] p) := by rw [hp]; exact serves_pr car floor u d
  rw [← hp]
  clear hp
  rcases H.rw.form with ⟨rfl, rfl⟩ | ⟨g, cap, rfl, hB, hlt, hcap⟩
  · have HBr := Hid.intro' (Below.refl w.heap.size w)
    have HV := Hid.intro' (RW.nil w w.heap.size)
    have L : List Cl := []
    have HN := Hid.intro' (show ([] : List Cl).length = 0 from rfl)
    clear H hL L
    go_enter Try.func16, Try.ntmps16
    go_wp2
    refine wp_loop_rounds 1 ?_
    rw [rounds_succ]
    go_wp2_with fail
    refine (deleteFunc_any 29 #[.agg #[.int .i64 car, .int .i64 floor, .bool u, .bool d]] #[] p serves_eg B _ [] _ (HB.out.rw.below' HBr.out) (by have := HN.out; omega) HPA.out).mono ?_
    rintro e W2 ⟨v2, rfl, hr2, ho2, hk2⟩
    obtain ⟨a2, n2, cap2, rfl⟩ := hr2.slice
    have hpb := (HB.out.pb.below' HBr.out).kp hk2 HB.out.ne
    have e2 := hpb.c2
    have f2 := hpb.fr 2
    have hvs := HV.out.kp hk2 (fun g' h1 h2 => by have a := (HV.out.lt g' h1).1; have b' := (HB.out.rw.lt g' h2).2; omega)
    have HR2 := Hid.intro' hr2
    have HK2 := Hid.intro' hk2
    have HO2 := Hid.intro' ho2
    have HPB := Hid.intro' hpb
    have HVS := Hid.intro' hvs
    clear hr2 hk2 ho2 hpb hvs
    go_wp2
    go_ret
    have hblt := HB.out.pb.lt
    have hne2 : (Value.slice a2 n2 cap2).ownBlock ≠ some b := by rw [HO2.out]; exact HB.out.ne
    refine ⟨_, _, rfl, HVS.out.set (fun h => by have := (HVS.out.lt b h).1; omega) _, ⟨HPB.out.set2 _, HR2.out.set hne2 _, hne2, HB.out.bb, HB.out.sl⟩, HO2.out, ?_⟩
    exact ((Kp.ofBelow (Fp b _) HBr.out).trans HK2.out (fun _ _ h => .inr h)).set b 2 _ (fun _ => .inl rfl)
  · generalize hn : L.length = n at hcap hL c2 HB
    have HN := Hid.intro' hn
    clear H hn
    go_enter Try.func16, Try.ntmps16
    go_wp2
    go_loopw [12, 14, 26] (fun sv _ i wr => ∃ k : Nat, k ≤ n ∧ i = .int .i64 k ∧ Hid (RW wr w.heap.size sv ((L.take k).filter p)) ∧ Hid (Below w.heap.size w wr)) (fun _ _ i _ => n - (intOf i).toNat)
    case atStart => exact ⟨0, Nat.zero_le _, rfl, RW.nil _ _, Below.refl _ _⟩
    case round =>
      obtain ⟨k, hk, rfl, HV, HBr⟩ := hrel
      by_cases hlt2 : k < n
      · have hkz : (k : Int) < (n : Int) := by omega
        have hkL : k < L.length := by have := HN.out; omega
        obtain ⟨y, hy, d0, d1, d2, d3⟩ := (HB.out.rw.below' HBr.out).elem hkL
        have HY := Hid.intro' hy
        clear hkL hy
        go_wp2_with fail
        refine (HS.out y _).mono ?_
        rintro e W2 ⟨rfl, hb2⟩
        have hbx := (CB.new wr y).below' hb2
        have hsz := HBr.out.size
        have HV2 := Hid.intro' ((HV.out.alloc _).below' hb2)
        have HB2 := Hid.intro' (below_class (HBr.out.alloc hsz (.cells #[.int .i64 y.fl, .int .i64 y.ca, .int .i64 y.ag, .bool y.up] 35)) hb2)
        have e0 := hbx.c0
        have e1 := hbx.c1
        have e2 := hbx.c2
        have e3 := hbx.c3
        have hsz2 := HB2.out.size
        have htl : ((L.take k).filter p).length ≤ 128 := Nat.le_trans (List.length_filter_le _ _) (by rw [List.length_take]; omega)
        clear hb2 hbx d0 d1 d2 d3 HV HBr hsz
        cases hq : p y with
        | true =>
          go_wp2_with (at_builtin; refine wpList_appendK rfl _ _ rfl w.heap.size (y := y) rfl (HV2.out.alloc _) (by omega) rfl (CB.new W2 y) (by simp; omega) ?_)
          intro g' cap' W3 hr3 hg3 hat
          have HR3 := Hid.intro' hr3
          have HB3 := Hid.intro' ((HB2.out.alloc hsz2 _).grown hg3 (by simp; omega) (fun k hk => (HV2.out.lt k hk).1))
          clear hr3 hg3 hat
          go_wp2
          go_roundw
          case rel =>
            refine ⟨k + 1, by omega, by go_num, (show Hid _ from ?_), HB3⟩
            rw [take_get HY.out, List.filter_append, List.filter_cons_of_pos hq]
            exact HR3.out
          case measure => simp [intOf]; omega
        | false =>
          go_wp2
          go_roundw
          case rel =>
            refine ⟨k + 1, by omega, by go_num, (show Hid _ from ?_), HB2⟩
            rw [take_get HY.out, List.filter_append, List.filter_cons_of_neg (by simp [hq]), List.filter_nil, List.append_nil]
            exact HV2.out
          case measure => simp [intOf]; omega
      · obtain rfl : k = n := by omega
        have hkz : ¬ (k : Int) < (k : Int) := by omega
        have ht : L.take k = L := List.take_of_length_le (by have := HN.out; omega)
        rw [ht] at HV
        have c2r := (HB.out.pb.below' HBr.out).c2
        clear ht
        go_wp2_with fail
        refine (deleteFunc_any 29 #[.agg #[.int .i64 car, .int .i64 floor, .bool u, .bool d]] #[] p serves_eg B _ L _ (HB.out.rw.below' HBr.out) (by have := HN.out; omega) HPA.out).mono ?_
        rintro e W2 ⟨v2, rfl, hr2, ho2, hk2⟩
        obtain ⟨a2, n2, cap2, rfl⟩ := hr2.slice
        have hpb := (HB.out.pb.below' HBr.out).kp hk2 HB.out.ne
        have e2 := hpb.c2
        have f2 := hpb.fr 2
        have hvs := HV.out.kp hk2 (fun g' h1 h2 => by have a := (HV.out.lt g' h1).1; have b' := (HB.out.rw.lt g' h2).2; omega)
        have HR2 := Hid.intro' hr2
        have HK2 := Hid.intro' hk2
        have HO2 := Hid.intro' ho2
        have HPB := Hid.intro' hpb
        have HVS := Hid.intro' hvs
        clear hr2 hk2 ho2 hpb hvs
        go_wp2
        go_ret
        have hblt := HB.out.pb.lt
        have hne2 : (Value.slice a2 n2 cap2).ownBlock ≠ some b := by rw [HO2.out]; exact HB.out.ne
        refine ⟨_, _, rfl, HVS.out.set (fun h => by have := (HVS.out.lt b h).1; omega) _, ⟨HPB.out.set2 _, HR2.out.set hne2 _, hne2, HB.out.bb, HB.out.sl⟩, HO2.out, ?_⟩
        exact ((Kp.ofBelow (Fp b _) HBr.out).trans HK2.out (fun _ _ h => .inr h)).set b 2 _ (fun _ => .inl rfl)

end Go.Proofs.Ytiihnjfknohhbad
