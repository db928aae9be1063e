/- Which snapshots are right, as the program tells it. -/
import Derived.Test.YtdfdkddjkhcgdaiPlS
import Derived.Laws.EntriesVeiled
namespace Go.Proofs.Ytdfdkddjkhcgdai
open Go.RowKit

/-- what a predicate on pairs does: it answers, and memory only grows -/
def Pr (g : Nat) (lb : Array Value) (p : Int × Int → Bool) (w : World) : Prop :=
  ∀ (W : World) (x : Int × Int), Below w.heap.size w W → Calls Try.prog g (#[.agg #[.int .i64 x.1, .int .i64 x.2]] ++ lb) W fun e w' => e = .returned (.bool (p x)) ∧ Below W.heap.size W w'
theorem all_take {α : Type} {p : α → Bool} {l : List α} {k : Nat} {x : α} (hk : l[k]? = some x) : (l.take (k + 1)).all p = ((l.take k).all p && p x) := by
  rw [List.take_add_one, hk, List.all_append]; simp
theorem all_not {α : Type} {p : α → Bool} {l : List α} {k : Nat} {x : α} (hk : l[k]? = some x) (hx : p x = false) : l.all p = false := by
  cases h : l.all p
  · rfl
  · rw [List.all_eq_true.1 h x (List.mem_of_getElem? hk)] at hx; cases hx


set_option maxHeartbeats 1000000 in
theorem everyR (g : Nat) (lb : Array Value) (p : Int × Int → Bool) (eg : ∀ args w, (callFunc g args).run Try.prog w = .ok (.enter g args) w) (D : Nat → Prop) (v : Value) (L : List (Int × Int)) (w : World) (hR : R2 D w v L) (hL : L.length ≤ 200) (hp : Pr g lb p w) :
    Calls Try.prog 23 #[v, .func (.func g) #[] lb] w fun e w' => e = .returned (.bool (L.all p)) ∧ Below w.heap.size w w' := by
  obtain ⟨a, cap, rfl, hcap, _⟩ := hR.form
  generalize hn : L.length = n at hcap hL
  have HN : Hid (L.length = n) := hn
  have HR : Hid (R2 D w (.slice a L.length cap) L) := hR
  have HP : Hid (Pr g lb p w) := hp
  clear hn hR hp
  go_enter Try.func23, Try.ntmps23
  go_wp2
  go_loopw [6, 9] (fun _ i wr => ∃ k : Nat, k ≤ n ∧ i = .int .i64 k ∧ Below w.heap.size w wr ∧ Hid ((L.take k).all p = true)) (fun _ i _ => n - (intOf i).toNat)
  case atStart => exact ⟨0, Nat.zero_le _, rfl, Below.refl _ _, rfl⟩
  case round =>
    obtain ⟨k, hk, rfl, hbel, HNO⟩ := hrel
    by_cases hlt2 : k < n
    · have hkz : (k : Int) < (n : Int) := by omega
      obtain ⟨y, hy⟩ : ∃ y, L[k]? = some y := ⟨_, List.getElem?_eq_getElem (by have := HN.out; omega)⟩
      obtain ⟨gb, o, rfl, c0, c1⟩ := (HR.out.below' hbel).at hy
      have HBEL := Hid.intro' hbel
      have HY := Hid.intro' hy
      have hb1 : Below wr.heap.size wr (wr.alloc (.cells #[.int .i64 y.1, .int .i64 y.2] 48)) := (Below.refl _ _).alloc (Nat.le_refl _) _
      have hc := HP.out _ y (below_class hbel hb1)
      have HB1 := Hid.intro' (below_class hbel hb1)
      clear hbel hy hb1
      cases hq : p y with
      | true =>
        rw [hq] at hc
        go_wp2_with (go_at_fn g; refine hc.mono ?_; rintro e w' ⟨rfl, hb'⟩)
        go_roundw
        case rel => exact ⟨k + 1, by omega, by go_num, below_class HB1.out hb', by rw [all_take HY.out, HNO.out, hq]; rfl⟩
        case measure => simp [intOf]; omega
      | false =>
        rw [hq] at hc
        go_wp2_with (go_at_fn g; refine hc.mono ?_; rintro e w' ⟨rfl, hb'⟩)
        go_ret
        exact ⟨ret_bool (all_not HY.out hq).symm, below_class HB1.out hb'⟩
    · have HKN : Hid (k = n) := by show k = n; omega
      have hkz : ¬ (k : Int) < (n : Int) := by omega
      go_wp2
      go_ret
      refine ⟨ret_bool ?_, hbel⟩
      have h1 := HNO.out
      rw [HKN.out, ← HN.out, List.take_length] at h1
      exact h1.symm

set_option maxHeartbeats 1000000 in
theorem everyW (g : Nat) (lb : Array Value) (p : Int × Int → Bool) (eg : ∀ args w, (callFunc g args).run Try.prog w = .ok (.enter g args) w) (D : Nat → Prop) (v : Value) (L : List (Int × Int)) (w : World) (hR : R2 D w v L) (hL : L.length ≤ 200) (hp : Pr g lb p w) :
    Calls Try.prog 25 #[v, .func (.func g) #[] lb] w fun e w' => e = .returned (.bool (L.all p)) ∧ Below w.heap.size w w' := by
  obtain ⟨a, cap, rfl, hcap, _⟩ := hR.form
  generalize hn : L.length = n at hcap hL
  have HN : Hid (L.length = n) := hn
  have HR : Hid (R2 D w (.slice a L.length cap) L) := hR
  have HP : Hid (Pr g lb p w) := hp
  clear hn hR hp
  go_enter Try.func25, Try.ntmps25
  go_wp2
  go_loopw [6, 9] (fun _ i wr => ∃ k : Nat, k ≤ n ∧ i = .int .i64 k ∧ Below w.heap.size w wr ∧ Hid ((L.take k).all p = true)) (fun _ i _ => n - (intOf i).toNat)
  case atStart => exact ⟨0, Nat.zero_le _, rfl, Below.refl _ _, rfl⟩
  case round =>
    obtain ⟨k, hk, rfl, hbel, HNO⟩ := hrel
    by_cases hlt2 : k < n
    · have hkz : (k : Int) < (n : Int) := by omega
      obtain ⟨y, hy⟩ : ∃ y, L[k]? = some y := ⟨_, List.getElem?_eq_getElem (by have := HN.out; omega)⟩
      obtain ⟨gb, o, rfl, c0, c1⟩ := (HR.out.below' hbel).at hy
      have HBEL := Hid.intro' hbel
      have HY := Hid.intro' hy
      have hb1 : Below wr.heap.size wr (wr.alloc (.cells #[.int .i64 y.1, .int .i64 y.2] 46)) := (Below.refl _ _).alloc (Nat.le_refl _) _
      have hc := HP.out _ y (below_class hbel hb1)
      have HB1 := Hid.intro' (below_class hbel hb1)
      clear hbel hy hb1
      cases hq : p y with
      | true =>
        rw [hq] at hc
        go_wp2_with (go_at_fn g; refine hc.mono ?_; rintro e w' ⟨rfl, hb'⟩)
        go_roundw
        case rel => exact ⟨k + 1, by omega, by go_num, below_class HB1.out hb', by rw [all_take HY.out, HNO.out, hq]; rfl⟩
        case measure => simp [intOf]; omega
      | false =>
        rw [hq] at hc
        go_wp2_with (go_at_fn g; refine hc.mono ?_; rintro e w' ⟨rfl, hb'⟩)
        go_ret
        exact ⟨ret_bool (all_not HY.out hq).symm, below_class HB1.out hb'⟩
    · have HKN : Hid (k = n) := by show k = n; omega
      have hkz : ¬ (k : Int) < (n : Int) := by omega
      go_wp2
      go_ret
      refine ⟨ret_bool ?_, hbel⟩
      have h1 := HNO.out
      rw [HKN.out, ← HN.out, List.take_length] at h1
      exact h1.symm

/-- what holds from the time on when Right has its box and hasFloor -/
structure Rx (w W : World) (b bx : Nat) (s : Sn) (vc vw : Value) : Prop where
  nb : NB W b s.st vc vw
  hf : W.cell? ⟨bx, 0, none⟩ = some (.func (.func 22) #[] #[.pointer (some ⟨b, 0, none⟩)])
  lt : bx < W.heap.size
  bel : Below w.heap.size w W
theorem Rx.next {w W W' : World} {b bx : Nat} {s : Sn} {vc vw : Value} (h : Rx w W b bx s vc vw) (hb : Below W.heap.size W W') : Rx w W' b bx s vc vw :=
  ⟨h.nb.below' hb, (hb.cell (p := ⟨bx, 0, none⟩) h.lt).trans h.hf, Nat.lt_of_lt_of_le h.lt hb.size, below_class h.bel hb⟩
theorem ca_nat {s : St} (r : SM.Rt s) : ∃ n : Nat, n ≤ 8 ∧ 1 ≤ n ∧ s.ca = (n : Int) := ⟨s.ca.toNat, by have := r.ca2; omega, by have := r.ca1; omega, by have := r.ca1; omega⟩

set_option maxHeartbeats 2000000 in
theorem snapRight_any (s : Sn) (D : Nat → Prop) (vc vw : Value) (w : World) (hc : R2 D w vc s.cs) (hw : R2 D w vw s.ws) :
    Calls Try.prog 15 #[.agg (nv s.st vc vw).toArray] w fun e w' => e = .returned (.bool (rgt s)) ∧ Below w.heap.size w w' := by
  have hmf : ∀ (fn : Fn) (first cap : Array Value) (w : World), (Instr.makeFunc fn first cap).run Try.prog w = .ok (.func fn first cap) w := fun _ _ _ _ => rfl
  have HC := Hid.intro' hc
  have HW := Hid.intro' hw
  obtain ⟨ac, kc, rfl, _, _⟩ := hc.form
  obtain ⟨aw, kw, rfl, _, _⟩ := hw.form
  clear hc hw
  have HN := Hid.intro' (NB.new w s.st (.slice ac s.cs.length kc) (.slice aw s.ws.length kw))
  have HB := Hid.intro' ((Below.refl w.heap.size w).alloc (Nat.le_refl _) (.cells (nv s.st (.slice ac s.cs.length kc) (.slice aw s.ws.length kw)).toArray 36))
  go_enter Try.func15, Try.ntmps15
  go_wp2_with (refine wpList_load23n rfl _ rfl w.heap.size s.st _ _ rfl HN.out ?_)
  refine (right_any s.st _).mono ?_
  rintro e W1 ⟨rfl, hb1⟩
  have HN1 := Hid.intro' (HN.out.below' hb1)
  have HB1 := Hid.intro' (below_class HB.out hb1)
  clear hb1
  cases hr : rightB s.st with
  | false =>
    go_wp2
    go_ret
    exact ⟨ret_bool (by unfold rgt; rw [hr]; rfl), HB1.out⟩
  | true =>
    have c1 : W1.cell? ⟨w.heap.size, 1, none⟩ = some (.int .i64 s.st.ca) := HN1.out.cell 1
    have c13 : W1.cell? ⟨w.heap.size, 13, none⟩ = some (.slice ac s.cs.length kc) := HN1.out.cell 13
    have c14 : W1.cell? ⟨w.heap.size, 14, none⟩ = some (.slice aw s.ws.length kw) := HN1.out.cell 14
    by_cases h1 : (s.cs.length : Int) = s.st.ca
    · by_cases h2 : s.ws.length ≤ 128
      · have hb1 : ((s.cs.length : Int) != s.st.ca) = false := by simp [h1]
        have hb2 : decide ((128 : Int) < (s.ws.length : Int)) = false := decide_eq_false (by omega)
        have H1 := Hid.intro' h1
        have HR := Hid.intro' hr
        clear h1 hr
        have HX : Hid (Rx w (W1.alloc (.cells #[.func (.func 22) #[] #[.pointer (some ⟨w.heap.size, 0, none⟩)]] 54)) w.heap.size W1.heap.size s (.slice ac s.cs.length kc) (.slice aw s.ws.length kw)) := by
          have hb := (Below.refl W1.heap.size W1).alloc (Nat.le_refl _) (.cells #[.func (.func 22) #[] #[.pointer (some ⟨w.heap.size, 0, none⟩)]] 54)
          exact ⟨HN1.out.below' hb, by rw [cell_of_row _ _ 0 _ _ _ (heap_alloc_new W1 _)]; rfl, by simp, below_class HB1.out hb⟩
        have d13 : (W1.alloc (.cells #[.func (.func 22) #[] #[.pointer (some ⟨w.heap.size, 0, none⟩)]] 54)).cell? ⟨w.heap.size, 13, none⟩ = some (.slice ac s.cs.length kc) := HX.out.nb.cell 13
        go_wp2_with fail
        have eg2 : ∀ args w, (callFunc 24 args).run Try.prog w = .ok (.enter 24 args) w := by intro args w; simp [go_sem]
        have eg3 : ∀ args w, (callFunc 26 args).run Try.prog w = .ok (.enter 26 args) w := by intro args w; simp [go_sem]
        obtain ⟨n, hn8, _, hca⟩ := ca_nat ((rightB_iff _).1 HR.out)
        have HCA := Hid.intro' hca
        clear d13 c1 c13 c14 hca
        generalize (W1.alloc (.cells #[.func (.func 22) #[] #[.pointer (some ⟨w.heap.size, 0, none⟩)]] 54)) = W2 at HX ⊢
        refine (everyR 24 #[.pointer (some ⟨W1.heap.size, 0, none⟩)] (cok s.st.fl) eg2 D _ s.cs W2 (HC.out.below' HX.out.bel) (by have := H1.out; have := HCA.out; omega) (fun W x hb => carOk_any w.heap.size W1.heap.size x s.st _ _ W (HX.out.next hb).nb (HX.out.next hb).hf (HX.out.next hb).lt)).mono ?_
        rintro e W3 ⟨rfl, hb3⟩
        have HX3 := Hid.intro' (HX.out.next hb3)
        have d14 : W3.cell? ⟨w.heap.size, 14, none⟩ = some (.slice aw s.ws.length kw) := HX3.out.nb.cell 14
        clear hb3 HX
        cases hq : s.cs.all (cok s.st.fl) with
        | false =>
          go_wp2
          go_ret
          exact ⟨ret_bool (by unfold rgt; rw [HR.out, hq]; simp), HX3.out.bel⟩
        | true =>
          go_wp2_with fail
          refine (everyW 26 #[.pointer (some ⟨W1.heap.size, 0, none⟩), .pointer (some ⟨w.heap.size, 0, none⟩)] (wok s.st.fl n) eg3 D _ s.ws W3 (HW.out.below' HX3.out.bel) (by omega) (fun W x hb => wantOk_any w.heap.size W1.heap.size n hn8 x s.st HCA.out _ _ W (HX3.out.next hb).nb (HX3.out.next hb).hf (HX3.out.next hb).lt)).mono ?_
          rintro e W4 ⟨rfl, hb4⟩
          have HB4 := Hid.intro' (below_class HX3.out.bel hb4)
          clear hb4
          go_wp2
          go_ret
          refine ⟨ret_bool ?_, HB4.out⟩
          unfold rgt
          rw [HR.out, hq, H1.out, HCA.out]
          simp [h2]
      · have hb1 : ((s.cs.length : Int) != s.st.ca) = false := by simp [h1]
        have hb2 : decide ((128 : Int) < (s.ws.length : Int)) = true := decide_eq_true (by omega)
        have HR := Hid.intro' hr
        clear h1 hr
        go_wp2
        go_ret
        exact ⟨ret_bool (by unfold rgt; rw [decide_eq_false h2]; simp), HB1.out⟩
    · have hb1 : ((s.cs.length : Int) != s.st.ca) = true := by simp [h1]
      have HR := Hid.intro' hr
      have H1 := Hid.intro' h1
      clear h1 hr
      go_wp2
      go_ret
      exact ⟨ret_bool (by unfold rgt; rw [decide_eq_false H1.out]; simp), HB1.out⟩

end Go.Proofs.Ytdfdkddjkhcgdai
