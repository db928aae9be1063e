/- Which of a want's cars would be at its floor first. -/
import Derived.Test.YtdfdkddjkhcgdaiRvB
import Derived.Test.YtdfdkddjkhcgdaiRuF
import Derived.Test.YtdfdkddjkhcgdaiPk1
namespace Go.Proofs.Ytdfdkddjkhcgdai
open Go.RowKit Go.Shelf
attribute [local go_sem] Oper.semAt_some

/-- the first one of these, and when: one more -/
def rst (s : Sn) (w : Int) (p : Int × Int) (c : Nat) : Int × Int := if rtm s w c < p.2 then ((c : Int), rtm s w c) else p
def rfo (s : Sn) (w : Int) (l : List Nat) : Int × Int := l.foldl (rst s w) (0, 1099511627776)
theorem rfo_snoc (s : Sn) (w : Int) (l : List Nat) (c : Nat) : rfo s w (l ++ [c]) = rst s w (rfo s w l) c := by unfold rfo; rw [List.foldl_append]; rfl
theorem rfo_rfc {s : Sn} {w : Int} {m N : Nat} (hm : ∀ c, mayk s c w = PM.bt m c) (ht : ∀ c, c < N → rtm s w c < 1099511627776) : ∀ n, n ≤ N → ((rfc s w n).1 < 0 ∧ rfo s w (svl m n) = (0, 1099511627776)) ∨ (0 ≤ (rfc s w n).1 ∧ rfo s w (svl m n) = rfc s w n)
  | 0, _ => .inl ⟨by show (-1 : Int) < 0; decide, rfl⟩
  | n + 1, hn => by
    have ih := rfo_rfc hm ht n (by omega)
    rw [svl_succ]
    cases hb : PM.bt m n with
    | false =>
      rw [if_neg (by simp), List.append_nil]
      have e : rfc s w (n + 1) = rfc s w n := by
        show (if _ then _ else _) = _
        rw [if_neg (fun h => by rw [hm, hb] at h; cases h.1)]
      rw [e]
      exact ih
    | true =>
      rw [if_pos rfl, rfo_snoc]
      have h1 := ht n (by omega)
      right
      rcases ih with ⟨h2, h3⟩ | ⟨h2, h3⟩
      · have e : rfc s w (n + 1) = ((n : Int), rtm s w n) := by
          show (if _ then _ else _) = _
          rw [if_pos ⟨by rw [hm]; exact hb, .inl h2⟩]
        rw [e, h3]
        exact ⟨Int.natCast_nonneg _, by unfold rst; rw [if_pos h1]⟩
      · rw [h3]
        unfold rst
        by_cases h4 : rtm s w n < (rfc s w n).2
        · have e : rfc s w (n + 1) = ((n : Int), rtm s w n) := by
            show (if _ then _ else _) = _
            rw [if_pos ⟨by rw [hm]; exact hb, .inr h4⟩]
          rw [e, if_pos h4]
          exact ⟨Int.natCast_nonneg _, rfl⟩
        · have e : rfc s w (n + 1) = rfc s w n := by
            show (if _ then _ else _) = _
            rw [if_neg (fun h => h.2.elim (fun h => by omega) h4)]
          rw [e, if_neg h4]
          exact ⟨h2, rfl⟩
/-- what the loop over the cars keeps -/
def FI (Wz : World) (b2 b3 : Nat) (s : Sn) (i : Int) (pre : List Nat) (F : Nat → Prop) (A : World) : Prop :=
  KB Wz (fun k => k = b2 ∨ k = b3) F A ∧ (b2 < Wz.heap.size ∧ b3 < Wz.heap.size) ∧ A.heap[b2]? = some (.cells #[.int .i64 (rfo s i pre).1] 3 (0, 0)) ∧ A.heap[b3]? = some (.cells #[.int .i64 (rfo s i pre).2] 3 (0, 0))
theorem fi_stb (Wz : World) (b2 b3 : Nat) (s : Sn) (i : Int) : Stb (FI Wz b2 b3 s i) := fun _ _ _ _ _ h hk hF =>
  ⟨h.1.stb hk hF, h.2.1, (hk.block _ (Nat.lt_of_lt_of_le h.2.1.1 h.1.1.size) (h.1.2 _ h.2.1.1)).trans h.2.2.1, (hk.block _ (Nat.lt_of_lt_of_le h.2.1.2 h.1.1.size) (h.1.2 _ h.2.1.2)).trans h.2.2.2⟩

set_option maxRecDepth 100000 in
set_option maxHeartbeats 8000000 in
theorem firstThere_any (s : Sn) (D : Nat → Prop) (vc vw : Value) (w : World) (hc : R2 D w vc s.cs) (hr : rgt s = true) (i : Nat) (y : Int × Int) (hy : s.ws[i]? = some y) :
    Calls Try.prog 16 #[.agg (nv s.st vc vw).toArray, .agg #[.int .i64 y.1, .int .i64 y.2]] w fun e w' => e = .returned (.int .i64 (rfc s (i : Int) s.cs.length).1) ∧ Below w.heap.size w w' := by
  have hi : i < s.ws.length := (List.getElem?_eq_some_iff.1 hy).1
  have HC : Hid (R2 (fun g => g < w.heap.size) w vc s.cs) := hc.mono fun g _ h _ => h
  obtain ⟨ac, kc, rfl, _, _⟩ := hc.form
  have HZ := Hid.intro' (rgt_rz hr)
  have HAF := Hid.intro' (rgt_after hr)
  obtain ⟨n8, hrs⟩ := rgt_rs hr
  have hcl : s.cs.length ≤ 8 := by have := hrs.cl; have := hrs.n8; omega
  obtain ⟨m, hm, hym⟩ := hrs.mm.eq i y hy
  have HMY : Hid (∀ c, mayk s c (i : Int) = PM.bt m c) := fun c => by
    unfold mayk; rw [Int.toNat_natCast, hm]; rfl
  have HWF := Hid.intro' (RM.wf_get hy)
  have HYR := Hid.intro' (HZ.out.wr y (List.mem_of_getElem? hy))
  have HCAR := Hid.intro' (rfc_car hr hi)
  obtain ⟨y1, y2⟩ := y
  have hy2 : y2 = (m : Int) := hym
  subst hy2
  have HRT : Hid (∀ (c : Nat) r1 r2, s.cs[c]? = some (r1, r2) → rtm s (i : Int) c = r2 + SM.trav s.st r1 y1 ∧ 0 ≤ r2 ∧ r2 ≤ 1000000 ∧ 0 ≤ SM.trav s.st r1 y1 ∧ SM.trav s.st r1 y1 ≤ 1000000000) := fun c r1 r2 hr => by
    have h1 := SM.trav_bd HZ.out.rt r1 y1
    have h2 := HAF.out (r1, r2) (List.mem_of_getElem? hr)
    have h3 := (HZ.out.cr (r1, r2) (List.mem_of_getElem? hr)).l0
    refine ⟨?_, h3, h2, by omega, by omega⟩
    unfold rtm
    rw [hr, HWF.out, Option.getD_some]
  have HTL : Hid (∀ c, c < s.cs.length → rtm s (i : Int) c < 1099511627776) := fun c hc => by
    obtain ⟨r, hr⟩ : ∃ r, s.cs[c]? = some r := ⟨_, List.getElem?_eq_getElem hc⟩
    obtain ⟨h1, h2⟩ := HRT.out c r.1 r.2 hr
    omega
  clear hc hr hrs hm hy hym
  refine (callsIn_wide (n := 0)).1 ?_
  refine callsIn_of_wp_marks Try.func16 rfl trivial ?_ rfl
  simp only [Try.ntmps16, List.size_toArray, List.length_cons, List.length_nil, Nat.reduceAdd, Nat.reduceSub, Array.replicate_succ, Array.replicate_zero, List.push_toArray, List.append_toArray, List.nil_append, List.cons_append]
  have hwf : ∀ k, Fence.wide.fn k := fun _ => trivial
  have HS1 : Hid (((((w.alloc (.cells (nv s.st (.slice ac s.cs.length kc) vw).toArray 36)).alloc (.cells #[.int .i64 y1, .int .i64 (m : Int)] 46)).alloc (.cells #[.int .i64 0] 3)).alloc (.cells #[.int .i64 1099511627776] 3)).heap.size = w.heap.size + 1 + 1 + 1 + 1) := by show _ = _; simp
  have q1 := (Below.refl w.heap.size w).alloc (Nat.le_refl _) (.cells (nv s.st (.slice ac s.cs.length kc) vw).toArray 36)
  have q2 := (Below.refl (w.alloc (.cells (nv s.st (.slice ac s.cs.length kc) vw).toArray 36)).heap.size _).alloc (Nat.le_refl _) (.cells #[.int .i64 y1, .int .i64 (m : Int)] 46)
  have q3 := (Below.refl ((w.alloc (.cells (nv s.st (.slice ac s.cs.length kc) vw).toArray 36)).alloc (.cells #[.int .i64 y1, .int .i64 (m : Int)] 46)).heap.size _).alloc (Nat.le_refl _) (.cells #[.int .i64 0] 3)
  have q4 := (Below.refl (((w.alloc (.cells (nv s.st (.slice ac s.cs.length kc) vw).toArray 36)).alloc (.cells #[.int .i64 y1, .int .i64 (m : Int)] 46)).alloc (.cells #[.int .i64 0] 3)).heap.size _).alloc (Nat.le_refl _) (.cells #[.int .i64 1099511627776] 3)
  have HBY := Hid.intro' (below_class (below_class (below_class q1 q2) q3) q4)
  have HNY : Hid (NB ((((w.alloc (.cells (nv s.st (.slice ac s.cs.length kc) vw).toArray 36)).alloc (.cells #[.int .i64 y1, .int .i64 (m : Int)] 46)).alloc (.cells #[.int .i64 0] 3)).alloc (.cells #[.int .i64 1099511627776] 3)) w.heap.size s.st (.slice ac s.cs.length kc) vw) := (((NB.new w s.st _ _).alloc _).alloc _).alloc _
  have HB1 : Hid (((((w.alloc (.cells (nv s.st (.slice ac s.cs.length kc) vw).toArray 36)).alloc (.cells #[.int .i64 y1, .int .i64 (m : Int)] 46)).alloc (.cells #[.int .i64 0] 3)).alloc (.cells #[.int .i64 1099511627776] 3)).heap[w.heap.size + 1]? = some (.cells #[.int .i64 y1, .int .i64 (m : Int)] 46 (0, 0))) := by
    have h := World.alloc_heap_new (w.alloc (.cells (nv s.st (.slice ac s.cs.length kc) vw).toArray 36)) (.cells #[.int .i64 y1, .int .i64 (m : Int)] 46)
    rw [World.size_alloc] at h
    exact (q4.block _ (by simp)).trans ((q3.block _ (by simp)).trans h)
  have HB2 : Hid (((((w.alloc (.cells (nv s.st (.slice ac s.cs.length kc) vw).toArray 36)).alloc (.cells #[.int .i64 y1, .int .i64 (m : Int)] 46)).alloc (.cells #[.int .i64 0] 3)).alloc (.cells #[.int .i64 1099511627776] 3)).heap[w.heap.size + 1 + 1]? = some (.cells #[.int .i64 0] 3 (0, 0))) := by
    have h := World.alloc_heap_new ((w.alloc (.cells (nv s.st (.slice ac s.cs.length kc) vw).toArray 36)).alloc (.cells #[.int .i64 y1, .int .i64 (m : Int)] 46)) (.cells #[.int .i64 0] 3)
    rw [World.size_alloc, World.size_alloc] at h
    exact (q4.block _ (by simp)).trans h
  have HB3 : Hid (((((w.alloc (.cells (nv s.st (.slice ac s.cs.length kc) vw).toArray 36)).alloc (.cells #[.int .i64 y1, .int .i64 (m : Int)] 46)).alloc (.cells #[.int .i64 0] 3)).alloc (.cells #[.int .i64 1099511627776] 3)).heap[w.heap.size + 1 + 1 + 1]? = some (.cells #[.int .i64 1099511627776] 3 (0, 0))) := by
    have h := World.alloc_heap_new (((w.alloc (.cells (nv s.st (.slice ac s.cs.length kc) vw).toArray 36)).alloc (.cells #[.int .i64 y1, .int .i64 (m : Int)] 46)).alloc (.cells #[.int .i64 0] 3)) (.cells #[.int .i64 1099511627776] 3)
    rw [World.size_alloc, World.size_alloc, World.size_alloc] at h
    exact h
  have c13 : ((((w.alloc (.cells (nv s.st (.slice ac s.cs.length kc) vw).toArray 36)).alloc (.cells #[.int .i64 y1, .int .i64 (m : Int)] 46)).alloc (.cells #[.int .i64 0] 3)).alloc (.cells #[.int .i64 1099511627776] 3)).cell? ⟨w.heap.size, 13, none⟩ = some (.slice ac s.cs.length kc) := HNY.out.cell 13
  have d0 : ((((w.alloc (.cells (nv s.st (.slice ac s.cs.length kc) vw).toArray 36)).alloc (.cells #[.int .i64 y1, .int .i64 (m : Int)] 46)).alloc (.cells #[.int .i64 0] 3)).alloc (.cells #[.int .i64 1099511627776] 3)).cell? ⟨w.heap.size + 1, 0, none⟩ = some (.int .i64 y1) := by rw [cell_of_row _ _ 0 _ _ _ HB1.out]; rfl
  have d1 : ((((w.alloc (.cells (nv s.st (.slice ac s.cs.length kc) vw).toArray 36)).alloc (.cells #[.int .i64 y1, .int .i64 (m : Int)] 46)).alloc (.cells #[.int .i64 0] 3)).alloc (.cells #[.int .i64 1099511627776] 3)).cell? ⟨w.heap.size + 1, 1, none⟩ = some (.int .i64 (m : Int)) := by rw [cell_of_row _ _ 1 _ _ _ HB1.out]; rfl
  clear q1 q2 q3 q4
  gi_wp2_with fail
  clear c13 d0 d1
  generalize (((w.alloc (.cells (nv s.st (.slice ac s.cs.length kc) vw).toArray 36)).alloc (.cells #[.int .i64 y1, .int .i64 (m : Int)] 46)).alloc (.cells #[.int .i64 0] 3)).alloc (.cells #[.int .i64 1099511627776] 3) = Y at HS1 HBY HNY HB1 HB2 HB3 ⊢
  refine ⟨rfl, (callsIn_wide.2 (serving_any y1 m s.cs.length Y)).mono ?_⟩
  rintro e W2 ⟨rfl, rfl⟩
  have r1 := (Below.refl Y.heap.size Y).alloc (Nat.le_refl _) (.cells #[.int .i64 y1, .int .i64 (m : Int)] 46)
  have r2 := r1.alloc (by simp) (.cells #[.int .i64 (s.cs.length : Int)] 3)
  have HV1 : Hid (((Y.alloc (.cells #[.int .i64 y1, .int .i64 (m : Int)] 46)).alloc (.cells #[.int .i64 (s.cs.length : Int)] 3)).heap[Y.heap.size + 1]? = some (.cells #[.int .i64 (s.cs.length : Int)] 3 (0, 0))) := by
    have h := World.alloc_heap_new (Y.alloc (.cells #[.int .i64 y1, .int .i64 (m : Int)] 46)) (.cells #[.int .i64 (s.cs.length : Int)] 3)
    rwa [World.size_alloc] at h
  have HV2 : Hid (((Y.alloc (.cells #[.int .i64 y1, .int .i64 (m : Int)] 46)).alloc (.cells #[.int .i64 (s.cs.length : Int)] 3)).heap[Y.heap.size]? = some (.cells #[.int .i64 y1, .int .i64 (m : Int)] 46 (0, 0))) :=
    (Below.heap_alloc _ _ _ (by simp)).trans (World.alloc_heap_new Y _)
  have HVZ : Hid (((Y.alloc (.cells #[.int .i64 y1, .int .i64 (m : Int)] 46)).alloc (.cells #[.int .i64 (s.cs.length : Int)] 3)).heap.size = Y.heap.size + 1 + 1) := by show _ = _; simp
  have HBZ := Hid.intro' (below_class HBY.out r2)
  have HYZ := Hid.intro' r2
  clear r1 r2
  gi_wp2_with fail
  generalize (Y.alloc (.cells #[.int .i64 y1, .int .i64 (m : Int)] 46)).alloc (.cells #[.int .i64 (s.cs.length : Int)] 3) = Z at HV1 HV2 HVZ HBZ HYZ ⊢
  have HNZ := Hid.intro' (HNY.out.below' HYZ.out)
  have HZ1 := Hid.intro' ((HYZ.out.block (w.heap.size + 1) (Array.getElem?_eq_some_iff.1 HB1.out).1).trans HB1.out)
  have HZ2 := Hid.intro' ((HYZ.out.block (w.heap.size + 1 + 1) (Array.getElem?_eq_some_iff.1 HB2.out).1).trans HB2.out)
  have HZ3 := Hid.intro' ((HYZ.out.block (w.heap.size + 1 + 1 + 1) (Array.getElem?_eq_some_iff.1 HB3.out).1).trans HB3.out)
  clear HNY HB1 HB2 HB3 HBY HYZ
  generalize Y.heap.size = yz at HS1 HV1 HV2 HVZ ⊢
  generalize hG0 : (fun k => k = yz + 1 ∨ k = yz) = G
  have hG : ∀ k, G k → k < Z.heap.size ∧ w.heap.size + 1 + 1 + 1 < k := fun k hk => by
    rw [← hG0] at hk
    have := HVZ.out; have := HS1.out
    rcases hk with h | h <;> omega
  have hseq := serving_seq (yz + 1) yz y1 m s.cs.length G Z HV1.out HV2.out (by rw [← hG0]; exact .inl rfl) (by rw [← hG0]; exact .inr rfl) hcl
  have HG := Hid.intro' hG
  have HI0 : Hid (FI Z (w.heap.size + 1 + 1) (w.heap.size + 1 + 1 + 1) s (i : Int) [] (fun _ => False) Z) :=
    ⟨⟨Kp.refl _ _, fun _ _ h => h⟩, ⟨by have := HVZ.out; have := HS1.out; omega, by have := HVZ.out; have := HS1.out; omega⟩, HZ2.out, HZ3.out⟩
  have eg : ∀ args w, (callFunc 32 args).run Try.prog w = .ok (.enter 32 args) w := by intro args w; simp [go_sem]
  clear hG hG0 HZ2 HZ3 HV1 HV2
  generalize Value.agg (nv s.st (.slice ac s.cs.length kc) vw).toArray = jn
  generalize hjc : Value.slice ac s.cs.length kc = jc at HNZ
  rw [hjc] at HC
  have HJC := Hid.intro' hjc
  clear hjc
  have HAS := Hid.intro' HS1.out
  refine wpIn_rangeFunc_B (gf := 32) (lb := #[.pointer (some ⟨yz + 1, 0, none⟩), .pointer (some ⟨yz, 0, none⟩)]) rfl eg hseq (Below.refl _ _) (fun x F A args h => by rw [h.1]; rfl) (fun k hk => (HG.out k hk).1) (fun k h => h.elim)
    (FI Z (w.heap.size + 1 + 1) (w.heap.size + 1 + 1 + 1) s (i : Int)) (fun _ _ _ _ => False) (fi_stb _ _ _ _ _) (fun _ _ _ _ _ _ h _ _ => h) HI0.out
    (fun x a' _ => x < s.cs.length ∧ a' = { tmps := #[jn, .agg #[.int .i64 y1, .int .i64 (m : Int)], .pointer (some ⟨w.heap.size, 0, none⟩), .pointer (some ⟨w.heap.size + 1, 0, none⟩), .int .i64 0, .pointer (some ⟨w.heap.size + 1 + 1, 0, none⟩), .pointer (some ⟨w.heap.size + 1 + 1 + 1, 0, none⟩), .int .i64 (x : Int), undef, undef, .agg #[.int .i64 y1, .int .i64 (m : Int)], .pointer (some ⟨w.heap.size, 13, none⟩), jc, .int .i64 (s.cs.length : Int),
      .func (.func 32) #[] #[.pointer (some ⟨yz + 1, 0, none⟩), .pointer (some ⟨yz, 0, none⟩)], .int .i64 (x : Int), undef, undef, undef, undef, undef, undef, undef, undef, undef, undef, undef, undef, undef, undef, undef, undef, undef, undef, undef, undef, undef], defers := [] }) ?hB ?assign ?body ?done ?stop
  case hB =>
    rintro x a' A A' h _ _
    exact h
  case assign =>
    rintro l' x F A args K ⟨rfl, h1⟩ hK
    have HK := Hid.intro' hK
    clear hK hseq
    gi_wp2
    refine HK.out _ _ (Below.refl _ A) ⟨h1, rfl⟩
  case body =>
    rintro l' pre x F A a' ⟨hk, hl, hv2, hv3⟩ ⟨h1, rfl⟩
    have hwf' : ∀ k, (Fence.wide.inRound l').fn k := fun _ => trivial
    have hdd' : ∀ k : Nat, ((Fence.wide.inRound l').depth.isSome = true → 1 ≤ k) := fun k h => by cases h
    obtain ⟨r, hr⟩ : ∃ r, s.cs[x]? = some r := ⟨_, List.getElem?_eq_getElem h1⟩
    have hzw : w.heap.size + 1 + 1 + 1 + 1 + 1 + 1 = Z.heap.size := by have := HVZ.out; have := HAS.out; omega
    have hZA := hk.1.size
    have HNA : Hid (NB A w.heap.size s.st jc vw) := (hk.1.block _ (by omega) (by omega)).trans HNZ.out
    have HWA : Hid (A.heap[w.heap.size + 1]? = some (.cells #[.int .i64 y1, .int .i64 (m : Int)] 46 (0, 0))) := (hk.1.block _ (by omega) (by omega)).trans HZ1.out
    have hca : R2 (fun g => g < w.heap.size) A jc s.cs := (HC.out.below' HBZ.out).keep hZA (fun g hg hlt => hk.1.block g hlt (by omega))
    rw [← HJC.out] at hca HNA
    rw [← HJC.out]
    obtain ⟨gc, oc, rfl, e0, e1⟩ := hca.at hr
    obtain ⟨r1, r2⟩ := r
    obtain ⟨hrt, b1, b2, b3, b4⟩ := HRT.out x r1 r2 hr
    obtain ⟨T, HT⟩ : ∃ T, Hid (SM.trav s.st r1 y1 = T) := ⟨_, Hid.intro' rfl⟩
    rw [HT.out] at hrt b3 b4
    have HRM := Hid.intro' hrt
    have hw1 : IntKind.i64.wrap (r2 + T) = r2 + T := IntWalk.i64_in _ (by omega)
    obtain ⟨p1, HP1⟩ : ∃ p1, Hid ((rfo s (i : Int) pre).1 = p1) := ⟨_, Hid.intro' rfl⟩
    obtain ⟨p2, HP2⟩ : ∃ p2, Hid ((rfo s (i : Int) pre).2 = p2) := ⟨_, Hid.intro' rfl⟩
    rw [HP1.out] at hv2
    rw [HP2.out] at hv3
    have c13 : A.cell? ⟨w.heap.size, 13, none⟩ = some (.slice (some ⟨gc, oc, none⟩) s.cs.length kc) := HNA.out.cell 13
    have hxz : (x : Int) < (s.cs.length : Int) := by omega
    have hbA := (Below.refl A.heap.size A).alloc (Nat.le_refl _) (.cells #[.int .i64 r1, .int .i64 r2] 48)
    have HRA : Hid ((A.alloc (.cells #[.int .i64 r1, .int .i64 r2] 48)).heap[A.heap.size]? = some (.cells #[.int .i64 r1, .int .i64 r2] 48 (0, 0))) := World.alloc_heap_new A _
    have HBA := Hid.intro' hbA
    have HNA2 := Hid.intro' (HNA.out.below' hbA)
    have HWA2 := Hid.intro' ((hbA.block _ (Array.getElem?_eq_some_iff.1 HWA.out).1).trans HWA.out)
    have HV2 := Hid.intro' ((hbA.block _ (Array.getElem?_eq_some_iff.1 hv2).1).trans hv2)
    have HV3 := Hid.intro' ((hbA.block _ (Array.getElem?_eq_some_iff.1 hv3).1).trans hv3)
    have HK := Hid.intro' (And.intro hk hl)
    clear hbA hv2 hv3 HNA HWA hca hr hrt hk hl b1 b2 b3 b4 hseq HI0
    gi_wp2_with fail
    clear c13 e0 e1
    generalize A.alloc (.cells #[.int .i64 r1, .int .i64 r2] 48) = W4 at HRA HBA HNA2 HWA2 HV2 HV3 ⊢
    generalize hb8 : A.heap.size = b8 at HRA HBA ⊢
    have HB8 := Hid.intro' hb8
    clear hb8
    have C0 : Hid (∀ w', Below W4.heap.size W4 w' → w'.cell? ⟨b8, 0, none⟩ = some (.int .i64 r1)) := fun w' hw => by
      rw [cell_of_row _ _ 0 _ _ _ ((hw.block b8 (Array.getElem?_eq_some_iff.1 HRA.out).1).trans HRA.out)]; rfl
    have C1 : Hid (∀ w', Below W4.heap.size W4 w' → w'.cell? ⟨b8, 1, none⟩ = some (.int .i64 r2)) := fun w' hw => by
      rw [cell_of_row _ _ 1 _ _ _ ((hw.block b8 (Array.getElem?_eq_some_iff.1 HRA.out).1).trans HRA.out)]; rfl
    have C2 : Hid (∀ w', Below W4.heap.size W4 w' → w'.cell? ⟨w.heap.size + 1, 0, none⟩ = some (.int .i64 y1)) := fun w' hw => by
      rw [cell_of_row _ _ 0 _ _ _ ((hw.block _ (Array.getElem?_eq_some_iff.1 HWA2.out).1).trans HWA2.out)]; rfl
    have HNB : Hid (∀ w', Below W4.heap.size W4 w' → NB w' w.heap.size s.st (.slice (some ⟨gc, oc, none⟩) s.cs.length kc) vw) := fun w' hw => HNA2.out.below' hw
    have HTR : Hid (∀ w', Below W4.heap.size W4 w' → Calls Try.prog 28 #[.agg (sv s.st).toArray, .int .i64 r1, .int .i64 y1] w' fun e w'' => e = .returned (.int .i64 T) ∧ Below w'.heap.size w' w'') := fun w' hw => by
      have h := travel_any s.st HZ.out.rt r1 y1 w'
      rw [HT.out] at h
      exact h
    refine wpIn_region_quietR (C := fun w' => Below W4.heap.size W4 w') (by kernel_rfl) (by kernel_rfl) (by kernel_rfl) ((Below.refl _ _).drew) ?_
    unfold wpQuiet
    generalize hK : wpQuiet Try.prog _ _ _ _ = K
    go_simp
    refine ⟨_, fun _ _ => rfl, ?_⟩
    subst hK
    unfold wpQuiet
    generalize hK : wpQuiet Try.prog _ _ _ _ = K
    rw [if_pos (by go_simp)]
    refine quiet_load3 _ _ _ rfl rfl C1.out ?_
    go_simp
    subst hK
    unfold wpQuiet
    generalize hK : wpQuiet Try.prog _ _ _ _ = K
    go_simp
    refine ⟨_, fun _ _ => rfl, ?_⟩
    subst hK
    unfold wpQuiet
    generalize hK : wpQuiet Try.prog _ _ _ _ = K
    rw [if_pos (by go_simp)]
    refine quiet_l23n _ w.heap.size s.st _ _ rfl rfl HNB.out ?_
    go_simp
    subst hK
    unfold wpQuiet
    generalize hK : wpQuiet Try.prog _ _ _ _ = K
    go_simp
    refine ⟨_, fun _ _ => rfl, ?_⟩
    subst hK
    unfold wpQuiet
    generalize hK : wpQuiet Try.prog _ _ _ _ = K
    rw [if_pos (by go_simp)]
    refine quiet_load3 _ _ _ rfl rfl C0.out ?_
    go_simp
    subst hK
    unfold wpQuiet
    generalize hK : wpQuiet Try.prog _ _ _ _ = K
    go_simp
    refine ⟨_, fun _ _ => rfl, ?_⟩
    subst hK
    unfold wpQuiet
    generalize hK : wpQuiet Try.prog _ _ _ _ = K
    rw [if_pos (by go_simp)]
    refine quiet_load3 _ _ _ rfl rfl C2.out ?_
    go_simp
    subst hK
    unfold wpQuiet
    generalize hK : wpQuiet Try.prog _ _ _ _ = K
    go_simp
    refine ⟨_, fun w' hw => (HTR.out w' hw).mono fun e w'' hh => ⟨hh.1, below_class hw hh.2⟩, ?_⟩
    subst hK
    unfold wpQuiet
    generalize hK : wpQuiet Try.prog _ _ _ _ = K
    go_simp
    refine ⟨_, fun _ _ => rfl, ?_⟩
    subst hK
    unfold wpQuiet
    generalize hK : wpQuiet Try.prog _ _ _ _ = K
    go_simp
    refine ⟨_, fun _ _ => rfl, ?_⟩
    subst hK
    refine wpQuiet_nil ?_
    intro W5 hb5
    have HW2 := Hid.intro' ((hb5.block _ (Array.getElem?_eq_some_iff.1 HV2.out).1).trans HV2.out)
    have HW3 := Hid.intro' ((hb5.block _ (Array.getElem?_eq_some_iff.1 HV3.out).1).trans HV3.out)
    have HB5 : Hid (Below A.heap.size A W5) := by
      have h := HBA.out
      rw [← HB8.out] at h
      exact below_class h hb5
    have c3 : W5.cell? ⟨w.heap.size + 1 + 1 + 1, 0, none⟩ = some (.int .i64 p2) := by rw [cell_of_row _ _ 0 _ _ _ HW3.out]; rfl
    have c2 : W5.cell? ⟨w.heap.size + 1 + 1, 0, none⟩ = some (.int .i64 p1) := by rw [cell_of_row _ _ 0 _ _ _ HW2.out]; rfl
    have f3 : W5.frozen? ⟨w.heap.size + 1 + 1 + 1, 0, none⟩ = false := by simp [World.frozen?, HW3.out]
    have f2 : W5.frozen? ⟨w.heap.size + 1 + 1, 0, none⟩ = false := by simp [World.frozen?, HW2.out]
    clear hb5 C0 C1 C2 HNB HTR HRA HBA HNA2 HWA2 HV2 HV3 HB8
    by_cases hlt : r2 + T < p2
    · have HFI : Hid (Kept (fun k => F k ∨ G k) A ((W5.setCell ⟨w.heap.size + 1 + 1, 0, none⟩ (.int .i64 (x : Int))).setCell ⟨w.heap.size + 1 + 1 + 1, 0, none⟩ (.int .i64 (r2 + T))) ∧ FI Z (w.heap.size + 1 + 1) (w.heap.size + 1 + 1 + 1) s (i : Int) (pre ++ [x]) F ((W5.setCell ⟨w.heap.size + 1 + 1, 0, none⟩ (.int .i64 (x : Int))).setCell ⟨w.heap.size + 1 + 1 + 1, 0, none⟩ (.int .i64 (r2 + T)))) := by
        have hkp : Kp (fun k => k = w.heap.size + 1 + 1 ∨ k = w.heap.size + 1 + 1 + 1) A ((W5.setCell ⟨w.heap.size + 1 + 1, 0, none⟩ (.int .i64 (x : Int))).setCell ⟨w.heap.size + 1 + 1 + 1, 0, none⟩ (.int .i64 (r2 + T))) :=
          ((Kp.ofBelow _ HB5.out).set _ _ _ (fun _ => .inl rfl)).set _ _ _ (fun _ => .inr rfl)
        have ef : rfo s (i : Int) (pre ++ [x]) = ((x : Int), r2 + T) := by
          rw [rfo_snoc]
          unfold rst
          rw [HRM.out, HP2.out, if_pos hlt]
        refine ⟨Kept.ofKp hkp (fun k _ hf e => ?_), ⟨HK.out.1.1.trans hkp (fun _ _ h => h), HK.out.1.2⟩, HK.out.2, ?_, ?_⟩
        · rcases hf with hf | hf
          · exact HK.out.1.2 k (by omega) hf
          · have := (HG.out k hf).2; omega
        · rw [ef, Below.heap_setCell _ _ _ _ (by show w.heap.size + 1 + 1 ≠ w.heap.size + 1 + 1 + 1; omega)]
          exact blk_set (C := [_]) HW2.out 0 _
        · rw [ef]
          exact blk_set (C := [_]) ((Below.heap_setCell _ _ _ _ (by show w.heap.size + 1 + 1 + 1 ≠ w.heap.size + 1 + 1; omega)).trans HW3.out) 0 _
      clear HK HB5 HW2 HW3
      gi_wp2
      exact HFI.out
    · have HFI : Hid (Kept (fun k => F k ∨ G k) A W5 ∧ FI Z (w.heap.size + 1 + 1) (w.heap.size + 1 + 1 + 1) s (i : Int) (pre ++ [x]) F W5) := by
        have ef : rfo s (i : Int) (pre ++ [x]) = (p1, p2) := by
          rw [rfo_snoc]
          unfold rst
          rw [HRM.out, HP2.out, if_neg hlt, ← HP1.out, ← HP2.out]
        refine ⟨Kept.ofBelow HB5.out, ⟨HK.out.1.1.thenBelow HB5.out, HK.out.1.2⟩, HK.out.2, ?_, ?_⟩
        · rw [ef]; exact HW2.out
        · rw [ef]; exact HW3.out
      clear HK HB5 HW2 HW3
      gi_wp2
      exact HFI.out
  case done =>
    rintro Dd xs F A hD hFD rfl ⟨hk, hl, hv2, _⟩ hK
    have c2 : A.cell? ⟨w.heap.size + 1 + 1, 0, none⟩ = some (.int .i64 (rfo s (i : Int) (svl m s.cs.length)).1) := by rw [cell_of_row _ _ 0 _ _ _ hv2]; rfl
    have e : (rfo s (i : Int) (svl m s.cs.length)).1 = (rfc s (i : Int) s.cs.length).1 := by
      obtain ⟨c, h1, _⟩ := HCAR.out
      rcases rfo_rfc HMY.out HTL.out s.cs.length (Nat.le_refl _) with h | h
      · omega
      · rw [h.2]
    rw [e] at c2
    have HE : Hid (Below w.heap.size w (A.putObj Dd (.deferred none))) := by
      have hkd : Kp (fun k => k = Dd) A (A.putObj Dd (.deferred none)) := (Kp.refl _ A).put Dd _ (fun _ => rfl)
      have hbA : Below w.heap.size w A := hk.1.below HBZ.out HBZ.out.size (fun i hi e => by omega)
      refine hkd.below hbA hbA.size (fun i hi e => ?_)
      have := HBZ.out.size
      omega
    clear hk hl hv2 hseq HI0 e
    gi_wp2
    refine ⟨by simp, .inl ⟨_, _, rfl, run_takeDeferred hK, ?_⟩⟩
    exact ⟨_, results_tmp rfl _ _ _, rfl, HE.out⟩
  case stop =>
    rintro Dd c pre F A hD hFD hSp h hK
    exact h.elim

end Go.Proofs.Ytdfdkddjkhcgdai
