/- A node's children are put onto the nodes that wait. -/
import Derived.Test.YtagmidolcdefiahSlW
import Derived.Test.YtagmidolcdefiahSlX
import Derived.Test.YtagmidolcdefiahPk16
namespace Go.Proofs.Ytagmidolcdefiah
open Go.RowKit Go.Shelf
attribute [local go_sem] Oper.semAt_some
theorem children_any (tb q : Nat) (w : World) :
    Calls Try.prog 70 #[.pointer (some ⟨tb, 0, none⟩), .pointer (some ⟨q, 0, none⟩)] w fun e w' => e = .returned (.func (.func 83) #[] #[.pointer (some ⟨w.heap.size, 0, none⟩), .pointer (some ⟨w.heap.size + 1, 0, none⟩)]) ∧ w' = (w.alloc (.cells #[.pointer (some ⟨tb, 0, none⟩)] 64)).alloc (.cells #[.pointer (some ⟨q, 0, none⟩)] 94) := by
  have hmf : ∀ (fn : Fn) (first cap : Array Value) (w : World), (Instr.makeFunc fn first cap).run Try.prog w = .ok (.func fn first cap) w := fun _ _ _ _ => rfl
  go_enter Try.func70, Try.ntmps70
  go_wp2
  go_ret
  exact ⟨rfl, rfl⟩
set_option maxHeartbeats 1000000 in
theorem rev_nil (a : Option Addr) (c : Nat) (w : World) :
    Calls Try.prog 71 #[.slice a 0 c] w fun e w' => (∃ v, e = .returned v) ∧ w' = w := by
  go_enter Try.func71, Try.ntmps71
  go_wp2_with fail
  go_loopw [2, 3] (fun iv jv wr => iv = .int .i64 0 ∧ jv = .int .i64 (-1) ∧ wr = w) (fun _ _ _ => 0)
  case atStart => exact ⟨rfl, rfl, rfl⟩
  case round =>
    obtain ⟨rfl, rfl, rfl⟩ := hrel
    go_wp2
    go_end0
    exact ⟨⟨_, rfl⟩, rfl⟩
/-- where the rest of a row begins -/
def restN (a : Option Addr) (cap j : Nat) : Option Addr := if cap = j then a else a.map fun x => x.add (j * 136)
theorem slice_restN (aa : Option Addr) (La ac n : Nat) (w : World) (hn : n ≤ La) : (Instr.sliceAt 99 (.slice aa La ac) (some (.int .i64 (n : Int))) none none).run Try.prog w = .ok (.slice (restN aa ac n) (La - n) (ac - n)) w := by
  have h1 : (n : Int) ≤ (La : Int) := by omega
  unfold restN
  cases aa with
  | none => simp [go_sem, h1]
  | some x =>
    by_cases e : ac = n
    · simp [go_sem, h1, e]
    · simp [go_sem, h1, e]
/-- what the loop over the children keeps -/
structure PI (s : Sn) (Z : World) (B b4 : Nat) (v : Value) (L : List En) (pre : List En) (F : Nat → Prop) (A : World) : Prop where
  kb : KB Z (fun k => k = b4 ∨ v.ownBlock = some k) F A
  lt : b4 < Z.heap.size
  fl : ∀ k, F k → k < A.heap.size
  ex : ∃ u, A.heap[b4]? = some (.cells #[u] 99 (0, 0)) ∧ ON s A B u (L ++ pre) ∧ (u.ownBlock = v.ownBlock ∨ ∀ g, u.ownBlock = some g → Z.heap.size ≤ g) ∧ (∀ g, u.ownBlock = some g → ¬ F g)
theorem pi_stb (s : Sn) (Z : World) (B b4 : Nat) (v : Value) (L : List En) : Stb (PI s Z B b4 v L) := fun pre F F' A A' h hk hF => by
  obtain ⟨u, h1, h2, h3, h4⟩ := h.ex
  refine ⟨h.kb.stb hk hF, h.lt, fun k hf => (hF k hf).elim (fun e => Nat.lt_of_lt_of_le (h.fl k e) hk.size) (fun e => e.2), u, (hk.block b4 (Array.getElem?_eq_some_iff.1 h1).1 (h.kb.2 b4 h.lt)).trans h1, h2.keep fun g hg => hk.block g (h2.lt g hg).2 (h4 g hg), h3, fun g hg hf => ?_⟩
  rcases hF g hf with e | e
  · exact h4 g hg e
  · have := (h2.lt g hg).2; omega
/-- a child is put behind the others -/
theorem PI.add {s : Sn} {Z A A2 : World} {B b4 : Nat} {v u : Value} {L pre : List En} {F G : Nat → Prop} (h : PI s Z B b4 v L pre F A) (hv : ∀ g, v.ownBlock = some g → g < b4) (hG : ∀ k, G k → k < Z.heap.size ∧ k ≠ b4 ∧ v.ownBlock ≠ some k) (h1 : A.heap[b4]? = some (.cells #[u] 99 (0, 0))) (h3 : u.ownBlock = v.ownBlock ∨ ∀ g, u.ownBlock = some g → Z.heap.size ≤ g) (h4 : ∀ g, u.ownBlock = some g → ¬ F g)
    {x : En} {g' n cap : Nat} (o : Obj) (hg : (A.alloc o).grownBy A2 u.ownBlock) (hor : u.ownBlock = some g' ∨ g' = (A.alloc o).heap.size) (hO : ON s A2 B (.slice (some ⟨g', 0, none⟩) n cap) (L ++ pre ++ [x])) :
    PI s Z B b4 v L (pre ++ [x]) F (A2.setCell ⟨b4, 0, none⟩ (.slice (some ⟨g', 0, none⟩) n cap)) ∧ Kept (fun k => F k ∨ G k) A (A2.setCell ⟨b4, 0, none⟩ (.slice (some ⟨g', 0, none⟩) n cap)) := by
  have hlt := h.lt
  have hzs := h.kb.1.size
  have hub : u.ownBlock ≠ some b4 := fun e => by
    rcases h3 with e2 | e2
    · have := hv b4 (e2.symm.trans e); omega
    · have := e2 b4 e; omega
  have hgA : ∀ k, k < A.heap.size → u.ownBlock ≠ some k → A2.heap[k]? = A.heap[k]? := fun k hk hne => (hg.block k (by simp; omega) (fun e => hne e.symm)).trans (Below.heap_alloc _ _ _ hk)
  have hz2 : A.heap.size ≤ A2.heap.size := by have := hg.size; simp at this; omega
  have keep : ∀ k, k ≠ b4 → (A2.setCell ⟨b4, 0, none⟩ (.slice (some ⟨g', 0, none⟩) n cap)).heap[k]? = A2.heap[k]? := fun k hk => Below.heap_setCell A2 ⟨b4, 0, none⟩ _ k hk
  have hb4 : A2.heap[b4]? = some (.cells #[u] 99 (0, 0)) := (hgA b4 (by omega) hub).trans h1
  have hg'b : g' ≠ b4 := fun e => by
    subst e
    rcases hor with e | e
    · exact hub e
    · simp at e; omega
  have hkp : Kp (fun k => k = b4 ∨ u.ownBlock = some k) A (A2.setCell ⟨b4, 0, none⟩ (.slice (some ⟨g', 0, none⟩) n cap)) :=
    (((Kp.refl (fun k => k = b4 ∨ u.ownBlock = some k) A).alloc o).grown hg (fun k _ e => .inr e)).set b4 0 _ (fun _ => .inl rfl)
  refine ⟨⟨⟨h.kb.1.trans hkp (fun k hk e => ?_), h.kb.2⟩, hlt, fun k hf => Nat.lt_of_lt_of_le (h.fl k hf) hkp.size, .slice (some ⟨g', 0, none⟩) n cap, ?_, ?_, ?_, ?_⟩, Kept.ofKp hkp (fun k hk hf e => ?_)⟩
  · rcases e with e | e
    · exact .inl e
    · rcases h3 with e2 | e2
      · exact .inr (e2.symm.trans e)
      · have := e2 k e; omega
  · exact blk_set (C := [u]) hb4 0 _
  · rw [← List.append_assoc]
    exact hO.keep fun g hg2 => by cases hg2; exact keep g' hg'b
  · rcases hor with e | e
    · rcases h3 with e2 | e2
      · left; rw [← e2, e]; rfl
      · right; intro g hg2
        have hgg : g' = g := by simpa [Value.ownBlock] using hg2
        subst hgg; exact e2 g' e
    · right; intro g hg2
      have hgg : g' = g := by simpa [Value.ownBlock] using hg2
      subst hgg; simp at e; omega
  · intro g hg2 hf
    have hgg : g' = g := by simpa [Value.ownBlock] using hg2
    subst hgg
    rcases hor with e | e
    · exact h4 g' e hf
    · have := h.fl g' hf; simp at e; omega
  · rcases hf with hf | hf
    · rcases e with e | e
      · rw [e] at hf; exact h.kb.2 b4 hlt hf
      · exact h4 k e hf
    · have hk2 := hG k hf
      rcases e with e | e
      · exact hk2.2.1 e
      · rcases h3 with e2 | e2
        · exact hk2.2.2 (e2.symm.trans e)
        · have := e2 k e; omega
/-- behind all children -/
theorem PI.fin {s : Sn} {W Z A A3 : World} {B q Dd : Nat} {v u : Value} {L M : List En} {F : Nat → Prop} {cs : List Value} (h : PI s Z B W.heap.size v L M F A) (hv : ∀ g, v.ownBlock = some g → g < W.heap.size) (h3 : u.ownBlock = v.ownBlock ∨ ∀ g, u.ownBlock = some g → Z.heap.size ≤ g) (h4 : ∀ g, u.ownBlock = some g → ¬ F g)
    (hD : Z.heap.size ≤ Dd) (hF : F Dd) (hk3 : Kp (fun k => u.ownBlock = some k) A A3) (hO : ON s A3 B u (L ++ M.reverse)) (hq : NK Z q cs) (hqb : W.heap.size < q) (hb : Below W.heap.size W Z) :
    NK (A3.putObj Dd (.deferred none)) q cs ∧ ON s (A3.putObj Dd (.deferred none)) B u (L ++ M.reverse) ∧ (u.ownBlock = v.ownBlock ∨ ∀ g, u.ownBlock = some g → W.heap.size ≤ g) ∧ u.ownBlock ≠ some q ∧ Kp (fun k => v.ownBlock = some k) W (A3.putObj Dd (.deferred none)) := by
  have hqz := hq.lt
  have hzs := h.kb.1.size
  have hws := hb.size
  have huq : ∀ k, W.heap.size ≤ k → k < Z.heap.size → u.ownBlock ≠ some k := fun k hk1 hk2 e => by
    rcases h3 with e2 | e2
    · have := hv k (e2.symm.trans e); omega
    · have := e2 k e; omega
  have hkA : Kp (fun k => k = W.heap.size ∨ v.ownBlock = some k) Z (A3.putObj Dd (.deferred none)) :=
    ((h.kb.1.trans hk3 (fun k hk e => by
      rcases h3 with e2 | e2
      · exact .inr (e2.symm.trans e)
      · have := e2 k e; omega)).put Dd _ (fun hlt => by omega))
  refine ⟨hq.kp hkA (fun e => ?_), hO.keep fun g hg => World.putObj_heap_other (fun e => h4 g hg (e ▸ hF)), ?_, huq q (by omega) hqz, ?_⟩
  · rcases e with e | e
    · omega
    · have := hv q e; omega
  · rcases h3 with e | e
    · exact .inl e
    · exact .inr fun g hg => by have := e g hg; omega
  · exact (Kp.ofBelow (fun k => v.ownBlock = some k) hb).trans hkA (fun k hk e => by
      rcases e with e | e
      · omega
      · exact e)
section
variable {D : Nat → Prop} {W : World} {tb B : Nat} {s : Sn} {vc vw vb v : Value} {e : En} {L : List En}
set_option maxRecDepth 100000 in
set_option maxHeartbeats 8000000 in
theorem push_any (ht : TR D W tb s vc vw vb) (hv : ON s W B v L) (hD : ∀ g, v.ownBlock = some g → ¬ D g) (ok : e.nd.ok s) (hB : B ≤ W.heap.size) (hL : L.length ≤ 150000000) :
    Calls Try.prog 43 #[.pointer (some ⟨tb, 0, none⟩), v, .agg (e.c s).toArray] W fun r w' => ∃ v' q, r = .returned v' ∧ W.heap.size ≤ q ∧ NK w' q (e.c s) ∧ ON s w' B v' (L ++ (che s e q).reverse) ∧ (v'.ownBlock = v.ownBlock ∨ ∀ g, v'.ownBlock = some g → W.heap.size ≤ g) ∧ v'.ownBlock ≠ some q ∧ Kp (fun k => v.ownBlock = some k) W w' := by
  have hb1 := (Below.refl W.heap.size W).alloc (Nat.le_refl _) (.cells #[v] 99)
  have hb2 := hb1.alloc (by simp) (.cells (e.c s).toArray 97)
  have HB2 := Hid.intro' hb2
  have HQ2 : Hid (NK ((W.alloc (.cells #[v] 99)).alloc (.cells (e.c s).toArray 97)) (W.heap.size + 1) (e.c s)) := by
    have := NK.new (W.alloc (.cells #[v] 99)) (En.len s e)
    rwa [World.size_alloc] at this
  have HV2 : Hid (((W.alloc (.cells #[v] 99)).alloc (.cells (e.c s).toArray 97)).heap[W.heap.size]? = some (.cells #[v] 99 (0, 0))) := (Below.heap_alloc _ _ _ (by simp)).trans (World.alloc_heap_new W _)
  have HZ2 : Hid (((W.alloc (.cells #[v] 99)).alloc (.cells (e.c s).toArray 97)).heap.size = W.heap.size + 2) := by show _ = _; simp
  have d4 : ((W.alloc (.cells #[v] 99)).alloc (.cells (e.c s).toArray 97)).cell? ⟨W.heap.size, 0, none⟩ = some v := by rw [cell_of_row _ _ 0 _ _ _ HV2.out]; rfl
  obtain ⟨av, cv, hvs⟩ := hv.slice
  have HT := Hid.intro' ht
  have HV := Hid.intro' hv
  have HD := Hid.intro' hD
  have HOK := Hid.intro' ok
  have HWL : Hid (s.ws.length ≤ 128) := ok.nb.bs.wl
  subst hvs
  clear hb1 hb2 ht hv hD ok
  refine (callsIn_wide (n := 0)).1 ?_
  refine callsIn_of_wp_marks Try.func43 rfl trivial ?_ rfl
  simp only [Try.ntmps43, List.size_toArray, List.length_cons, List.length_nil, Nat.reduceAdd, Nat.reduceSub, Array.replicate_succ, Array.replicate_zero, List.push_toArray, List.append_toArray, List.nil_append, List.cons_append]
  have hwf : ∀ k, Fence.wide.fn k := fun _ => trivial
  gi_wp2_with fail
  clear d4
  generalize (W.alloc (.cells #[Value.slice av L.length cv] 99)).alloc (.cells (e.c s).toArray 97) = Y at HB2 HQ2 HV2 HZ2 ⊢
  refine ⟨rfl, (callsIn_wide.2 (children_any tb (W.heap.size + 1) Y)).mono ?_⟩
  rintro r W2 ⟨rfl, rfl⟩
  gi_wp2_with fail
  have hc1 := (Below.refl Y.heap.size Y).alloc (Nat.le_refl _) (.cells #[.pointer (some ⟨tb, 0, none⟩)] 64)
  have hc2 := hc1.alloc (by simp) (.cells #[.pointer (some ⟨W.heap.size + 1, 0, none⟩)] 94)
  have HT1 : Hid (((Y.alloc (.cells #[.pointer (some ⟨tb, 0, none⟩)] 64)).alloc (.cells #[.pointer (some ⟨W.heap.size + 1, 0, none⟩)] 94)).heap[Y.heap.size]? = some (.cells #[.pointer (some ⟨tb, 0, none⟩)] 64 (0, 0))) := (Below.heap_alloc _ _ _ (by simp)).trans (World.alloc_heap_new Y _)
  have HT2 : Hid (((Y.alloc (.cells #[.pointer (some ⟨tb, 0, none⟩)] 64)).alloc (.cells #[.pointer (some ⟨W.heap.size + 1, 0, none⟩)] 94)).heap[Y.heap.size + 1]? = some (.cells #[.pointer (some ⟨W.heap.size + 1, 0, none⟩)] 94 (0, 0))) := by
    have := World.alloc_heap_new (Y.alloc (.cells #[.pointer (some ⟨tb, 0, none⟩)] 64)) (.cells #[.pointer (some ⟨W.heap.size + 1, 0, none⟩)] 94)
    rwa [World.size_alloc] at this
  have HBZ := Hid.intro' (below_class HB2.out hc2)
  have HVZ : Hid (((Y.alloc (.cells #[.pointer (some ⟨tb, 0, none⟩)] 64)).alloc (.cells #[.pointer (some ⟨W.heap.size + 1, 0, none⟩)] 94)).heap[W.heap.size]? = some (.cells #[Value.slice av L.length cv] 99 (0, 0))) := (hc2.block W.heap.size (by have := HZ2.out; omega)).trans HV2.out
  have HQZ := Hid.intro' (HQ2.out.below' hc2)
  have HZZ : Hid (((Y.alloc (.cells #[.pointer (some ⟨tb, 0, none⟩)] 64)).alloc (.cells #[.pointer (some ⟨W.heap.size + 1, 0, none⟩)] 94)).heap.size = W.heap.size + 4) := by show _ = _; simp [HZ2.out]
  rw [HZ2.out] at HT1 HT2 ⊢
  clear hc1 hc2 HB2 HV2 HQ2
  generalize (Y.alloc (.cells #[.pointer (some ⟨tb, 0, none⟩)] 64)).alloc (.cells #[.pointer (some ⟨W.heap.size + 1, 0, none⟩)] 94) = Z at HT1 HT2 HBZ HVZ HQZ HZZ ⊢
  clear HZ2
  have hvlt : ∀ g, (Value.slice av L.length cv).ownBlock = some g → B ≤ g ∧ g < W.heap.size := HV.out.lt
  generalize hG0 : (fun k => k < Z.heap.size ∧ k ≠ W.heap.size ∧ (Value.slice av L.length cv).ownBlock ≠ some k) = G
  have hG : ∀ k, G k → k < Z.heap.size ∧ k ≠ W.heap.size ∧ (Value.slice av L.length cv).ownBlock ≠ some k := fun k hk => by rw [← hG0] at hk; exact hk
  have hG' : ∀ k, k < Z.heap.size → k ≠ W.heap.size → (Value.slice av L.length cv).ownBlock ≠ some k → G k := fun k h1 h2 h3 => by rw [← hG0]; exact ⟨h1, h2, h3⟩
  clear hG0
  have hcq : Cq Z (W.heap.size + 2) (W.heap.size + 2 + 1) tb (W.heap.size + 1) s vc vw vb e G := by
    have hz := HZZ.out
    have hne : ∀ k, W.heap.size ≤ k → (Value.slice av L.length cv).ownBlock ≠ some k := fun k hk e => by have := (hvlt k e).2; omega
    refine ⟨HT1.out, HT2.out, ?_, HQZ.out, hG' _ (by omega) (by omega) (hne _ (by omega)), hG' _ (by omega) (by omega) (hne _ (by omega)), hG' _ (by omega) (by omega) (hne _ (by omega))⟩
    have h1 : TR (fun g => D g ∧ g < W.heap.size) W tb s vc vw vb := HT.out.mono fun g hg hl => ⟨hg, hl⟩
    refine (h1.below' HBZ.out).mono fun g hg _ => hG' g (by have := hg.2; omega) (by have := hg.2; omega) (fun e => HD.out g e hg.1)
  have hseq := children_seq s (W.heap.size + 2) (W.heap.size + 2 + 1) tb (W.heap.size + 1) vc vw vb e G Z hcq HOK.out
  have HI0 : Hid (PI s Z B W.heap.size (.slice av L.length cv) L [] (fun _ => False) Z) := ⟨⟨Kp.refl _ _, fun _ _ h => h⟩, by have := HZZ.out; omega, fun _ h => h.elim, _, HVZ.out, by rw [List.append_nil]; exact HV.out.below' HBZ.out, .inl rfl, fun _ _ h => h⟩
  have HG := Hid.intro' hG
  have HVL := Hid.intro' hvlt
  have eg : ∀ args w, (callFunc 83 args).run Try.prog w = .ok (.enter 83 args) w := by intro args w; simp [go_sem]
  clear hG hG' hcq hvlt HT1 HT2 HVZ HV HD
  generalize hjn : Value.agg (e.c s).toArray = jn
  clear hjn
  refine wpIn_rangeFunc_P (gf := 83) (lb := #[.pointer (some ⟨W.heap.size + 2, 0, none⟩), .pointer (some ⟨W.heap.size + 2 + 1, 0, none⟩)]) rfl eg hseq (Below.refl _ _) (fun x F A args h => by rw [h]; rfl) (fun k hk => (HG.out k hk).1) (fun k h => h.elim)
    (PI s Z B W.heap.size (.slice av L.length cv) L) (fun _ _ _ _ => False) (pi_stb _ _ _ _ _ _) (fun _ _ _ _ _ _ h _ _ => h) HI0.out
    (fun x a' A => ∃ b8, NK A b8 (x.c s) ∧ a' = { tmps := #[.pointer (some ⟨tb, 0, none⟩), .slice av L.length cv, jn, undef, .pointer (some ⟨W.heap.size, 0, none⟩), .pointer (some ⟨W.heap.size + 1, 0, none⟩), .slice none 0 0, .int .i64 (L.length : Int), .pointer (some ⟨b8, 0, none⟩), .slice av L.length cv, .int .i64 (L.length : Int), .pointer (some ⟨tb, 0, none⟩),
      .func (.func 83) #[] #[.pointer (some ⟨W.heap.size + 2, 0, none⟩), .pointer (some ⟨W.heap.size + 2 + 1, 0, none⟩)], .agg (x.c s).toArray, undef, undef, undef, undef, undef, undef, undef, undef, undef], defers := [] }) ?hB ?assign ?body ?done ?stop
  case hB =>
    rintro x a' A A' ⟨b8, h3, h4⟩ _ hk
    exact ⟨b8, h3.keep (hk b8 h3.lt ⟨_, h3.2, rfl⟩), h4⟩
  case assign =>
    rintro l' x F A args K rfl hK
    have HK := Hid.intro' hK
    have HZ := Hid.intro' (NK.new A zn_length)
    have HX8 := Hid.intro' (En.len s x)
    have HX1 : Hid (∀ u ∈ x.c s, u.oneCell' = true) := ncl_one _ _ _ _
    clear hK hseq
    refine wpIn_region_lit ?_
    refine wpListIn_allocN rfl rfl ?_
    generalize hKK : wpListIn (Fence.wide.inRound l') 0 Try.prog _ _ _ = KK
    go_simp
    subst hKK
    refine wpListIn_storeN1 rfl _ _ rfl A.heap.size rfl rfl HZ.out HX8.out HX1.out ?_
    have hb := (Below.refl A.heap.size A).alloc (Nat.le_refl _) (.cells zn.toArray 97)
    refine HK.out _ _ ((kp_row A.heap.size (A.alloc (.cells zn.toArray 97)) (x.c s).toArray).below hb (by simp) (fun i hi e => by omega)) ⟨A.heap.size, ⟨HX8.out, setRow_heap _ _ _ _ _ _ HZ.out.2⟩, rfl⟩
  case body =>
    rintro l' pre x F A a' hsp hI ⟨b8, h8, rfl⟩
    have hwf' : ∀ k, (Fence.wide.inRound l').fn k := fun _ => trivial
    obtain ⟨u, h1, h2, h3, h4⟩ := hI.ex
    obtain ⟨au, cu, hu⟩ := h2.slice
    subst hu
    have HLN : Hid ((L ++ pre).length ≤ 200000000) := by
      have h5 := hsp.length_le
      have h6 := che_len (e := e) (q := W.heap.size + 1) HWL.out
      rw [List.length_append] at h5
      show _ ≤ _
      rw [List.length_append]; omega
    obtain ⟨N, hN⟩ : ∃ N, (L ++ pre).length = N := ⟨_, rfl⟩
    have HNN := Hid.intro' hN
    rw [hN] at h1 h2 h3 h4
    have hcb : A.cell? ⟨W.heap.size, 0, none⟩ = some (.slice au N cu) := by rw [cell_of_row _ _ 0 _ _ _ h1]; rfl
    have HX8 := Hid.intro' (En.len s x)
    have HN8 := Hid.intro' h8
    have HI := Hid.intro' hI
    have HH := Hid.intro' (And.intro h1 (And.intro h2 (And.intro h3 h4)))
    have hbA := (Below.refl A.heap.size A).alloc (Nat.le_refl _) (.cells (x.c s).toArray 97)
    have HO1 := Hid.intro' (h2.below' hbA)
    have HR1 := Hid.intro' (NK.new A (En.len s x)).range
    have HBA : Hid (B ≤ (A.alloc (.cells (x.c s).toArray 97)).heap.size) := by
      have := hI.kb.1.size; have := HZZ.out
      show _ ≤ _; simp; omega
    have HVb : Hid (∀ g, (Value.slice av L.length cv).ownBlock = some g → g < W.heap.size) := fun g hg => (HVL.out g hg).2
    clear hI h1 h2 h3 h4 h8 hbA hseq HI0 hsp hN
    gi_wp2_with (first | (refine wpListIn_loadN rfl _ rfl b8 0 _ HX8.out rfl HN8.out.range ?_; generalize hKK : wpListIn (Fence.wide.inRound l') 0 Try.prog _ _ _ = KK; go_simp; subst hKK) | (refine wpListIn_build1N rfl _ rfl _ HX8.out rfl ?_; generalize hKK : wpListIn (Fence.wide.inRound l') 0 Try.prog _ _ _ = KK; go_simp; subst hKK) | (refine wpListIn_appN rfl _ _ rfl s B _ (L ++ pre) rfl HO1.out A.heap.size 1 x rfl HR1.out N HNN.out HLN.out HBA.out ?_))
    intro g' cap A2 hO2 hg2 hor2 hlt2
    obtain ⟨h1, h2, h3, h4⟩ := HH.out
    have hz4 : W.heap.size < Z.heap.size := by have := HZZ.out; omega
    have hub : (Value.slice au N cu).ownBlock ≠ some W.heap.size := fun e => by
      rcases h3 with e2 | e2
      · have := HVb.out _ (e2.symm.trans e); omega
      · have := e2 _ e; omega
    have hb4 : A2.heap[W.heap.size]? = some (.cells #[.slice au N cu] 99 (0, 0)) := by
      have hzs := HI.out.kb.1.size
      exact ((hg2.block W.heap.size (by simp; omega) (fun e => hub e.symm)).trans (Below.heap_alloc _ _ _ (by omega))).trans h1
    have d4 : A2.cell? ⟨W.heap.size, 0, none⟩ = some (.slice au N cu) := by rw [cell_of_row _ _ 0 _ _ _ hb4]; rfl
    have f4 : A2.frozen? ⟨W.heap.size, 0, none⟩ = false := frozen_of_row _ _ _ _ _ hb4
    have HE := Hid.intro' (HI.out.add HVb.out HG.out h1 h3 h4 (x := x) (.cells (x.c s).toArray 97) hg2 (by simpa using hor2) (n := N + 1) (cap := cap) (by rw [List.append_assoc]; exact hO2))
    clear hO2 hg2 hor2 hlt2 h1 h2 h3 h4 hub hb4 HH HI hcb HR1 HO1
    gi_wp2
    exact ⟨HE.out.2, HE.out.1⟩
  case done =>
    rintro Dd xs F A hD hFD rfl hI hK
    obtain ⟨u, h1, h2, h3, h4⟩ := hI.ex
    obtain ⟨au, cu, hu⟩ := h2.slice
    subst hu
    obtain ⟨M, hM⟩ : ∃ M, che s e (W.heap.size + 1) = M := ⟨_, rfl⟩
    have HMM := Hid.intro' hM
    rw [hM] at h1 h2 h3 h4 hI
    have hMl : M.length ≤ 129 := by rw [← hM]; exact che_len HWL.out
    obtain ⟨N, hN⟩ : ∃ N, (L ++ M).length = N := ⟨_, rfl⟩
    have HNN := Hid.intro' hN
    have hNl : N = L.length + M.length := by rw [← hN, List.length_append]
    rw [hN] at h1 h2 h3 h4
    have hcb : A.cell? ⟨W.heap.size, 0, none⟩ = some (.slice au N cu) := by rw [cell_of_row _ _ 0 _ _ _ h1]; rfl
    have HI := Hid.intro' hI
    have HH := Hid.intro' (And.intro h1 (And.intro h2 (And.intro h3 h4)))
    have HNL := Hid.intro' hNl
    by_cases hM0 : M = []
    · have hN0 : N = L.length := by rw [hNl, hM0]; rfl
      clear hNl
      subst hN0
      have hO3 : ON s A B (.slice au L.length cu) (L ++ M.reverse) := by rw [hM0] at h2 ⊢; exact h2
      have HO3 := Hid.intro' hO3
      clear h1 h2 h3 h4 hI hseq HI0 hM hN hO3
      have hsl : ∃ a c, ∀ w, (Instr.sliceAt 99 (.slice au L.length cu) (some (.int .i64 (L.length : Int))) none none).run Try.prog w = .ok (.slice a 0 c) w := ⟨_, _, fun w => by rw [slice_restN au L.length cu L.length w (Nat.le_refl _), Nat.sub_self]⟩
      obtain ⟨asl, csl, hsl⟩ := hsl
      gi_wp2_with fail
      refine ⟨rfl, (callsIn_wide.2 (rev_nil asl csl A)).mono ?_⟩
      rintro r A3 ⟨⟨vr, rfl⟩, rfl⟩
      have hk3 : Kp (fun k => (Value.slice au L.length cu).ownBlock = some k) A3 A3 := Kp.refl _ _
      have hO3 := HO3.out
      have hub : (Value.slice au L.length cu).ownBlock ≠ some W.heap.size := fun e => by
        have hz4 : W.heap.size < Z.heap.size := by have := HZZ.out; omega
        rcases HH.out.2.2.1 with e2 | e2
        · have := (HVL.out _ (e2.symm.trans e)).2; omega
        · have := e2 _ e; omega
      have hcb3 : A3.cell? ⟨W.heap.size, 0, none⟩ = some (.slice au L.length cu) := by
        rw [cell_of_row _ _ 0 _ _ _ ((hk3.block W.heap.size (Array.getElem?_eq_some_iff.1 HH.out.1).1 hub).trans HH.out.1)]; rfl
      have HK3 := Hid.intro' ((hk3.block Dd (Array.getElem?_eq_some_iff.1 hK).1 (fun e => HH.out.2.2.2 Dd e hFD)).trans hK)
      have HE := Hid.intro' (HI.out.fin (fun g hg => (HVL.out g hg).2) HH.out.2.2.1 HH.out.2.2.2 hD hFD hk3 hO3 HQZ.out (by omega) HBZ.out)
      rw [← HMM.out] at HE
      clear hk3 hO3 hub hcb HH HI hK HMM
      gi_wp2
      refine ⟨by simp, .inl ⟨_, _, rfl, run_takeDeferred HK3.out, ?_⟩⟩
      exact ⟨_, results_tmp rfl _ _ _, _, W.heap.size + 1, rfl, by omega, HE.out.1, HE.out.2.1, HE.out.2.2.1, HE.out.2.2.2.1, HE.out.2.2.2.2⟩
    · obtain ⟨g, hau⟩ : ∃ g, au = some ⟨g, 0, none⟩ := by
        rcases h2.form with ⟨_, e2⟩ | ⟨g, c, e2, _⟩
        · exact absurd (List.append_eq_nil_iff.1 e2).2 hM0
        · cases e2; exact ⟨g, rfl⟩
      have hcu : N ≤ cu := by
        rcases h2.form with ⟨_, e2⟩ | ⟨g, c, e2, _, _, h5, _⟩
        · exact absurd (List.append_eq_nil_iff.1 e2).2 hM0
        · cases e2; rw [hN] at h5; exact h5
      have hMp : 0 < M.length := List.length_pos_iff.2 hM0
      subst hau
      have hsl : ∃ a c, (M ≠ [] → a = some ⟨g, L.length * 136, none⟩) ∧ ∀ w, (Instr.sliceAt 99 (.slice (some ⟨g, 0, none⟩) N cu) (some (.int .i64 (L.length : Int))) none none).run Try.prog w = .ok (.slice a M.length c) w := ⟨restN (some ⟨g, 0, none⟩) cu L.length, cu - L.length, fun _ => by
          unfold restN
          rw [if_neg (by omega), Option.map_some, Addr.add_mid, Nat.zero_add], fun w => by
          rw [slice_restN _ N cu L.length w (by omega), show N - L.length = M.length by omega]⟩
      obtain ⟨asl, csl, hasl, hsl⟩ := hsl
      have HRV := Hid.intro' (revN_any (cap' := csl) h2 hasl (by omega))
      clear h1 h2 h3 h4 hI hseq HI0 hM hN hasl hNl hM0 hcu hMp
      gi_wp2_with fail
      refine ⟨rfl, (callsIn_wide.2 HRV.out).mono ?_⟩
      rintro r A3 ⟨⟨vr, rfl⟩, hO3, hk3'⟩
      have hk3 : Kp (fun k => (Value.slice (some ⟨g, 0, none⟩) N cu).ownBlock = some k) A A3 := hk3'.mono fun i _ e => by rw [e]; rfl
      clear hk3'
      have hub : (Value.slice (some ⟨g, 0, none⟩) N cu).ownBlock ≠ some W.heap.size := fun e => by
        have hz4 : W.heap.size < Z.heap.size := by have := HZZ.out; omega
        rcases HH.out.2.2.1 with e2 | e2
        · have := (HVL.out _ (e2.symm.trans e)).2; omega
        · have := e2 _ e; omega
      have hcb3 : A3.cell? ⟨W.heap.size, 0, none⟩ = some (.slice (some ⟨g, 0, none⟩) N cu) := by
        rw [cell_of_row _ _ 0 _ _ _ ((hk3.block W.heap.size (Array.getElem?_eq_some_iff.1 HH.out.1).1 hub).trans HH.out.1)]; rfl
      have HK3 := Hid.intro' ((hk3.block Dd (Array.getElem?_eq_some_iff.1 hK).1 (fun e => HH.out.2.2.2 Dd e hFD)).trans hK)
      have HE := Hid.intro' (HI.out.fin (fun g hg => (HVL.out g hg).2) HH.out.2.2.1 HH.out.2.2.2 hD hFD hk3 hO3 HQZ.out (by omega) HBZ.out)
      rw [← HMM.out] at HE
      clear hk3 hO3 hub hcb HH HI hK HMM
      gi_wp2
      refine ⟨by simp, .inl ⟨_, _, rfl, run_takeDeferred HK3.out, ?_⟩⟩
      exact ⟨_, results_tmp rfl _ _ _, _, W.heap.size + 1, rfl, by omega, HE.out.1, HE.out.2.1, HE.out.2.2.1, HE.out.2.2.2.1, HE.out.2.2.2.2⟩
  case stop =>
    rintro Dd c pre F A hD hFD hSp h hK
    exact h.elim
end
end Go.Proofs.Ytagmidolcdefiah
