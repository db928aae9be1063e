/- The walk of the law CarSteps. -/
import Derived.Test.YtjcccdlhdffbdacCarF
import Derived.Test.YtjcccdlhdffbdacCarT
import Derived.Test.YtjcccdlhdffbdacCarK
namespace Go.Proofs.Ytjcccdlhdffbdac
open Go.RowKit

theorem idle_t (c : Cr) (h : CM.idle c = true) (w : World) : Calls Try.prog 18 #[.agg #[.int .i64 c.fl, .int .i64 c.tg, .int .i64 c.ti, .int .i64 c.d.ph, .int .i64 c.d.le, .int .i64 c.d.ru, .bool c.d.he, .bool c.fa]] w fun e w' => e = .returned (.bool true) ∧ Below w.heap.size w w' := by
  have := idle_any c w
  rwa [h] at this
theorem idle_f (c : Cr) (h : CM.idle c = false) (w : World) : Calls Try.prog 18 #[.agg #[.int .i64 c.fl, .int .i64 c.tg, .int .i64 c.ti, .int .i64 c.d.ph, .int .i64 c.d.le, .int .i64 c.d.ru, .bool c.d.he, .bool c.fa]] w fun e w' => e = .returned (.bool false) ∧ Below w.heap.size w w' := by
  have := idle_any c w
  rwa [h] at this
theorem csafe_t {s : St} {a b : Cr} (h : sfB s a b = true) (w : World) : Calls Try.prog 17 #[.agg (sv s).toArray, .agg #[.int .i64 a.fl, .int .i64 a.tg, .int .i64 a.ti, .int .i64 a.d.ph, .int .i64 a.d.le, .int .i64 a.d.ru, .bool a.d.he, .bool a.fa], .agg #[.int .i64 b.fl, .int .i64 b.tg, .int .i64 b.ti, .int .i64 b.d.ph, .int .i64 b.d.le, .int .i64 b.d.ru, .bool b.d.he, .bool b.fa]] w fun e w' => e = .returned (.bool true) ∧ Below w.heap.size w w' := by
  have := csafe_any s a b w
  rwa [h] at this
/-- the blocks: the site, the car -/
structure B2 (w0 W : World) (S : Nat) (s : St) (c : Cr) : Prop where
  bel : Below w0.heap.size w0 W
  sb : SB W S s
  cb : CB W (S + 1) c
section
variable {w0 W W' : World} {S : Nat} {s : St} {c : Cr}
theorem B2.new (w : World) (s : St) (c : Cr) : B2 w ((w.alloc (.cells (sv s).toArray 23)).alloc (.cells #[.int .i64 c.fl, .int .i64 c.tg, .int .i64 c.ti, .int .i64 c.d.ph, .int .i64 c.d.le, .int .i64 c.d.ru, .bool c.d.he, .bool c.fa] 31)) w.heap.size s c :=
  ⟨((Below.refl _ w).alloc (Nat.le_refl _) _).alloc (by simp) _, (SB.new w s).alloc _, CB.new' _ c (by simp)⟩
theorem B2.below (h : B2 w0 W S s c) (hb : Below W.heap.size W W') : B2 w0 W' S s c := ⟨below_class h.bel hb, h.sb.below' hb, h.cb.below' hb⟩
theorem B2.keep {f : FuncId} {args : Array Value} {R : Ending → Prop} (h : B2 w0 W S s c)
    (hc : Calls Try.prog f args W fun e w' => R e ∧ Below W.heap.size W w') : Calls Try.prog f args W fun e w' => R e ∧ B2 w0 w' S s c :=
  hc.mono fun _ _ hh => ⟨hh.1, h.below hh.2⟩
theorem B2.alloc (h : B2 w0 W S s c) (x : Obj) : B2 w0 (W.alloc x) S s c := ⟨h.bel.alloc h.bel.size _, h.sb.alloc _, h.cb.alloc _⟩
theorem B2.fault (h : B2 w0 W S s c) (hS : w0.heap.size ≤ S) (f : Bool) : B2 w0 (W.setCell ⟨S + 1, 7, none⟩ (.bool f)) S s ⟨c.fl, c.tg, c.ti, c.d, f⟩ :=
  have hu := Upd.set h.cb 7 (.bool f)
  ⟨hu.below h.bel (by omega), hu.sb h.sb (by omega), h.cb.fault f⟩
/-- a block of a tick: the command, whether somebody stands in the door, whether there is a fault -/
def TB (W : World) (b : Nat) (o : Bool) (g : Int) (x f : Bool) : Prop := W.heap[b]? = some (.cells #[.bool o, .int .i64 g, .bool x, .bool f] 37 (0, 0))
variable {b : Nat} {o : Bool} {g : Int} {x f : Bool}
theorem TB.lt (H : TB W b o g x f) : b < W.heap.size := (Array.getElem?_eq_some_iff.1 H).1
theorem TB.c0 (H : TB W b o g x f) : W.cell? ⟨b, 0, none⟩ = some (.bool o) := by simp [World.cell?, show W.heap[b]? = _ from H]
theorem TB.c1 (H : TB W b o g x f) : W.cell? ⟨b, 1, none⟩ = some (.int .i64 g) := by simp [World.cell?, show W.heap[b]? = _ from H]
theorem TB.c2 (H : TB W b o g x f) : W.cell? ⟨b, 2, none⟩ = some (.bool x) := by simp [World.cell?, show W.heap[b]? = _ from H]
theorem TB.c3 (H : TB W b o g x f) : W.cell? ⟨b, 3, none⟩ = some (.bool f) := by simp [World.cell?, show W.heap[b]? = _ from H]
theorem TB.below' (H : TB W b o g x f) (hb : Below W.heap.size W W') : TB W' b o g x f := (hb.block b H.lt).trans H
theorem TB.new (W : World) (o : Bool) (g : Int) (x f : Bool) : TB (W.alloc (.cells #[.bool o, .int .i64 g, .bool x, .bool f] 37)) W.heap.size o g x f := World.alloc_heap_new W _
theorem TB.new' (W : World) (o : Bool) (g : Int) (x f : Bool) {n : Nat} (hn : W.heap.size = n) : TB (W.alloc (.cells #[.bool o, .int .i64 g, .bool x, .bool f] 37)) n o g x f := hn ▸ TB.new W o g x f
theorem TB.alloc (H : TB W b o g x f) (y : Obj) : TB (W.alloc y) b o g x f := (Below.heap_alloc W y b H.lt).trans H
theorem TB.other {b' : Nat} (H : TB W b o g x f) (hne : b ≠ b') (i : Nat) (v : Value) : TB (W.setCell ⟨b', i, none⟩ v) b o g x f := (Below.heap_setCell W ⟨b', i, none⟩ v b hne).trans H
end

theorem TB.range {W : World} {b : Nat} {o : Bool} {g : Int} {x f : Bool} (H : TB W b o g x f) : W.rangeAt b 0 [.bool o, .int .i64 g] := fun j v hv => by
  rcases j with _ | _ | j
  · simp at hv; subst hv; exact H.c0
  · simp at hv; subst hv; exact H.c1
  · simp at hv
section
variable {ops : Array Oper} {rest : List Oper} {op : Oper} {a : Act} {w : World} {Q : Exit → Act → World → Prop}
theorem wpList_loadTM (hgd : op.guard = none) (x : Operand) (ho : op.op = .load 35 x) (b : Nat) {m : Bool} {g : Int} {y f : Bool} (hx : a.eval x = .pointer (some ⟨b, 0, none⟩)) (h : TB w b m g y f)
    (hn : wpList Try.prog ops Q rest (a.put op.dst (.agg #[.bool m, .int .i64 g])) w) : wpList Try.prog ops Q (op :: rest) a w :=
  wpList_load_mid hgd 35 x ho b 0 hx _ _ h.range Try.underlying35 rfl infoM hn
theorem load4 (w : World) (b o : Nat) (v : Value) (h : w.cell? ⟨b, o, none⟩ = some v) : (Instr.loadAt 4 (.pointer (some ⟨b, o, none⟩))).run Try.prog w = .ok v w := by simp [go_sem, h]
theorem wpList_load4 (hgd : op.guard = none) (x : Operand) (ho : op.op = .load 4 x) (b k : Nat) {v : Value} (hx : a.eval x = .pointer (some ⟨b, k, none⟩)) (h : w.cell? ⟨b, k, none⟩ = some v)
    (hn : wpList Try.prog ops Q rest (a.put op.dst v) w) : wpList Try.prog ops Q (op :: rest) a w :=
  wpList_plain hgd fun _ hK => by
    unfold Oper.wp execOp
    simp only [ho, Sem.run_bind, Sem.run_pure, Result.andThen_ok, hx, load4 w b k v h]
    exact hK _ _ hn
end
theorem cstep_to {s : St} {c x : Cr} (h : CM.Rc s c) {o : Bool} {g : Int} {b : Bool} (hx : CM.step s c o g b = x) (w : World) :
    Calls Try.prog 16 #[.agg (sv s).toArray, .agg #[.int .i64 c.fl, .int .i64 c.tg, .int .i64 c.ti, .int .i64 c.d.ph, .int .i64 c.d.le, .int .i64 c.d.ru, .bool c.d.he, .bool c.fa], .agg #[.bool o, .int .i64 g], .bool b] w fun e w' => e = .returned (.agg #[.int .i64 x.fl, .int .i64 x.tg, .int .i64 x.ti, .int .i64 x.d.ph, .int .i64 x.d.le, .int .i64 x.d.ru, .bool x.d.he, .bool x.fa]) ∧ Below w.heap.size w w' := by
  subst hx
  exact cstep_any s c h o g b w
theorem rcstep_to {s : St} {c x : Cr} (h : CM.Rc s c) {o : Bool} {g : Int} {b : Bool} (hx : CM.step s c o g b = x) (w : World) :
    Calls Try.prog 15 #[.agg (sv s).toArray, .agg #[.int .i64 c.fl, .int .i64 c.tg, .int .i64 c.ti, .int .i64 c.d.ph, .int .i64 c.d.le, .int .i64 c.d.ru, .bool c.d.he, .bool c.fa], .agg #[.bool o, .int .i64 g], .bool b] w fun e w' => e = .returned (.agg #[.int .i64 x.fl, .int .i64 x.tg, .int .i64 x.ti, .int .i64 x.d.ph, .int .i64 x.d.le, .int .i64 x.d.ru, .bool x.d.he, .bool x.fa]) ∧ Below w.heap.size w w' := by
  subst hx
  exact rcstep_any s c h o g b w

set_option maxRecDepth 100000 in
set_option maxHeartbeats 4000000 in
theorem steps_of (s : St) (c0 : Cr) (a : Option Addr) (len cap : Nat) (w : World) (hlen : len = 0 ∨ ∃ b off, a = some ⟨b, off, none⟩ ∧ ∀ w', Below w.heap.size w w' → ∀ i, i < len → ∃ (o : Bool) (g : Int) (x f : Bool), w'.cell? ⟨b, off + i * 4, none⟩ = some (.bool o) ∧ w'.cell? ⟨b, off + i * 4 + 1, none⟩ = some (.int .i64 g) ∧ w'.cell? ⟨b, off + i * 4 + 2, none⟩ = some (.bool x) ∧ w'.cell? ⟨b, off + i * 4 + 3, none⟩ = some (.bool f)) :
    Calls Try.prog 4 #[.agg (sv s).toArray, .agg #[.int .i64 c0.fl, .int .i64 c0.tg, .int .i64 c0.ti, .int .i64 c0.d.ph, .int .i64 c0.d.le, .int .i64 c0.d.ru, .bool c0.d.he, .bool c0.fa], .slice a len cap] w fun e w' => e = .returned (.bool true) ∧ Below w.heap.size w w' := by
  have HLen := Hid.intro' hlen
  clear hlen
  have H0 := Hid.intro' (B2.new w s c0)
  go_enter Try.func4, Try.ntmps4
  go_wp2_with fail
  refine (H0.out.keep (cspeaks_any _)).mono ?_
  rintro e W1 ⟨rfl, hk⟩
  have H1 := Hid.intro' hk
  clear hk H0
  by_cases hl : 300 < len
  · have hl' : (300 : Int) < (len : Int) := by omega
    clear hl
    go_wp2
    go_ret
    exact ⟨rfl, H1.out.bel⟩
  · have hl' : (len : Int) ≤ 300 := by omega
    have hl2 : decide ((300 : Int) < (len : Int)) = false := by simp; omega
    have hl3 : decide (300 < len) = false := by simp; omega
    clear hl
    go_wp2_with fail
    have hs : ∀ w', Below W1.heap.size W1 w' → SB w' w.heap.size s := fun w' h' => H1.out.sb.below' h'
    have hc : ∀ w', Below W1.heap.size W1 w' → CB w' (w.heap.size + 1) c0 := fun w' h' => H1.out.cb.below' h'
    refine wp_region_quiet (C := fun w' => Below W1.heap.size W1 w') (by kernel_rfl) (by kernel_rfl) ((Below.refl _ W1).drew) ?_
    simp only []
    cases hr : crB s c0
    · unfold wpQuiet
      generalize hK : wpQuiet Try.prog _ _ _ _ = K
      rw [if_pos (by go_simp)]
      refine quiet_load23 _ w.heap.size s rfl rfl hs ?_
      go_simp
      subst hK
      unfold wpQuiet
      generalize hK : wpQuiet Try.prog _ _ _ _ = K
      rw [if_pos (by go_simp)]
      refine quiet_loadC _ (w.heap.size + 1) rfl rfl hc ?_
      go_simp
      subst hK
      unfold wpQuiet
      generalize hK : wpQuiet Try.prog _ _ _ _ = K
      go_simp
      refine ⟨_, fun w' hw => (cright_f s c0 hr w').mono fun e w'' hh => ⟨hh.1, below_class hw hh.2⟩, ?_⟩
      subst hK
      unfold wpQuiet
      generalize hK : wpQuiet Try.prog _ _ _ _ = K
      rw [if_pos (by go_simp)]
      refine quiet_load23 _ w.heap.size s rfl rfl hs ?_
      go_simp
      subst hK
      unfold wpQuiet
      generalize hK : wpQuiet Try.prog _ _ _ _ = K
      rw [if_pos (by go_simp)]
      refine quiet_loadC _ (w.heap.size + 1) rfl rfl hc ?_
      go_simp
      subst hK
      unfold wpQuiet
      generalize hK : wpQuiet Try.prog _ _ _ _ = K
      go_simp
      refine ⟨_, fun w' hw => (rcright_f s c0 hr w').mono fun e w'' hh => ⟨hh.1, below_class hw hh.2⟩, ?_⟩
      subst hK
      unfold wpQuiet
      generalize hK : wpQuiet Try.prog _ _ _ _ = K
      go_simp
      refine ⟨_, fun _ _ => rfl, ?_⟩
      subst hK
      refine wpQuiet_nil ?_
      intro W2 hb2
      have H2 := Hid.intro' (H1.out.below hb2)
      clear hb2 hs hc H1
      clear hl2 hl3
      go_wp2_with (first | (refine wpList_load23 rfl _ rfl w.heap.size s rfl H2.out.sb ?_) | (refine wpList_loadC rfl _ rfl (w.heap.size + 1) rfl H2.out.cb ?_))
      refine (H2.out.keep (rcright_f s c0 hr _)).mono ?_
      rintro e W3 ⟨rfl, hk⟩
      have HB3 := Hid.intro' hk.bel
      clear hk H2 hr
      go_wp2
      go_ret
      exact ⟨rfl, HB3.out⟩
    · unfold wpQuiet
      generalize hK : wpQuiet Try.prog _ _ _ _ = K
      rw [if_pos (by go_simp)]
      refine quiet_load23 _ w.heap.size s rfl rfl hs ?_
      go_simp
      subst hK
      unfold wpQuiet
      generalize hK : wpQuiet Try.prog _ _ _ _ = K
      rw [if_pos (by go_simp)]
      refine quiet_loadC _ (w.heap.size + 1) rfl rfl hc ?_
      go_simp
      subst hK
      unfold wpQuiet
      generalize hK : wpQuiet Try.prog _ _ _ _ = K
      go_simp
      refine ⟨_, fun w' hw => (cright_t s c0 hr w').mono fun e w'' hh => ⟨hh.1, below_class hw hh.2⟩, ?_⟩
      subst hK
      unfold wpQuiet
      generalize hK : wpQuiet Try.prog _ _ _ _ = K
      rw [if_pos (by go_simp)]
      refine quiet_load23 _ w.heap.size s rfl rfl hs ?_
      go_simp
      subst hK
      unfold wpQuiet
      generalize hK : wpQuiet Try.prog _ _ _ _ = K
      rw [if_pos (by go_simp)]
      refine quiet_loadC _ (w.heap.size + 1) rfl rfl hc ?_
      go_simp
      subst hK
      unfold wpQuiet
      generalize hK : wpQuiet Try.prog _ _ _ _ = K
      go_simp
      refine ⟨_, fun w' hw => (rcright_t s c0 hr w').mono fun e w'' hh => ⟨hh.1, below_class hw hh.2⟩, ?_⟩
      subst hK
      unfold wpQuiet
      generalize hK : wpQuiet Try.prog _ _ _ _ = K
      go_simp
      refine ⟨_, fun _ _ => rfl, ?_⟩
      subst hK
      refine wpQuiet_nil ?_
      intro W2 hb2
      have H2 := Hid.intro' (H1.out.below hb2)
      clear hb2 hs hc H1
      clear hl2 hl3
      go_wp2_with (first | (refine wpList_load23 rfl _ rfl w.heap.size s rfl H2.out.sb ?_) | (refine wpList_loadC rfl _ rfl (w.heap.size + 1) rfl H2.out.cb ?_))
      refine (H2.out.keep (rcright_t s c0 hr _)).mono ?_
      rintro e W3 ⟨rfl, hk⟩
      have H3 := Hid.intro' hk
      have hrc : CM.Rc s c0 := (crB_iff s c0).1 hr
      clear hk H2 hr
      go_wp2
      go_loopw [29] (fun i wr => ∃ (k : Nat) (c : Cr), k ≤ len ∧ i = .int .i64 k ∧ CM.Rc s c ∧ B2 w wr w.heap.size s c) (fun i _ => len - (intOf i).toNat)
      case atStart => exact ⟨0, c0, by omega, rfl, hrc, H3.out⟩
      case round =>
        obtain ⟨k, c, hk, rfl, hc, hb2⟩ := hrel
        clear H3 hrc
        have HB := Hid.intro' hb2
        clear hb2
        by_cases hlt : k < len
        · have hkI : (k : Int) < (len : Int) := by omega
          obtain ⟨p, off, rfl, hcell⟩ : ∃ b off, a = some ⟨b, off, none⟩ ∧ ∀ w', Below w.heap.size w w' → ∀ i, i < len → ∃ (o : Bool) (g : Int) (x f : Bool), w'.cell? ⟨b, off + i * 4, none⟩ = some (.bool o) ∧ w'.cell? ⟨b, off + i * 4 + 1, none⟩ = some (.int .i64 g) ∧ w'.cell? ⟨b, off + i * 4 + 2, none⟩ = some (.bool x) ∧ w'.cell? ⟨b, off + i * 4 + 3, none⟩ = some (.bool f) := HLen.out.resolve_left (by omega)
          obtain ⟨o, g, x, f, p0, p1, p2, p3⟩ := hcell wr HB.out.bel k hlt
          clear hcell
          have d7 := (HB.out.alloc (.cells #[.bool o, .int .i64 g, .bool x, .bool f] 37)).cb.c7
          have f7 := (HB.out.alloc (.cells #[.bool o, .int .i64 g, .bool x, .bool f] 37)).cb.fr 7
          have hT : w.heap.size + 1 < wr.heap.size := HB.out.cb.lt
          have H4 := Hid.intro' ((HB.out.fault (Nat.le_refl _) f).alloc (.cells #[.bool o, .int .i64 g, .bool x, .bool f] 37))
          have HT4 := Hid.intro' (TB.new' (wr.setCell ⟨w.heap.size + 1, 7, none⟩ (.bool f)) o g x f (n := wr.heap.size) (by simp))
          obtain ⟨y, hy⟩ : ∃ y, CM.step s ⟨c.fl, c.tg, c.ti, c.d, f⟩ o g x = y := ⟨_, rfl⟩
          have hc' : CM.Rc s ⟨c.fl, c.tg, c.ti, c.d, f⟩ := CM.rc_fault hc f
          have HY := Hid.intro' hy
          have hRy : CM.Rc s y := by rw [← hy]; exact CM.rc_step hc' o g x
          have HSf := Hid.intro' (sfB_true hc' hRy (by rw [← hy]; exact CM.sf_step hc' o g x))
          clear HB hc hy
          generalize hZ : wr.heap.size = T at HT4 hT
          go_wp2_with (first | (refine wpList_load23 rfl _ rfl w.heap.size s rfl H4.out.sb ?_) | (refine wpList_loadC (c := ⟨c.fl, c.tg, c.ti, c.d, f⟩) rfl _ rfl (w.heap.size + 1) rfl H4.out.cb ?_) | (refine wpList_loadTM rfl _ rfl T (by rw [← hZ]; rfl) HT4.out ?_) | (refine wpList_load4 rfl _ rfl T 2 (by rw [← hZ]; rfl) HT4.out.c2 ?_))
          clear d7 f7 p0 p1 p2 p3
          refine (rcstep_to hc' HY.out _).mono ?_
          rintro e W5 ⟨rfl, hb⟩
          have H5 := Hid.intro' (H4.out.below hb)
          have HT5 := Hid.intro' (HT4.out.below' hb)
          clear hb H4 HT4 hZ
          have H5a := Hid.intro' (H5.out.alloc (.cells #[.int .i64 y.fl, .int .i64 y.tg, .int .i64 y.ti, .int .i64 y.d.ph, .int .i64 y.d.le, .int .i64 y.d.ru, .bool y.d.he, .bool y.fa] 31))
          have HT5a := Hid.intro' (HT5.out.alloc (.cells #[.int .i64 y.fl, .int .i64 y.tg, .int .i64 y.ti, .int .i64 y.d.ph, .int .i64 y.d.le, .int .i64 y.d.ru, .bool y.d.he, .bool y.fa] 31))
          have HX5 := Hid.intro' (CB.new W5 y)
          go_wp2_with (first | (refine wpList_load23 rfl _ rfl w.heap.size s rfl H5a.out.sb ?_) | (refine wpList_loadC (c := ⟨c.fl, c.tg, c.ti, c.d, f⟩) rfl _ rfl (w.heap.size + 1) rfl H5a.out.cb ?_) | (refine wpList_loadTM rfl _ rfl T rfl HT5a.out ?_) | (refine wpList_load4 rfl _ rfl T 2 rfl HT5a.out.c2 ?_))
          refine (cstep_to hc' HY.out _).mono ?_
          rintro e W6 ⟨rfl, hb⟩
          have hX : w.heap.size + 1 < W5.heap.size := H5.out.cb.lt
          have H6 := Hid.intro' (H5a.out.below hb)
          have HX6 := Hid.intro' (HX5.out.below' hb)
          clear hb H5 H5a HT5 HT5a HX5
          generalize W5.heap.size = X at HX6 hX ⊢
          have hXY : X < W6.heap.size := HX6.out.lt
          have H7 := Hid.intro' (H6.out.alloc (.cells #[.int .i64 y.fl, .int .i64 y.tg, .int .i64 y.ti, .int .i64 y.d.ph, .int .i64 y.d.le, .int .i64 y.d.ru, .bool y.d.he, .bool y.fa] 31))
          have HX7 := Hid.intro' (HX6.out.alloc (.cells #[.int .i64 y.fl, .int .i64 y.tg, .int .i64 y.ti, .int .i64 y.d.ph, .int .i64 y.d.le, .int .i64 y.d.ru, .bool y.d.he, .bool y.fa] 31))
          have HY7 := Hid.intro' (CB.new W6 y)
          clear H6 HX6
          go_wp2_with fail
          generalize W6.alloc _ = W7 at H7 HX7 HY7 ⊢
          generalize W6.heap.size = Y at HY7 hXY ⊢
          have hs : ∀ w', Below W7.heap.size W7 w' → SB w' w.heap.size s := fun w' h' => H7.out.sb.below' h'
          have hc : ∀ w', Below W7.heap.size W7 w' → CB w' (w.heap.size + 1) ⟨c.fl, c.tg, c.ti, c.d, f⟩ := fun w' h' => H7.out.cb.below' h'
          have hx : ∀ w', Below W7.heap.size W7 w' → CB w' X y := fun w' h' => HX7.out.below' h'
          have hy : ∀ w', Below W7.heap.size W7 w' → CB w' Y y := fun w' h' => HY7.out.below' h'
          have q2 : ∀ w', Below W7.heap.size W7 w' → w'.cell? ⟨X, 2, none⟩ = some (.int .i64 y.ti) := fun w' h' => (HX7.out.below' h').c2
          have q3 : ∀ w', Below W7.heap.size W7 w' → w'.cell? ⟨X, 3, none⟩ = some (.int .i64 y.d.ph) := fun w' h' => (HX7.out.below' h').c3
          have hq := eqC y
          have hcr : crB s y = true := crB_true hRy
          refine wp_region_quiet (C := fun w' => Below W7.heap.size W7 w') (by kernel_rfl) (by kernel_rfl) ((Below.refl _ W7).drew) ?_
          simp only []
          rcases Bool.eq_false_or_eq_true (y.ti == 0) with k1 | k1
          · rcases Bool.eq_false_or_eq_true (y.d.ph == 0) with k2 | k2
            · have hid : CM.idle y = true := by unfold CM.idle; simp only [beq_iff_eq] at k1 k2; simp [k1, k2]
              unfold wpQuiet
              generalize hK : wpQuiet Try.prog _ _ _ _ = K
              rw [if_pos (by go_simp)]
              refine quiet_loadC _ X rfl rfl hx ?_
              go_simp
              subst hK
              unfold wpQuiet
              generalize hK : wpQuiet Try.prog _ _ _ _ = K
              rw [if_pos (by go_simp)]
              refine quiet_loadC _ Y rfl rfl hy ?_
              go_simp
              subst hK
              unfold wpQuiet
              generalize hK : wpQuiet Try.prog _ _ _ _ = K
              go_simp
              refine ⟨_, fun _ _ => rfl, ?_⟩
              subst hK
              unfold wpQuiet
              generalize hK : wpQuiet Try.prog _ _ _ _ = K
              go_simp
              refine ⟨_, fun _ _ => rfl, ?_⟩
              subst hK
              unfold wpQuiet
              generalize hK : wpQuiet Try.prog _ _ _ _ = K
              rw [if_pos (by go_simp)]
              refine quiet_load23 _ w.heap.size s rfl rfl hs ?_
              go_simp
              subst hK
              unfold wpQuiet
              generalize hK : wpQuiet Try.prog _ _ _ _ = K
              rw [if_pos (by go_simp)]
              refine quiet_loadC _ Y rfl rfl hy ?_
              go_simp
              subst hK
              unfold wpQuiet
              generalize hK : wpQuiet Try.prog _ _ _ _ = K
              go_simp
              refine ⟨_, fun w' hw => (cright_t s y hcr w').mono fun e w'' hh => ⟨hh.1, below_class hw hh.2⟩, ?_⟩
              subst hK
              unfold wpQuiet
              generalize hK : wpQuiet Try.prog _ _ _ _ = K
              go_simp
              refine ⟨_, fun _ _ => rfl, ?_⟩
              subst hK
              unfold wpQuiet
              generalize hK : wpQuiet Try.prog _ _ _ _ = K
              go_simp
              refine ⟨_, fun _ _ => rfl, ?_⟩
              subst hK
              unfold wpQuiet
              generalize hK : wpQuiet Try.prog _ _ _ _ = K
              go_simp
              refine ⟨_, fun _ _ => rfl, ?_⟩
              subst hK
              unfold wpQuiet
              generalize hK : wpQuiet Try.prog _ _ _ _ = K
              rw [if_pos (by go_simp)]
              refine quiet_load23 _ w.heap.size s rfl rfl hs ?_
              go_simp
              subst hK
              unfold wpQuiet
              generalize hK : wpQuiet Try.prog _ _ _ _ = K
              rw [if_pos (by go_simp)]
              refine quiet_loadC _ (w.heap.size + 1) rfl rfl hc ?_
              go_simp
              subst hK
              unfold wpQuiet
              generalize hK : wpQuiet Try.prog _ _ _ _ = K
              rw [if_pos (by go_simp)]
              refine quiet_loadC _ Y rfl rfl hy ?_
              go_simp
              subst hK
              unfold wpQuiet
              generalize hK : wpQuiet Try.prog _ _ _ _ = K
              go_simp
              refine ⟨_, fun w' hw => (csafe_t HSf.out w').mono fun e w'' hh => ⟨hh.1, below_class hw hh.2⟩, ?_⟩
              subst hK
              unfold wpQuiet
              generalize hK : wpQuiet Try.prog _ _ _ _ = K
              go_simp
              refine ⟨_, fun _ _ => rfl, ?_⟩
              subst hK
              unfold wpQuiet
              generalize hK : wpQuiet Try.prog _ _ _ _ = K
              go_simp
              refine ⟨_, fun _ _ => rfl, ?_⟩
              subst hK
              unfold wpQuiet
              generalize hK : wpQuiet Try.prog _ _ _ _ = K
              go_simp
              refine ⟨_, fun _ _ => rfl, ?_⟩
              subst hK
              unfold wpQuiet
              generalize hK : wpQuiet Try.prog _ _ _ _ = K
              rw [if_pos (by go_simp)]
              refine quiet_loadC _ Y rfl rfl hy ?_
              go_simp
              subst hK
              unfold wpQuiet
              generalize hK : wpQuiet Try.prog _ _ _ _ = K
              go_simp
              refine ⟨_, fun w' hw => (idle_t y hid w').mono fun e w'' hh => ⟨hh.1, below_class hw hh.2⟩, ?_⟩
              subst hK
              unfold wpQuiet
              generalize hK : wpQuiet Try.prog _ _ _ _ = K
              go_simp
              refine ⟨_, fun _ _ => rfl, ?_⟩
              subst hK
              unfold wpQuiet
              generalize hK : wpQuiet Try.prog _ _ _ _ = K
              rw [if_pos (by go_simp)]
              refine quiet_load3 _ _ _ rfl rfl q2 ?_
              go_simp
              subst hK
              unfold wpQuiet
              generalize hK : wpQuiet Try.prog _ _ _ _ = K
              go_simp
              refine ⟨_, fun _ _ => rfl, ?_⟩
              subst hK
              unfold wpQuiet
              generalize hK : wpQuiet Try.prog _ _ _ _ = K
              go_simp
              refine ⟨_, fun _ _ => rfl, ?_⟩
              subst hK
              unfold wpQuiet
              generalize hK : wpQuiet Try.prog _ _ _ _ = K
              go_simp
              refine ⟨_, fun _ _ => rfl, ?_⟩
              subst hK
              unfold wpQuiet
              generalize hK : wpQuiet Try.prog _ _ _ _ = K
              go_simp
              refine ⟨_, fun _ _ => rfl, ?_⟩
              subst hK
              unfold wpQuiet
              generalize hK : wpQuiet Try.prog _ _ _ _ = K
              rw [if_pos (by go_simp)]
              refine quiet_load3 _ _ _ rfl rfl q3 ?_
              go_simp
              subst hK
              unfold wpQuiet
              generalize hK : wpQuiet Try.prog _ _ _ _ = K
              go_simp
              refine ⟨_, fun _ _ => rfl, ?_⟩
              subst hK
              unfold wpQuiet
              generalize hK : wpQuiet Try.prog _ _ _ _ = K
              go_simp
              refine ⟨_, fun _ _ => rfl, ?_⟩
              subst hK
              unfold wpQuiet
              generalize hK : wpQuiet Try.prog _ _ _ _ = K
              go_simp
              refine ⟨_, fun _ _ => rfl, ?_⟩
              subst hK
              unfold wpQuiet
              generalize hK : wpQuiet Try.prog _ _ _ _ = K
              go_simp
              refine ⟨_, fun _ _ => rfl, ?_⟩
              subst hK
              refine wpQuiet_nil ?_
              intro W8 hb8
              have H8 := Hid.intro' (H7.out.below hb8)
              have HY8 := Hid.intro' (HY7.out.below' hb8)
              clear hb8 hs hc hx hy q2 q3 hq hcr H7 HX7 HY7 hid k1 k2
              go_wp2_with (first | (refine wpList_loadC (c := y) rfl _ rfl Y rfl HY8.out ?_) | (refine wpList_storeC (c' := y) rfl _ _ rfl (w.heap.size + 1) rfl rfl H8.out.cb ?_))
              intro W9 hu hc9
              have H9 := Hid.intro' (show B2 w W9 w.heap.size s y from ⟨hu.below H8.out.bel (by omega), hu.sb H8.out.sb (by omega), hc9⟩)
              clear hu hc9 H8 HY8
              go_wp2
              go_roundw
              case rel => exact ⟨k + 1, y, by omega, by go_num, hRy, H9.out⟩
              case measure => simp [intOf]; omega
            · have hid : CM.idle y = false := by unfold CM.idle; simp only [beq_eq_false_iff_ne] at k2; simp [k2]
              unfold wpQuiet
              generalize hK : wpQuiet Try.prog _ _ _ _ = K
              rw [if_pos (by go_simp)]
              refine quiet_loadC _ X rfl rfl hx ?_
              go_simp
              subst hK
              unfold wpQuiet
              generalize hK : wpQuiet Try.prog _ _ _ _ = K
              rw [if_pos (by go_simp)]
              refine quiet_loadC _ Y rfl rfl hy ?_
              go_simp
              subst hK
              unfold wpQuiet
              generalize hK : wpQuiet Try.prog _ _ _ _ = K
              go_simp
              refine ⟨_, fun _ _ => rfl, ?_⟩
              subst hK
              unfold wpQuiet
              generalize hK : wpQuiet Try.prog _ _ _ _ = K
              go_simp
              refine ⟨_, fun _ _ => rfl, ?_⟩
              subst hK
              unfold wpQuiet
              generalize hK : wpQuiet Try.prog _ _ _ _ = K
              rw [if_pos (by go_simp)]
              refine quiet_load23 _ w.heap.size s rfl rfl hs ?_
              go_simp
              subst hK
              unfold wpQuiet
              generalize hK : wpQuiet Try.prog _ _ _ _ = K
              rw [if_pos (by go_simp)]
              refine quiet_loadC _ Y rfl rfl hy ?_
              go_simp
              subst hK
              unfold wpQuiet
              generalize hK : wpQuiet Try.prog _ _ _ _ = K
              go_simp
              refine ⟨_, fun w' hw => (cright_t s y hcr w').mono fun e w'' hh => ⟨hh.1, below_class hw hh.2⟩, ?_⟩
              subst hK
              unfold wpQuiet
              generalize hK : wpQuiet Try.prog _ _ _ _ = K
              go_simp
              refine ⟨_, fun _ _ => rfl, ?_⟩
              subst hK
              unfold wpQuiet
              generalize hK : wpQuiet Try.prog _ _ _ _ = K
              go_simp
              refine ⟨_, fun _ _ => rfl, ?_⟩
              subst hK
              unfold wpQuiet
              generalize hK : wpQuiet Try.prog _ _ _ _ = K
              go_simp
              refine ⟨_, fun _ _ => rfl, ?_⟩
              subst hK
              unfold wpQuiet
              generalize hK : wpQuiet Try.prog _ _ _ _ = K
              rw [if_pos (by go_simp)]
              refine quiet_load23 _ w.heap.size s rfl rfl hs ?_
              go_simp
              subst hK
              unfold wpQuiet
              generalize hK : wpQuiet Try.prog _ _ _ _ = K
              rw [if_pos (by go_simp)]
              refine quiet_loadC _ (w.heap.size + 1) rfl rfl hc ?_
              go_simp
              subst hK
              unfold wpQuiet
              generalize hK : wpQuiet Try.prog _ _ _ _ = K
              rw [if_pos (by go_simp)]
              refine quiet_loadC _ Y rfl rfl hy ?_
              go_simp
              subst hK
              unfold wpQuiet
              generalize hK : wpQuiet Try.prog _ _ _ _ = K
              go_simp
              refine ⟨_, fun w' hw => (csafe_t HSf.out w').mono fun e w'' hh => ⟨hh.1, below_class hw hh.2⟩, ?_⟩
              subst hK
              unfold wpQuiet
              generalize hK : wpQuiet Try.prog _ _ _ _ = K
              go_simp
              refine ⟨_, fun _ _ => rfl, ?_⟩
              subst hK
              unfold wpQuiet
              generalize hK : wpQuiet Try.prog _ _ _ _ = K
              go_simp
              refine ⟨_, fun _ _ => rfl, ?_⟩
              subst hK
              unfold wpQuiet
              generalize hK : wpQuiet Try.prog _ _ _ _ = K
              go_simp
              refine ⟨_, fun _ _ => rfl, ?_⟩
              subst hK
              unfold wpQuiet
              generalize hK : wpQuiet Try.prog _ _ _ _ = K
              rw [if_pos (by go_simp)]
              refine quiet_loadC _ Y rfl rfl hy ?_
              go_simp
              subst hK
              unfold wpQuiet
              generalize hK : wpQuiet Try.prog _ _ _ _ = K
              go_simp
              refine ⟨_, fun w' hw => (idle_f y hid w').mono fun e w'' hh => ⟨hh.1, below_class hw hh.2⟩, ?_⟩
              subst hK
              unfold wpQuiet
              generalize hK : wpQuiet Try.prog _ _ _ _ = K
              go_simp
              refine ⟨_, fun _ _ => rfl, ?_⟩
              subst hK
              unfold wpQuiet
              generalize hK : wpQuiet Try.prog _ _ _ _ = K
              rw [if_pos (by go_simp)]
              refine quiet_load3 _ _ _ rfl rfl q2 ?_
              go_simp
              subst hK
              unfold wpQuiet
              generalize hK : wpQuiet Try.prog _ _ _ _ = K
              go_simp
              refine ⟨_, fun _ _ => rfl, ?_⟩
              subst hK
              unfold wpQuiet
              generalize hK : wpQuiet Try.prog _ _ _ _ = K
              go_simp
              refine ⟨_, fun _ _ => rfl, ?_⟩
              subst hK
              unfold wpQuiet
              generalize hK : wpQuiet Try.prog _ _ _ _ = K
              go_simp
              refine ⟨_, fun _ _ => rfl, ?_⟩
              subst hK
              unfold wpQuiet
              generalize hK : wpQuiet Try.prog _ _ _ _ = K
              go_simp
              refine ⟨_, fun _ _ => rfl, ?_⟩
              subst hK
              unfold wpQuiet
              generalize hK : wpQuiet Try.prog _ _ _ _ = K
              rw [if_pos (by go_simp)]
              refine quiet_load3 _ _ _ rfl rfl q3 ?_
              go_simp
              subst hK
              unfold wpQuiet
              generalize hK : wpQuiet Try.prog _ _ _ _ = K
              go_simp
              refine ⟨_, fun _ _ => rfl, ?_⟩
              subst hK
              unfold wpQuiet
              generalize hK : wpQuiet Try.prog _ _ _ _ = K
              go_simp
              refine ⟨_, fun _ _ => rfl, ?_⟩
              subst hK
              unfold wpQuiet
              generalize hK : wpQuiet Try.prog _ _ _ _ = K
              go_simp
              refine ⟨_, fun _ _ => rfl, ?_⟩
              subst hK
              unfold wpQuiet
              generalize hK : wpQuiet Try.prog _ _ _ _ = K
              go_simp
              refine ⟨_, fun _ _ => rfl, ?_⟩
              subst hK
              refine wpQuiet_nil ?_
              intro W8 hb8
              have H8 := Hid.intro' (H7.out.below hb8)
              have HY8 := Hid.intro' (HY7.out.below' hb8)
              clear hb8 hs hc hx hy q2 q3 hq hcr H7 HX7 HY7 hid k1 k2
              go_wp2_with (first | (refine wpList_loadC (c := y) rfl _ rfl Y rfl HY8.out ?_) | (refine wpList_storeC (c' := y) rfl _ _ rfl (w.heap.size + 1) rfl rfl H8.out.cb ?_))
              intro W9 hu hc9
              have H9 := Hid.intro' (show B2 w W9 w.heap.size s y from ⟨hu.below H8.out.bel (by omega), hu.sb H8.out.sb (by omega), hc9⟩)
              clear hu hc9 H8 HY8
              go_wp2
              go_roundw
              case rel => exact ⟨k + 1, y, by omega, by go_num, hRy, H9.out⟩
              case measure => simp [intOf]; omega
          · have hid : CM.idle y = false := by unfold CM.idle; simp only [beq_eq_false_iff_ne] at k1; simp [k1]
            unfold wpQuiet
            generalize hK : wpQuiet Try.prog _ _ _ _ = K
            rw [if_pos (by go_simp)]
            refine quiet_loadC _ X rfl rfl hx ?_
            go_simp
            subst hK
            unfold wpQuiet
            generalize hK : wpQuiet Try.prog _ _ _ _ = K
            rw [if_pos (by go_simp)]
            refine quiet_loadC _ Y rfl rfl hy ?_
            go_simp
            subst hK
            unfold wpQuiet
            generalize hK : wpQuiet Try.prog _ _ _ _ = K
            go_simp
            refine ⟨_, fun _ _ => rfl, ?_⟩
            subst hK
            unfold wpQuiet
            generalize hK : wpQuiet Try.prog _ _ _ _ = K
            go_simp
            refine ⟨_, fun _ _ => rfl, ?_⟩
            subst hK
            unfold wpQuiet
            generalize hK : wpQuiet Try.prog _ _ _ _ = K
            rw [if_pos (by go_simp)]
            refine quiet_load23 _ w.heap.size s rfl rfl hs ?_
            go_simp
            subst hK
            unfold wpQuiet
            generalize hK : wpQuiet Try.prog _ _ _ _ = K
            rw [if_pos (by go_simp)]
            refine quiet_loadC _ Y rfl rfl hy ?_
            go_simp
            subst hK
            unfold wpQuiet
            generalize hK : wpQuiet Try.prog _ _ _ _ = K
            go_simp
            refine ⟨_, fun w' hw => (cright_t s y hcr w').mono fun e w'' hh => ⟨hh.1, below_class hw hh.2⟩, ?_⟩
            subst hK
            unfold wpQuiet
            generalize hK : wpQuiet Try.prog _ _ _ _ = K
            go_simp
            refine ⟨_, fun _ _ => rfl, ?_⟩
            subst hK
            unfold wpQuiet
            generalize hK : wpQuiet Try.prog _ _ _ _ = K
            go_simp
            refine ⟨_, fun _ _ => rfl, ?_⟩
            subst hK
            unfold wpQuiet
            generalize hK : wpQuiet Try.prog _ _ _ _ = K
            go_simp
            refine ⟨_, fun _ _ => rfl, ?_⟩
            subst hK
            unfold wpQuiet
            generalize hK : wpQuiet Try.prog _ _ _ _ = K
            rw [if_pos (by go_simp)]
            refine quiet_load23 _ w.heap.size s rfl rfl hs ?_
            go_simp
            subst hK
            unfold wpQuiet
            generalize hK : wpQuiet Try.prog _ _ _ _ = K
            rw [if_pos (by go_simp)]
            refine quiet_loadC _ (w.heap.size + 1) rfl rfl hc ?_
            go_simp
            subst hK
            unfold wpQuiet
            generalize hK : wpQuiet Try.prog _ _ _ _ = K
            rw [if_pos (by go_simp)]
            refine quiet_loadC _ Y rfl rfl hy ?_
            go_simp
            subst hK
            unfold wpQuiet
            generalize hK : wpQuiet Try.prog _ _ _ _ = K
            go_simp
            refine ⟨_, fun w' hw => (csafe_t HSf.out w').mono fun e w'' hh => ⟨hh.1, below_class hw hh.2⟩, ?_⟩
            subst hK
            unfold wpQuiet
            generalize hK : wpQuiet Try.prog _ _ _ _ = K
            go_simp
            refine ⟨_, fun _ _ => rfl, ?_⟩
            subst hK
            unfold wpQuiet
            generalize hK : wpQuiet Try.prog _ _ _ _ = K
            go_simp
            refine ⟨_, fun _ _ => rfl, ?_⟩
            subst hK
            unfold wpQuiet
            generalize hK : wpQuiet Try.prog _ _ _ _ = K
            go_simp
            refine ⟨_, fun _ _ => rfl, ?_⟩
            subst hK
            unfold wpQuiet
            generalize hK : wpQuiet Try.prog _ _ _ _ = K
            rw [if_pos (by go_simp)]
            refine quiet_loadC _ Y rfl rfl hy ?_
            go_simp
            subst hK
            unfold wpQuiet
            generalize hK : wpQuiet Try.prog _ _ _ _ = K
            go_simp
            refine ⟨_, fun w' hw => (idle_f y hid w').mono fun e w'' hh => ⟨hh.1, below_class hw hh.2⟩, ?_⟩
            subst hK
            unfold wpQuiet
            generalize hK : wpQuiet Try.prog _ _ _ _ = K
            go_simp
            refine ⟨_, fun _ _ => rfl, ?_⟩
            subst hK
            unfold wpQuiet
            generalize hK : wpQuiet Try.prog _ _ _ _ = K
            rw [if_pos (by go_simp)]
            refine quiet_load3 _ _ _ rfl rfl q2 ?_
            go_simp
            subst hK
            unfold wpQuiet
            generalize hK : wpQuiet Try.prog _ _ _ _ = K
            go_simp
            refine ⟨_, fun _ _ => rfl, ?_⟩
            subst hK
            unfold wpQuiet
            generalize hK : wpQuiet Try.prog _ _ _ _ = K
            go_simp
            refine ⟨_, fun _ _ => rfl, ?_⟩
            subst hK
            unfold wpQuiet
            generalize hK : wpQuiet Try.prog _ _ _ _ = K
            go_simp
            subst hK
            unfold wpQuiet
            generalize hK : wpQuiet Try.prog _ _ _ _ = K
            go_simp
            subst hK
            unfold wpQuiet
            generalize hK : wpQuiet Try.prog _ _ _ _ = K
            go_simp
            subst hK
            unfold wpQuiet
            generalize hK : wpQuiet Try.prog _ _ _ _ = K
            go_simp
            subst hK
            unfold wpQuiet
            generalize hK : wpQuiet Try.prog _ _ _ _ = K
            go_simp
            refine ⟨_, fun _ _ => rfl, ?_⟩
            subst hK
            unfold wpQuiet
            generalize hK : wpQuiet Try.prog _ _ _ _ = K
            go_simp
            refine ⟨_, fun _ _ => rfl, ?_⟩
            subst hK
            unfold wpQuiet
            generalize hK : wpQuiet Try.prog _ _ _ _ = K
            go_simp
            refine ⟨_, fun _ _ => rfl, ?_⟩
            subst hK
            refine wpQuiet_nil ?_
            intro W8 hb8
            have H8 := Hid.intro' (H7.out.below hb8)
            have HY8 := Hid.intro' (HY7.out.below' hb8)
            clear hb8 hs hc hx hy q2 q3 hq hcr H7 HX7 HY7 hid k1
            go_wp2_with (first | (refine wpList_loadC (c := y) rfl _ rfl Y rfl HY8.out ?_) | (refine wpList_storeC (c' := y) rfl _ _ rfl (w.heap.size + 1) rfl rfl H8.out.cb ?_))
            intro W9 hu hc9
            have H9 := Hid.intro' (show B2 w W9 w.heap.size s y from ⟨hu.below H8.out.bel (by omega), hu.sb H8.out.sb (by omega), hc9⟩)
            clear hu hc9 H8 HY8
            go_wp2
            go_roundw
            case rel => exact ⟨k + 1, y, by omega, by go_num, hRy, H9.out⟩
            case measure => simp [intOf]; omega
        · obtain rfl : k = len := by omega
          go_wp2
          go_ret
          exact ⟨rfl, HB.out.bel⟩

end Go.Proofs.Ytjcccdlhdffbdac
