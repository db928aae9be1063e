/- A tick of a car that goes on its way; and any tick, as the program has it. -/
import Derived.Test.YtjcccdlhdffbdacCarS
namespace Go.Proofs.Ytjcccdlhdffbdac
open Go.RowKit

theorem Bk.drew {w0 W : World} {S : Nat} {s : St} {c : Cr} {o : Bool} {g : Int} (h : Bk w0 W S s c o g) : Bk w0 W.drew S s c o g := ⟨h.bel.drew, h.sb, h.cb, h.mb, h.eb⟩
theorem Bk.below {w0 W W' : World} {S : Nat} {s : St} {c : Cr} {o : Bool} {g : Int} (h : Bk w0 W S s c o g) (hb : Below W.heap.size W W') : Bk w0 W' S s c o g :=
  ⟨below_class h.bel hb, h.sb.below' hb, h.cb.below' hb, h.mb.below' hb, h.eb.below' hb⟩
theorem Bk.all {w0 W : World} {S : Nat} {s : St} {c : Cr} {o : Bool} {g : Int} (h : Bk w0 W S s c o g) : SB W S s ∧ W.cell? ⟨S, 0, none⟩ = some (.int .i64 s.fl) ∧ W.cell? ⟨S, 1, none⟩ = some (.int .i64 s.ca) ∧ W.cell? ⟨S, 2, none⟩ = some (.int .i64 s.sta) ∧ W.cell? ⟨S, 3, none⟩ = some (.int .i64 s.ste) ∧ W.cell? ⟨S, 4, none⟩ = some (.int .i64 s.sto) ∧ W.cell? ⟨S, 5, none⟩ = some (.int .i64 s.opn) ∧ W.cell? ⟨S, 6, none⟩ = some (.int .i64 s.wai) ∧ W.cell? ⟨S, 7, none⟩ = some (.int .i64 s.clo) ∧ W.cell? ⟨S, 8, none⟩ = some (.int .i64 s.nud) ∧ W.cell? ⟨S, 9, none⟩ = some (.int .i64 s.age) ∧ W.cell? ⟨S, 10, none⟩ = some (.int .i64 s.sil) ∧ W.cell? ⟨S, 11, none⟩ = some (.int .i64 s.bud) ∧ W.cell? ⟨S, 12, none⟩ = some (.int .i64 s.per) ∧ W.cell? ⟨S + 1, 0, none⟩ = some (.int .i64 c.fl) ∧ W.cell? ⟨S + 1 + 1, 1, none⟩ = some (.int .i64 g) :=
  ⟨h.sb, h.sb.cell 0, h.sb.cell 1, h.sb.cell 2, h.sb.cell 3, h.sb.cell 4, h.sb.cell 5, h.sb.cell 6, h.sb.cell 7, h.sb.cell 8, h.sb.cell 9, h.sb.cell 10, h.sb.cell 11, h.sb.cell 12, h.cb.c0, h.mb.c1⟩

theorem Bk.set1 {w0 W : World} {S : Nat} {s : St} {c : Cr} {o : Bool} {g : Int} (h : Bk w0 W S s c o g) (hS : w0.heap.size ≤ S) (x : Int) : Bk w0 (W.setCell ⟨S + 1, 1, none⟩ (.int .i64 x)) S s ⟨c.fl, x, c.ti, c.d, c.fa⟩ o g :=
  have hu := Upd.set h.cb 1 (.int .i64 x)
  ⟨hu.below h.bel (by omega), hu.sb h.sb (by omega), h.cb.set1 x, hu.mb h.mb (by omega), hu.cb h.eb (by omega)⟩
theorem Bk.set2 {w0 W : World} {S : Nat} {s : St} {c : Cr} {o : Bool} {g : Int} (h : Bk w0 W S s c o g) (hS : w0.heap.size ≤ S) (x : Int) : Bk w0 (W.setCell ⟨S + 1, 2, none⟩ (.int .i64 x)) S s ⟨c.fl, c.tg, x, c.d, c.fa⟩ o g :=
  have hu := Upd.set h.cb 2 (.int .i64 x)
  ⟨hu.below h.bel (by omega), hu.sb h.sb (by omega), h.cb.set2 x, hu.mb h.mb (by omega), hu.cb h.eb (by omega)⟩

theorem Bk.all1 {w0 W : World} {S : Nat} {s : St} {c : Cr} {o : Bool} {g : Int} (h : Bk w0 W S s c o g) (hS : w0.heap.size ≤ S) {x : Int} : SB (W.setCell ⟨S + 1, 1, none⟩ (.int .i64 x)) S s ∧ (W.setCell ⟨S + 1, 1, none⟩ (.int .i64 x)).cell? ⟨S, 0, none⟩ = some (.int .i64 s.fl) ∧ (W.setCell ⟨S + 1, 1, none⟩ (.int .i64 x)).cell? ⟨S, 1, none⟩ = some (.int .i64 s.ca) ∧ (W.setCell ⟨S + 1, 1, none⟩ (.int .i64 x)).cell? ⟨S, 2, none⟩ = some (.int .i64 s.sta) ∧ (W.setCell ⟨S + 1, 1, none⟩ (.int .i64 x)).cell? ⟨S, 3, none⟩ = some (.int .i64 s.ste) ∧ (W.setCell ⟨S + 1, 1, none⟩ (.int .i64 x)).cell? ⟨S, 4, none⟩ = some (.int .i64 s.sto) ∧ (W.setCell ⟨S + 1, 1, none⟩ (.int .i64 x)).cell? ⟨S, 5, none⟩ = some (.int .i64 s.opn) ∧ (W.setCell ⟨S + 1, 1, none⟩ (.int .i64 x)).cell? ⟨S, 6, none⟩ = some (.int .i64 s.wai) ∧ (W.setCell ⟨S + 1, 1, none⟩ (.int .i64 x)).cell? ⟨S, 7, none⟩ = some (.int .i64 s.clo) ∧ (W.setCell ⟨S + 1, 1, none⟩ (.int .i64 x)).cell? ⟨S, 8, none⟩ = some (.int .i64 s.nud) ∧ (W.setCell ⟨S + 1, 1, none⟩ (.int .i64 x)).cell? ⟨S, 9, none⟩ = some (.int .i64 s.age) ∧ (W.setCell ⟨S + 1, 1, none⟩ (.int .i64 x)).cell? ⟨S, 10, none⟩ = some (.int .i64 s.sil) ∧ (W.setCell ⟨S + 1, 1, none⟩ (.int .i64 x)).cell? ⟨S, 11, none⟩ = some (.int .i64 s.bud) ∧ (W.setCell ⟨S + 1, 1, none⟩ (.int .i64 x)).cell? ⟨S, 12, none⟩ = some (.int .i64 s.per) ∧ (W.setCell ⟨S + 1, 1, none⟩ (.int .i64 x)).cell? ⟨S + 1, 0, none⟩ = some (.int .i64 c.fl) ∧ (W.setCell ⟨S + 1, 1, none⟩ (.int .i64 x)).cell? ⟨S + 1 + 1, 1, none⟩ = some (.int .i64 g) :=
  (h.set1 hS x).all
theorem Bk.all2 {w0 W : World} {S : Nat} {s : St} {c : Cr} {o : Bool} {g : Int} (h : Bk w0 W S s c o g) (hS : w0.heap.size ≤ S) {x y : Int} : SB ((W.setCell ⟨S + 1, 1, none⟩ (.int .i64 x)).setCell ⟨S + 1, 2, none⟩ (.int .i64 y)) S s ∧ ((W.setCell ⟨S + 1, 1, none⟩ (.int .i64 x)).setCell ⟨S + 1, 2, none⟩ (.int .i64 y)).cell? ⟨S, 0, none⟩ = some (.int .i64 s.fl) ∧ ((W.setCell ⟨S + 1, 1, none⟩ (.int .i64 x)).setCell ⟨S + 1, 2, none⟩ (.int .i64 y)).cell? ⟨S, 1, none⟩ = some (.int .i64 s.ca) ∧ ((W.setCell ⟨S + 1, 1, none⟩ (.int .i64 x)).setCell ⟨S + 1, 2, none⟩ (.int .i64 y)).cell? ⟨S, 2, none⟩ = some (.int .i64 s.sta) ∧ ((W.setCell ⟨S + 1, 1, none⟩ (.int .i64 x)).setCell ⟨S + 1, 2, none⟩ (.int .i64 y)).cell? ⟨S, 3, none⟩ = some (.int .i64 s.ste) ∧ ((W.setCell ⟨S + 1, 1, none⟩ (.int .i64 x)).setCell ⟨S + 1, 2, none⟩ (.int .i64 y)).cell? ⟨S, 4, none⟩ = some (.int .i64 s.sto) ∧ ((W.setCell ⟨S + 1, 1, none⟩ (.int .i64 x)).setCell ⟨S + 1, 2, none⟩ (.int .i64 y)).cell? ⟨S, 5, none⟩ = some (.int .i64 s.opn) ∧ ((W.setCell ⟨S + 1, 1, none⟩ (.int .i64 x)).setCell ⟨S + 1, 2, none⟩ (.int .i64 y)).cell? ⟨S, 6, none⟩ = some (.int .i64 s.wai) ∧ ((W.setCell ⟨S + 1, 1, none⟩ (.int .i64 x)).setCell ⟨S + 1, 2, none⟩ (.int .i64 y)).cell? ⟨S, 7, none⟩ = some (.int .i64 s.clo) ∧ ((W.setCell ⟨S + 1, 1, none⟩ (.int .i64 x)).setCell ⟨S + 1, 2, none⟩ (.int .i64 y)).cell? ⟨S, 8, none⟩ = some (.int .i64 s.nud) ∧ ((W.setCell ⟨S + 1, 1, none⟩ (.int .i64 x)).setCell ⟨S + 1, 2, none⟩ (.int .i64 y)).cell? ⟨S, 9, none⟩ = some (.int .i64 s.age) ∧ ((W.setCell ⟨S + 1, 1, none⟩ (.int .i64 x)).setCell ⟨S + 1, 2, none⟩ (.int .i64 y)).cell? ⟨S, 10, none⟩ = some (.int .i64 s.sil) ∧ ((W.setCell ⟨S + 1, 1, none⟩ (.int .i64 x)).setCell ⟨S + 1, 2, none⟩ (.int .i64 y)).cell? ⟨S, 11, none⟩ = some (.int .i64 s.bud) ∧ ((W.setCell ⟨S + 1, 1, none⟩ (.int .i64 x)).setCell ⟨S + 1, 2, none⟩ (.int .i64 y)).cell? ⟨S, 12, none⟩ = some (.int .i64 s.per) ∧ ((W.setCell ⟨S + 1, 1, none⟩ (.int .i64 x)).setCell ⟨S + 1, 2, none⟩ (.int .i64 y)).cell? ⟨S + 1, 0, none⟩ = some (.int .i64 c.fl) ∧ ((W.setCell ⟨S + 1, 1, none⟩ (.int .i64 x)).setCell ⟨S + 1, 2, none⟩ (.int .i64 y)).cell? ⟨S + 1 + 1, 1, none⟩ = some (.int .i64 g) :=
  ((h.set1 hS x).set2 hS y).all

set_option maxHeartbeats 2000000 in
theorem cstep_goes (s : St) (c : Cr) (g : Int) (b : Bool) (R : SM.Rt s) (hm : c.ti = 0) (hp : c.d.ph = 0) (hf : c.fa = false) (hg : g ≠ c.fl) (hh : CM.has s g = true) (w : World) :
    Calls Try.prog 16 #[.agg (sv s).toArray, .agg #[.int .i64 c.fl, .int .i64 c.tg, .int .i64 c.ti, .int .i64 c.d.ph, .int .i64 c.d.le, .int .i64 c.d.ru, .bool c.d.he, .bool c.fa], .agg #[.bool false, .int .i64 g], .bool b] w fun e w' => e = .returned (cv ⟨c.fl, g, SM.trav s c.fl g, c.d, c.fa⟩) ∧ Below w.heap.size w w' := by
  have H0 := Hid.intro' (Bk.new w s c false g)
  have HM := Hid.intro' hm
  have HP := Hid.intro' hp
  have HF := Hid.intro' hf
  have hq : (g != c.fl) = true := by simpa using hg
  clear hm hp hf hg
  go_enter Try.func16, Try.ntmps16
  go_wp2_with (refine wpList_loadC rfl _ rfl (w.heap.size + 1) rfl H0.out.cb ?_)
  refine (H0.out.keep (moves_f c HM.out _)).mono ?_
  rintro e W1 ⟨rfl, hk⟩
  have H1 := Hid.intro' hk
  clear hk H0
  go_wp2_with (refine wpList_loadC rfl _ rfl (w.heap.size + 1) rfl H1.out.cb ?_)
  refine (H1.out.keep (shutC_t c HP.out _)).mono ?_
  rintro e W2 ⟨rfl, hk⟩
  have H2 := Hid.intro' hk
  have m0 := hk.mb.c0
  have m1 := hk.mb.c1
  have c0 := hk.cb.c0
  have m7 : W2.cell? ⟨w.heap.size + 1, 7, none⟩ = some (.bool false) := by rw [← HF.out]; exact hk.cb.c7
  clear hk H1
  go_wp2_with (refine wpList_load23g rfl _ rfl w.heap.size s rfl H2.out.sb ?_)
  refine (H2.out.keep (has_t s g hh _)).mono ?_
  rintro e W3 ⟨rfl, hk⟩
  have H3 := Hid.intro' hk
  clear hk H2 m0 m1 m7 c0 hh
  go_wp2_with fail
  have hk := H3.out.drew
  go_region_held3 (fun w' => SB w' w.heap.size s ∧ w'.cell? ⟨w.heap.size, 0, none⟩ = some (.int .i64 s.fl) ∧ w'.cell? ⟨w.heap.size, 1, none⟩ = some (.int .i64 s.ca) ∧ w'.cell? ⟨w.heap.size, 2, none⟩ = some (.int .i64 s.sta) ∧ w'.cell? ⟨w.heap.size, 3, none⟩ = some (.int .i64 s.ste) ∧ w'.cell? ⟨w.heap.size, 4, none⟩ = some (.int .i64 s.sto) ∧ w'.cell? ⟨w.heap.size, 5, none⟩ = some (.int .i64 s.opn) ∧ w'.cell? ⟨w.heap.size, 6, none⟩ = some (.int .i64 s.wai) ∧ w'.cell? ⟨w.heap.size, 7, none⟩ = some (.int .i64 s.clo) ∧ w'.cell? ⟨w.heap.size, 8, none⟩ = some (.int .i64 s.nud) ∧ w'.cell? ⟨w.heap.size, 9, none⟩ = some (.int .i64 s.age) ∧ w'.cell? ⟨w.heap.size, 10, none⟩ = some (.int .i64 s.sil) ∧ w'.cell? ⟨w.heap.size, 11, none⟩ = some (.int .i64 s.bud) ∧ w'.cell? ⟨w.heap.size, 12, none⟩ = some (.int .i64 s.per) ∧ w'.cell? ⟨w.heap.size + 1, 0, none⟩ = some (.int .i64 c.fl) ∧ w'.cell? ⟨w.heap.size + 1 + 1, 1, none⟩ = some (.int .i64 g)) (first | exact Bk.all hk | exact Bk.all (Bk.below hk hb4) | exact Bk.all1 (Bk.below hk hb4) (Nat.le_refl _) | exact Bk.all2 (Bk.below hk hb4) (Nat.le_refl _)) (first | (go_at_call 30; refine (travel_any s R _ _ _).mono ?_; rintro e W4 ⟨rfl, hb4⟩; have d1 := (Bk.below hk hb4).cb.c1; have d2 := (Bk.below hk hb4).cb.c2; have e1 := (Bk.below hk hb4).cb.fr 1; have e2 := (Bk.below hk hb4).cb.fr 2))
  have hz := ((Bk.below hk hb4).set1 (Nat.le_refl _) g).set2 (Nat.le_refl _) (SM.trav s c.fl g)
  have H5 := Hid.intro' hz
  clear hz d1 d2 e1 e2
  generalize (W4.setCell _ _).setCell _ _ = W5 at H5 ⊢
  clear hb4 hk H3
  go_wp2_with (first | (refine wpList_loadC rfl _ rfl (w.heap.size + 1) rfl H5.out.cb ?_) | (refine wpList_storeC (c' := ⟨c.fl, g, SM.trav s c.fl g, c.d, c.fa⟩) rfl _ _ rfl (w.heap.size + 1 + 1 + 1) rfl rfl H5.out.eb ?_))
  intro W6 hu hc
  go_wp2
  exact bodyPost_ret (retC Try.results16 rfl hc) rfl ⟨rfl, hu.below H5.out.bel (by omega)⟩

/-- a tick of a right car -/
theorem cstep_any (s : St) (c : Cr) (h : CM.Rc s c) (o : Bool) (g : Int) (b : Bool) (w : World) :
    Calls Try.prog 16 #[.agg (sv s).toArray, .agg #[.int .i64 c.fl, .int .i64 c.tg, .int .i64 c.ti, .int .i64 c.d.ph, .int .i64 c.d.le, .int .i64 c.d.ru, .bool c.d.he, .bool c.fa], .agg #[.bool o, .int .i64 g], .bool b] w fun e w' => e = .returned (cv (CM.step s c o g b)) ∧ Below w.heap.size w w' := by
  unfold CM.step
  split
  · rename_i hm
    obtain ⟨_, m2, _, _⟩ := h.mo hm
    exact cstep_moves s c o g b m2 h.ti_bd.2 w
  · rename_i hm
    have hm' : c.ti = 0 := by omega
    split
    · rename_i hp
      exact cstep_door s c o g b h.rs h.rd hm' hp w
    · rename_i hp
      have hp' : c.d.ph = 0 := by omega
      split
      · rename_i hf
        exact cstep_fault s c o g b hm' hp' hf w
      · rename_i hf
        have hf' : c.fa = false := by simpa using hf
        split
        · rename_i ho
          subst ho
          exact cstep_opens s c g b h.rs h.rd hm' hp' hf' w
        · rename_i ho
          obtain rfl : o = false := by simpa using ho
          split
          · rename_i hg
            exact cstep_goes s c g b h.rs hm' hp' hf' hg.1 hg.2 w
          · rename_i hg
            exact cstep_stays s c g b hm' hp' hf' hg w

end Go.Proofs.Ytjcccdlhdffbdac
