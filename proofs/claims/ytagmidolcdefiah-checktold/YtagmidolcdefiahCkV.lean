/- The marks of a node and of what is behind it, as the document looks at them. -/
import Derived.Test.YtagmidolcdefiahPk11
import Derived.Test.YtagmidolcdefiahPk10
import Derived.Test.YtagmidolcdefiahBdD
namespace Go.Proofs.Ytagmidolcdefiah
open Go.RowKit Go.Shelf
theorem calm_load27r {W0 : World} {K : Act → Prop} {o : Oper} {a : Act} (x : Operand) (b : Nat) (s : St) (vc vw : Value) (ho : o.op = .load 27 x) (hx : a.eval x = .pointer (some ⟨b, 0, none⟩)) (hr : ∀ w, Below W0.heap.size W0 w → w.rangeAt b 0 (nv s vc vw))
    (h : K (a.put o.dst (.agg (nv s vc vw).toArray))) : Oper.calm Try.prog W0 o a K :=
  calm_val _ (fun w hw => by unfold execOp; simp only [ho, hx, Sem.run_bind, Sem.run_pure, Result.andThen_ok, load27 w b s vc vw (hr w hw)]) h
/-- what is written is the one block -/
def Kxb (xb : Nat) (w w' : World) : Prop := Kp (fun i => i = xb) w w'
section
variable {xb : Nat} {w w' w'' : World} {v : Value}
theorem Kxb.refl (xb : Nat) (w : World) : Kxb xb w w := Kp.refl _ w
theorem Kxb.trans (h : Kxb xb w w') (k : Kxb xb w' w'') : Kxb xb w w'' := Kp.trans h k fun _ _ e => e
theorem Kxb.below (xb : Nat) (h : Below w.heap.size w w') : Kxb xb w w' := Kp.ofBelow _ h
theorem Kxb.set (xb i : Nat) (v : Value) (w : World) : Kxb xb w (w.setCell ⟨xb, i, none⟩ v) := (Kp.refl _ w).set xb i v fun _ => rfl
theorem Kxb.rl {p : List (List Int)} (h : Kxb xb w w') (hp : RL (fun g => g ≠ xb) w v p) : RL (fun g => g ≠ xb) w' v p := hp.keep (Kp.size h) fun g hg hlt => Kp.block h g hlt hg
theorem Kxb.ri {p : List Int} (h : Kxb xb w w') (hp : RI (fun g => g ≠ xb) w v p) : RI (fun g => g ≠ xb) w' v p := hp.keep (Kp.size h) fun g hg hlt => Kp.block h g hlt hg
theorem Kxb.r2 {p : List (Int × Int)} (h : Kxb xb w w') (hp : R2 (fun g => g ≠ xb) w v p) : R2 (fun g => g ≠ xb) w' v p := hp.keep (Kp.size h) fun g hg hlt => Kp.block h g hlt hg
theorem Kxb.ry {p : List Nat} (h : Kxb xb w w') (hp : RY (fun g => g ≠ xb) w v p) : RY (fun g => g ≠ xb) w' v p := hp.keep (Kp.size h) fun g hg hlt => Kp.block h g hlt hg
end
/-- a walk's cells -/
def wcl (s : St) (vc vw : Value) (co : Int) (vm : Value) (ok : Bool) : List Value := nv s vc vw ++ [.int .i64 co, vm, .bool ok]
structure WS (W : World) (xb : Nat) (s : Sn) (vc vw : Value) (co : Int) (vm : Value) (ok : Bool) (ms : List Nat) : Prop where
  hl : W.heap[xb]? = some (.cells (wcl s.st vc vw co vm ok).toArray 79 (0, 0))
  ms : RY (fun g => g ≠ xb) W vm ms
  cs : R2 (fun g => g ≠ xb) W vc s.cs
  ws : R2 (fun g => g ≠ xb) W vw s.ws
section
variable {W W' : World} {xb : Nat} {s : Sn} {vc vw vm : Value} {co : Int} {ok : Bool} {ms : List Nat}
theorem WS.lt (h : WS W xb s vc vw co vm ok ms) : xb < W.heap.size := (Array.getElem?_eq_some_iff.1 h.hl).1
theorem WS.next (h : WS W xb s vc vw co vm ok ms) (hb : Below W.heap.size W W') : WS W' xb s vc vw co vm ok ms := ⟨(hb.block xb h.lt).trans h.hl, h.ms.below' hb, h.cs.below' hb, h.ws.below' hb⟩
theorem WS.cell (h : WS W xb s vc vw co vm ok ms) (i : Nat) : W.cell? ⟨xb, i, none⟩ = (wcl s.st vc vw co vm ok)[i]? := blk_cell h.hl i
theorem WS.fr (h : WS W xb s vc vw co vm ok ms) (i : Nat) : W.frozen? ⟨xb, i, none⟩ = false := blk_fr h.hl i
theorem WS.range (h : WS W xb s vc vw co vm ok ms) : W.rangeAt xb 0 (nv s.st vc vw) := fun j v hv => by
  have hj : j < (nv s.st vc vw).length := (List.getElem?_eq_some_iff.1 hv).1
  rw [Nat.zero_add, h.cell j]
  unfold wcl
  rw [List.getElem?_append_left hj]
  exact hv
/-- a cell of its own is written -/
theorem WS.put (h : WS W xb s vc vw co vm ok ms) (i : Nat) (v : Value) {vm' : Value} {ok' : Bool} {ms' : List Nat} (hx : (wcl s.st vc vw co vm ok).set i v = wcl s.st vc vw co vm' ok') (hm : RY (fun g => g ≠ xb) W vm' ms') : WS (W.setCell ⟨xb, i, none⟩ v) xb s vc vw co vm' ok' ms' := by
  have hk := Kxb.set xb i v W
  exact ⟨by rw [← hx]; exact blk_set h.hl i v, hk.ry hm, hk.r2 h.cs, hk.r2 h.ws⟩
end
/-- what is left, and whether all went well -/
def Rov (x : Option (List Nat)) (ok : Bool) (ms : List Nat) : Prop := (ok = true ∧ x = some ms) ∨ (ok = false ∧ x = none)
theorem Rov.no (ms : List Nat) : Rov none false ms := .inr ⟨rfl, rfl⟩
theorem Rov.yes (ms : List Nat) : Rov (some ms) true ms := .inl ⟨rfl, rfl⟩
/-- a walk behind a visit -/
structure WRv (W : World) (xb : Nat) (s : Sn) (vc vw : Value) (co : Int) (x : Option (List Nat)) : Prop where
  out : ∃ vm ok ms, WS W xb s vc vw co vm ok ms ∧ Rov x ok ms
/-- what is claimed of visits of that fuel -/
def Vck (s : Sn) (co : Int) (xb : Nat) (vc vw : Value) (f : Nat) : Prop := ∀ (k : Nat) (b : List (List Int)) (st : List Bool) (x : Option (List Nat)) (w : World) (v vm : Value) (ok : Bool) (ms : List Nat), b.length - k + PM.lf st ≤ f → bgn s (k : Int) b = some st → (∀ l ∈ b, l.length + PM.lf st ≤ 128) → Rov x ok ms → WS w xb s vc vw co vm ok ms → RL (fun g => g ≠ xb) w v b →
  Calls Try.prog 32 #[.pointer (some ⟨xb, 0, none⟩), .int .i64 (k : Int), v] w fun e w' => e = .returned (.tuple #[]) ∧ Kxb xb w w' ∧ WRv w' xb s vc vw co (x.bind (cvi s co f k b st))
set_option maxRecDepth 100000 in
set_option maxHeartbeats 16000000 in
theorem cvisit_step (s : Sn) (co : Int) (xb : Nat) (vc vw : Value) (f : Nat) (ih : Vck s co xb vc vw f) : Vck s co xb vc vw (f + 1) := by
  intro k b st x w v vm ok ms hf hb hll hx hWS hv
  have IH := Hid.intro' ih
  have HX := Hid.intro' hWS
  have HV := Hid.intro' hv
  obtain ⟨av, kv, rfl, _, _⟩ := hv.form
  have HF := Hid.intro' hf
  have HBG := Hid.intro' hb
  have HLL := Hid.intro' hll
  have HLX : Hid (∀ l ∈ b, l.length ≤ 1000) := fun l hl => by have := hll l hl; omega
  have HBS := Hid.intro' (bgn_bs hb)
  have hp8 : b.length ≤ 8 := (bgn_bs hb).p8
  have hkl : k < b.length := (bgn_bs hb).kl
  have hwl : s.ws.length ≤ 128 := (bgn_bs hb).wl
  obtain ⟨am, cm, rfl, hmc, hmm, hmn⟩ := hWS.ms.form
  rcases hx with ⟨rfl, rfl⟩ | ⟨rfl, rfl⟩
  case inr =>
    have c17 : w.cell? ⟨xb, 17, none⟩ = some (.bool false) := HX.out.cell 17
    have d17 := HX.out.fr 17
    have HX2 := Hid.intro' (HX.out.put 17 (.bool false) (vm' := .slice am ms.length cm) (ok' := false) (ms' := ms) rfl HX.out.ms)
    clear ih hWS hv hf hb hll hmc hmm hmn HX
    go_enter Try.func32, Try.ntmps32
    go_wp2
    refine bodyPost_ret (results_none rfl _ _ _) rfl ?_
    exact ⟨rfl, Kxb.set xb 17 _ w, ⟨_, _, _, HX2.out, Rov.no _⟩⟩
  have c17 : w.cell? ⟨xb, 17, none⟩ = some (.bool true) := HX.out.cell 17
  have c16 : w.cell? ⟨xb, 16, none⟩ = some (.slice am ms.length cm) := HX.out.cell 16
  have d17 := HX.out.fr 17
  have d16 := HX.out.fr 16
  rw [Option.bind_some]
  clear ih hWS hv hf hb hll
  cases ms with
  | nil =>
    have HX2 := Hid.intro' (HX.out.put 17 (.bool false) (vm' := .slice am 0 cm) (ok' := false) (ms' := []) rfl HX.out.ms)
    clear hmc hmm hmn HX
    go_enter Try.func32, Try.ntmps32
    go_wp2
    refine bodyPost_ret (results_none rfl _ _ _) rfl ?_
    exact ⟨rfl, Kxb.set xb 17 _ w, ⟨_, _, _, HX2.out, Rov.no _⟩⟩
  | cons m r =>
    have hm6 : m < 256 := HX.out.ms.1 m (by simp)
    have hrest := HX.out.ms.rest (j := 1) (by simp)
    obtain ⟨gm, om, rfl, hDm, hltm, hcm⟩ := HX.out.ms.lies (by simp)
    have c0 : w.cell? ⟨gm, om, none⟩ = some (.int .u8 (m : Int)) := hcm 0 m rfl
    have hsl := fun W => sliceY_rest (some ⟨gm, om, none⟩) (r.length + 1) cm 1 W (by omega)
    generalize restA (some ⟨gm, om, none⟩) cm 1 = a1 at hrest hsl
    change RY (fun g => g ≠ xb) w (.slice a1 r.length (cm - 1)) r at hrest
    change ∀ W, (Instr.sliceAt 33 (.slice (some ⟨gm, om, none⟩) (r.length + 1) cm) (some (.int .i64 1)) none none).run Try.prog W = .ok (.slice a1 r.length (cm - 1)) W at hsl
    have HX1 := Hid.intro' (HX.out.put 16 (.slice a1 r.length (cm - 1)) (vm' := .slice a1 r.length (cm - 1)) (ok' := true) (ms' := r) rfl hrest)
    have HK1 := Hid.intro' (Kxb.set xb 16 (.slice a1 r.length (cm - 1)) w)
    have HV1 := Hid.intro' (HK1.out.rl HV.out)
    have q1 : ¬ ((r.length : Int) + 1 = 0) := by omega
    clear hmc hmm hmn hrest hcm hDm hltm HX HV
    generalize hc1 : cm - 1 = c1 at hsl HX1 HK1 HV1
    clear hc1
    generalize hW1 : w.setCell ⟨xb, 16, none⟩ (.slice a1 r.length c1) = W1 at HX1 HK1 HV1
    have HLF := Hid.intro' (rleft_any s (fun g => g ≠ xb) vc vw _ (k : Int) b W1 HX1.out.cs HX1.out.ws HV1.out (by omega) HLX.out)
    go_enter Try.func32, Try.ntmps32
    go_wp2_with (refine wpList_load27r rfl _ rfl xb s.st _ _ rfl HX1.out.range ?_)
    refine HLF.out.mono ?_
    rintro e W3 hLP
    obtain ⟨hb3, hout⟩ := hLP
    rcases hout with ⟨st', vl, hst, rfl, hol⟩ | ⟨hst, _⟩
    case inr =>
      rw [HBG.out] at hst
      cases hst
    obtain rfl : st = st' := by
      rw [HBG.out] at hst
      cases hst; rfl
    change OI W3 W1.heap.size vl (lfs s st) at hol
    have HX3 := Hid.intro' (HX1.out.next hb3)
    have HK3 := Hid.intro' (HK1.out.trans (Kxb.below xb hb3))
    have HV3 := Hid.intro' ((Kxb.below xb hb3).rl HV1.out)
    have HL3 : Hid (RI (fun g => g ≠ xb) W3 vl (lfs s st)) := hol.ri fun g hg => by
      have h1 := (hol.lt g hg).1
      have h2 := HX1.out.lt
      omega
    have HLM : Hid (∀ x ∈ lfs s st, ∃ q : Nat, x = (q : Int) ∧ q < s.ws.length ∧ st[q]? = some false) := fun x hx => lfs_mem.1 hx
    have hLn : (lfs s st).length ≤ 128 := by have := lfk_length st s.ws.length; unfold lfs; omega
    obtain ⟨al, kl, rfl⟩ := hol.slice
    clear hol hb3 hst hW1 HLF HX1 HK1 HV1 c0 c16 c17 d16 d17 hsl q1
    obtain ⟨L, HLD⟩ : ∃ L, Hid (lfs s st = L) := ⟨_, Hid.intro' rfl⟩
    rw [HLD.out] at HL3 HLM hLn ⊢
    have HCV : Hid (cvi s co (f + 1) k b st (m :: r) = if 2 < m ∨ (m = 1 ∧ L = []) ∨ (m = 2 ∧ L ≠ []) then none else if m ≠ 1 then (if co ≤ lsv s k b st then some r else none) else cnx (cvi s co f) k b st (ckd s (cvi s co f) k b st L (some r))) := by
      show cvs s co (cvi s co f) k b st (m :: r) = _
      rw [cvs_cons, HLD.out]
    have c17 : W3.cell? ⟨xb, 17, none⟩ = some (.bool true) := HX3.out.cell 17
    have d17 := HX3.out.fr 17
    by_cases hno : 2 < m ∨ (m = 1 ∧ L = []) ∨ (m = 2 ∧ L ≠ [])
    · rw [if_pos hno] at HCV
      have HX4 := Hid.intro' (HX3.out.put 17 (.bool false) (vm' := .slice a1 r.length c1) (ok' := false) (ms' := r) rfl HX3.out.ms)
      have HK4 := Hid.intro' (HK3.out.trans (Kxb.set xb 17 (.bool false) W3))
      clear HX3 HK3 HV3 HL3
      rcases hno with hno | ⟨rfl, rfl⟩ | ⟨rfl, hno⟩
      · have q2 : (2 : Int) < (m : Int) := by omega
        go_wp2
        refine bodyPost_ret (results_none rfl _ _ _) rfl ?_
        exact ⟨rfl, HK4.out, ⟨_, _, _, HX4.out, by rw [HCV.out]; exact Rov.no _⟩⟩
      · go_wp2
        refine bodyPost_ret (results_none rfl _ _ _) rfl ?_
        exact ⟨rfl, HK4.out, ⟨_, _, _, HX4.out, by rw [HCV.out]; exact Rov.no _⟩⟩
      · have q2 : (0 : Int) < (L.length : Int) := by have := List.length_pos_iff.2 hno; omega
        go_wp2
        refine bodyPost_ret (results_none rfl _ _ _) rfl ?_
        exact ⟨rfl, HK4.out, ⟨_, _, _, HX4.out, by rw [HCV.out]; exact Rov.no _⟩⟩
    · rw [if_neg hno] at HCV
      have hm2 : m ≤ 2 := by omega
      by_cases hm1 : m ≠ 1
      · rw [if_pos hm1] at HCV
        obtain ⟨T, HT⟩ : ∃ T, Hid (lsv s k b st = T) := ⟨_, Hid.intro' rfl⟩
        rw [HT.out] at HCV
        have HRG : Hid (∀ w', Below W3.drew.heap.size W3.drew w' → w'.rangeAt xb 0 (nv s.st vc vw)) := fun w' hw => (HX3.out.next ((Below.refl _ _).drew.trans hw)).range
        have H15 : Hid (∀ w', Below W3.drew.heap.size W3.drew w' → w'.cell? ⟨xb, 15, none⟩ = some (.int .i64 co)) := fun w' hw => (HX3.out.next ((Below.refl _ _).drew.trans hw)).cell 15
        have HLE : Hid (∀ w', Below W3.drew.heap.size W3.drew w' → Calls Try.prog 63 #[.agg (nv s.st vc vw).toArray, .int .i64 (k : Int), .slice av b.length kv, .slice al L.length kl] w' fun e w'' => e = .returned (.int .i64 T) ∧ Below w'.heap.size w' w'') := fun w' hw =>
          rleast_any s (fun g => g ≠ xb) vc vw _ _ k b st w' (HX3.out.next ((Below.refl _ _).drew.trans hw)).cs (HX3.out.next ((Below.refl _ _).drew.trans hw)).ws (HV3.out.below' ((Below.refl _ _).drew.trans hw)) (by rw [show lfk st s.ws.length = L from HLD.out]; exact HL3.out.below' ((Below.refl _ _).drew.trans hw)) HBG.out HLX.out T HT
        have hm02 : m = 0 ∨ m = 2 := by omega
        by_cases hcut : co ≤ T
        · rw [if_pos hcut] at HCV
          clear c17 d17 hm1
          rcases hm02 with rfl | rfl
          · clear hno
            go_wp2_with fail
            refine wp_region_tail 16 (by kernel_rfl) (by kernel_rfl) ?_
            simp only [List.take_succ_cons, List.take_zero, List.drop_succ_cons, List.drop_zero]
            unfold wpCalm
            generalize hK : wpCalm Try.prog _ _ _ _ = K
            unfold Oper.calm
            go_simp
            refine ⟨_, fun _ _ => rfl, ?_⟩
            subst hK
            unfold wpCalm
            generalize hK : wpCalm Try.prog _ _ _ _ = K
            unfold Oper.calm
            go_simp
            refine ⟨_, fun _ _ => rfl, ?_⟩
            subst hK
            unfold wpCalm
            generalize hK : wpCalm Try.prog _ _ _ _ = K
            unfold Oper.calm
            go_simp
            refine ⟨_, fun _ _ => rfl, ?_⟩
            subst hK
            unfold wpCalm
            generalize hK : wpCalm Try.prog _ _ _ _ = K
            unfold Oper.calm
            go_simp
            refine ⟨_, fun _ _ => rfl, ?_⟩
            subst hK
            unfold wpCalm
            generalize hK : wpCalm Try.prog _ _ _ _ = K
            rw [if_pos (by go_simp)]
            refine calm_load27r _ xb s.st _ _ rfl rfl HRG.out ?_
            go_simp
            subst hK
            unfold wpCalm
            generalize hK : wpCalm Try.prog _ _ _ _ = K
            unfold Oper.calm
            go_simp
            refine ⟨_, fun _ _ => rfl, ?_⟩
            subst hK
            unfold wpCalm
            generalize hK : wpCalm Try.prog _ _ _ _ = K
            unfold Oper.calm
            go_simp
            refine ⟨_, fun _ _ => rfl, ?_⟩
            subst hK
            unfold wpCalm
            generalize hK : wpCalm Try.prog _ _ _ _ = K
            unfold Oper.calm
            go_simp
            refine ⟨_, fun _ _ => rfl, ?_⟩
            subst hK
            unfold wpCalm
            generalize hK : wpCalm Try.prog _ _ _ _ = K
            unfold Oper.calm
            go_simp
            refine ⟨_, fun w' hw => HLE.out w' hw, ?_⟩
            subst hK
            unfold wpCalm
            generalize hK : wpCalm Try.prog _ _ _ _ = K
            unfold Oper.calm
            go_simp
            refine ⟨_, fun _ _ => rfl, ?_⟩
            subst hK
            unfold wpCalm
            generalize hK : wpCalm Try.prog _ _ _ _ = K
            unfold Oper.calm
            go_simp
            refine ⟨_, fun _ _ => rfl, ?_⟩
            subst hK
            unfold wpCalm
            generalize hK : wpCalm Try.prog _ _ _ _ = K
            unfold Oper.calm
            go_simp
            refine ⟨_, fun _ _ => rfl, ?_⟩
            subst hK
            unfold wpCalm
            generalize hK : wpCalm Try.prog _ _ _ _ = K
            rw [if_pos (by go_simp)]
            refine calm_load3 _ _ _ rfl rfl H15.out ?_
            go_simp
            subst hK
            unfold wpCalm
            generalize hK : wpCalm Try.prog _ _ _ _ = K
            unfold Oper.calm
            go_simp
            refine ⟨_, fun _ _ => rfl, ?_⟩
            subst hK
            unfold wpCalm
            generalize hK : wpCalm Try.prog _ _ _ _ = K
            unfold Oper.calm
            go_simp
            refine ⟨_, fun _ _ => rfl, ?_⟩
            subst hK
            unfold wpCalm
            generalize hK : wpCalm Try.prog _ _ _ _ = K
            unfold Oper.calm
            go_simp
            refine ⟨_, fun _ _ => rfl, ?_⟩
            subst hK
            refine wpCalm_nil ?_
            intro W5 hb5
            have hb5' := (Below.refl _ _).drew.trans hb5
            have HX5 := Hid.intro' (HX3.out.next hb5')
            have c17 : W5.cell? ⟨xb, 17, none⟩ = some (.bool true) := HX5.out.cell 17
            have d17 := HX5.out.fr 17
            have HX6 := Hid.intro' (HX5.out.put 17 (.bool true) (vm' := .slice a1 r.length c1) (ok' := true) (ms' := r) rfl HX5.out.ms)
            have HK6 := Hid.intro' ((HK3.out.trans (Kxb.below xb hb5')).trans (Kxb.set xb 17 (.bool true) W5))
            clear HRG H15 HLE HX3 HK3 HV3 HL3 hb5 hb5' HX5
            go_wp2
            refine bodyPost_ret (results_none rfl _ _ _) rfl ?_
            exact ⟨rfl, HK6.out, ⟨_, _, _, HX6.out, by rw [HCV.out]; exact Rov.yes _⟩⟩
          · obtain rfl : L = [] := by
              cases L with
              | nil => rfl
              | cons x l => exact absurd (.inr (.inr ⟨rfl, by simp⟩)) hno
            clear hno
            go_wp2_with fail
            refine wp_region_tail 16 (by kernel_rfl) (by kernel_rfl) ?_
            simp only [List.take_succ_cons, List.take_zero, List.drop_succ_cons, List.drop_zero]
            unfold wpCalm
            generalize hK : wpCalm Try.prog _ _ _ _ = K
            unfold Oper.calm
            go_simp
            refine ⟨_, fun _ _ => rfl, ?_⟩
            subst hK
            unfold wpCalm
            generalize hK : wpCalm Try.prog _ _ _ _ = K
            unfold Oper.calm
            go_simp
            refine ⟨_, fun _ _ => rfl, ?_⟩
            subst hK
            unfold wpCalm
            generalize hK : wpCalm Try.prog _ _ _ _ = K
            unfold Oper.calm
            go_simp
            refine ⟨_, fun _ _ => rfl, ?_⟩
            subst hK
            unfold wpCalm
            generalize hK : wpCalm Try.prog _ _ _ _ = K
            unfold Oper.calm
            go_simp
            refine ⟨_, fun _ _ => rfl, ?_⟩
            subst hK
            unfold wpCalm
            generalize hK : wpCalm Try.prog _ _ _ _ = K
            rw [if_pos (by go_simp)]
            refine calm_load27r _ xb s.st _ _ rfl rfl HRG.out ?_
            go_simp
            subst hK
            unfold wpCalm
            generalize hK : wpCalm Try.prog _ _ _ _ = K
            unfold Oper.calm
            go_simp
            refine ⟨_, fun _ _ => rfl, ?_⟩
            subst hK
            unfold wpCalm
            generalize hK : wpCalm Try.prog _ _ _ _ = K
            unfold Oper.calm
            go_simp
            refine ⟨_, fun _ _ => rfl, ?_⟩
            subst hK
            unfold wpCalm
            generalize hK : wpCalm Try.prog _ _ _ _ = K
            unfold Oper.calm
            go_simp
            refine ⟨_, fun _ _ => rfl, ?_⟩
            subst hK
            unfold wpCalm
            generalize hK : wpCalm Try.prog _ _ _ _ = K
            unfold Oper.calm
            go_simp
            refine ⟨_, fun w' hw => HLE.out w' hw, ?_⟩
            subst hK
            unfold wpCalm
            generalize hK : wpCalm Try.prog _ _ _ _ = K
            unfold Oper.calm
            go_simp
            refine ⟨_, fun _ _ => rfl, ?_⟩
            subst hK
            unfold wpCalm
            generalize hK : wpCalm Try.prog _ _ _ _ = K
            unfold Oper.calm
            go_simp
            refine ⟨_, fun _ _ => rfl, ?_⟩
            subst hK
            unfold wpCalm
            generalize hK : wpCalm Try.prog _ _ _ _ = K
            unfold Oper.calm
            go_simp
            refine ⟨_, fun _ _ => rfl, ?_⟩
            subst hK
            unfold wpCalm
            generalize hK : wpCalm Try.prog _ _ _ _ = K
            rw [if_pos (by go_simp)]
            refine calm_load3 _ _ _ rfl rfl H15.out ?_
            go_simp
            subst hK
            unfold wpCalm
            generalize hK : wpCalm Try.prog _ _ _ _ = K
            unfold Oper.calm
            go_simp
            refine ⟨_, fun _ _ => rfl, ?_⟩
            subst hK
            unfold wpCalm
            generalize hK : wpCalm Try.prog _ _ _ _ = K
            unfold Oper.calm
            go_simp
            refine ⟨_, fun _ _ => rfl, ?_⟩
            subst hK
            unfold wpCalm
            generalize hK : wpCalm Try.prog _ _ _ _ = K
            unfold Oper.calm
            go_simp
            refine ⟨_, fun _ _ => rfl, ?_⟩
            subst hK
            refine wpCalm_nil ?_
            intro W5 hb5
            have hb5' := (Below.refl _ _).drew.trans hb5
            have HX5 := Hid.intro' (HX3.out.next hb5')
            have c17 : W5.cell? ⟨xb, 17, none⟩ = some (.bool true) := HX5.out.cell 17
            have d17 := HX5.out.fr 17
            have HX6 := Hid.intro' (HX5.out.put 17 (.bool true) (vm' := .slice a1 r.length c1) (ok' := true) (ms' := r) rfl HX5.out.ms)
            have HK6 := Hid.intro' ((HK3.out.trans (Kxb.below xb hb5')).trans (Kxb.set xb 17 (.bool true) W5))
            clear HRG H15 HLE HX3 HK3 HV3 HL3 hb5 hb5' HX5
            go_wp2
            refine bodyPost_ret (results_none rfl _ _ _) rfl ?_
            exact ⟨rfl, HK6.out, ⟨_, _, _, HX6.out, by rw [HCV.out]; exact Rov.yes _⟩⟩
        · rw [if_neg hcut] at HCV
          have hcd : decide (co ≤ T) = false := decide_eq_false hcut
          clear c17 d17 hm1
          rcases hm02 with rfl | rfl
          · clear hno
            go_wp2_with fail
            refine wp_region_tail 16 (by kernel_rfl) (by kernel_rfl) ?_
            simp only [List.take_succ_cons, List.take_zero, List.drop_succ_cons, List.drop_zero]
            unfold wpCalm
            generalize hK : wpCalm Try.prog _ _ _ _ = K
            unfold Oper.calm
            go_simp
            refine ⟨_, fun _ _ => rfl, ?_⟩
            subst hK
            unfold wpCalm
            generalize hK : wpCalm Try.prog _ _ _ _ = K
            unfold Oper.calm
            go_simp
            refine ⟨_, fun _ _ => rfl, ?_⟩
            subst hK
            unfold wpCalm
            generalize hK : wpCalm Try.prog _ _ _ _ = K
            unfold Oper.calm
            go_simp
            refine ⟨_, fun _ _ => rfl, ?_⟩
            subst hK
            unfold wpCalm
            generalize hK : wpCalm Try.prog _ _ _ _ = K
            unfold Oper.calm
            go_simp
            refine ⟨_, fun _ _ => rfl, ?_⟩
            subst hK
            unfold wpCalm
            generalize hK : wpCalm Try.prog _ _ _ _ = K
            rw [if_pos (by go_simp)]
            refine calm_load27r _ xb s.st _ _ rfl rfl HRG.out ?_
            go_simp
            subst hK
            unfold wpCalm
            generalize hK : wpCalm Try.prog _ _ _ _ = K
            unfold Oper.calm
            go_simp
            refine ⟨_, fun _ _ => rfl, ?_⟩
            subst hK
            unfold wpCalm
            generalize hK : wpCalm Try.prog _ _ _ _ = K
            unfold Oper.calm
            go_simp
            refine ⟨_, fun _ _ => rfl, ?_⟩
            subst hK
            unfold wpCalm
            generalize hK : wpCalm Try.prog _ _ _ _ = K
            unfold Oper.calm
            go_simp
            refine ⟨_, fun _ _ => rfl, ?_⟩
            subst hK
            unfold wpCalm
            generalize hK : wpCalm Try.prog _ _ _ _ = K
            unfold Oper.calm
            go_simp
            refine ⟨_, fun w' hw => HLE.out w' hw, ?_⟩
            subst hK
            unfold wpCalm
            generalize hK : wpCalm Try.prog _ _ _ _ = K
            unfold Oper.calm
            go_simp
            refine ⟨_, fun _ _ => rfl, ?_⟩
            subst hK
            unfold wpCalm
            generalize hK : wpCalm Try.prog _ _ _ _ = K
            unfold Oper.calm
            go_simp
            refine ⟨_, fun _ _ => rfl, ?_⟩
            subst hK
            unfold wpCalm
            generalize hK : wpCalm Try.prog _ _ _ _ = K
            unfold Oper.calm
            go_simp
            refine ⟨_, fun _ _ => rfl, ?_⟩
            subst hK
            unfold wpCalm
            generalize hK : wpCalm Try.prog _ _ _ _ = K
            rw [if_pos (by go_simp)]
            refine calm_load3 _ _ _ rfl rfl H15.out ?_
            go_simp
            subst hK
            unfold wpCalm
            generalize hK : wpCalm Try.prog _ _ _ _ = K
            unfold Oper.calm
            go_simp
            refine ⟨_, fun _ _ => rfl, ?_⟩
            subst hK
            unfold wpCalm
            generalize hK : wpCalm Try.prog _ _ _ _ = K
            unfold Oper.calm
            go_simp
            refine ⟨_, fun _ _ => rfl, ?_⟩
            subst hK
            unfold wpCalm
            generalize hK : wpCalm Try.prog _ _ _ _ = K
            unfold Oper.calm
            go_simp
            refine ⟨_, fun _ _ => rfl, ?_⟩
            subst hK
            refine wpCalm_nil ?_
            intro W5 hb5
            have hb5' := (Below.refl _ _).drew.trans hb5
            have HX5 := Hid.intro' (HX3.out.next hb5')
            have c17 : W5.cell? ⟨xb, 17, none⟩ = some (.bool true) := HX5.out.cell 17
            have d17 := HX5.out.fr 17
            have HX6 := Hid.intro' (HX5.out.put 17 (.bool false) (vm' := .slice a1 r.length c1) (ok' := false) (ms' := r) rfl HX5.out.ms)
            have HK6 := Hid.intro' ((HK3.out.trans (Kxb.below xb hb5')).trans (Kxb.set xb 17 (.bool false) W5))
            clear HRG H15 HLE HX3 HK3 HV3 HL3 hb5 hb5' HX5
            go_wp2
            refine bodyPost_ret (results_none rfl _ _ _) rfl ?_
            exact ⟨rfl, HK6.out, ⟨_, _, _, HX6.out, by rw [HCV.out]; exact Rov.no _⟩⟩
          · obtain rfl : L = [] := by
              cases L with
              | nil => rfl
              | cons x l => exact absurd (.inr (.inr ⟨rfl, by simp⟩)) hno
            clear hno
            go_wp2_with fail
            refine wp_region_tail 16 (by kernel_rfl) (by kernel_rfl) ?_
            simp only [List.take_succ_cons, List.take_zero, List.drop_succ_cons, List.drop_zero]
            unfold wpCalm
            generalize hK : wpCalm Try.prog _ _ _ _ = K
            unfold Oper.calm
            go_simp
            refine ⟨_, fun _ _ => rfl, ?_⟩
            subst hK
            unfold wpCalm
            generalize hK : wpCalm Try.prog _ _ _ _ = K
            unfold Oper.calm
            go_simp
            refine ⟨_, fun _ _ => rfl, ?_⟩
            subst hK
            unfold wpCalm
            generalize hK : wpCalm Try.prog _ _ _ _ = K
            unfold Oper.calm
            go_simp
            refine ⟨_, fun _ _ => rfl, ?_⟩
            subst hK
            unfold wpCalm
            generalize hK : wpCalm Try.prog _ _ _ _ = K
            unfold Oper.calm
            go_simp
            refine ⟨_, fun _ _ => rfl, ?_⟩
            subst hK
            unfold wpCalm
            generalize hK : wpCalm Try.prog _ _ _ _ = K
            rw [if_pos (by go_simp)]
            refine calm_load27r _ xb s.st _ _ rfl rfl HRG.out ?_
            go_simp
            subst hK
            unfold wpCalm
            generalize hK : wpCalm Try.prog _ _ _ _ = K
            unfold Oper.calm
            go_simp
            refine ⟨_, fun _ _ => rfl, ?_⟩
            subst hK
            unfold wpCalm
            generalize hK : wpCalm Try.prog _ _ _ _ = K
            unfold Oper.calm
            go_simp
            refine ⟨_, fun _ _ => rfl, ?_⟩
            subst hK
            unfold wpCalm
            generalize hK : wpCalm Try.prog _ _ _ _ = K
            unfold Oper.calm
            go_simp
            refine ⟨_, fun _ _ => rfl, ?_⟩
            subst hK
            unfold wpCalm
            generalize hK : wpCalm Try.prog _ _ _ _ = K
            unfold Oper.calm
            go_simp
            refine ⟨_, fun w' hw => HLE.out w' hw, ?_⟩
            subst hK
            unfold wpCalm
            generalize hK : wpCalm Try.prog _ _ _ _ = K
            unfold Oper.calm
            go_simp
            refine ⟨_, fun _ _ => rfl, ?_⟩
            subst hK
            unfold wpCalm
            generalize hK : wpCalm Try.prog _ _ _ _ = K
            unfold Oper.calm
            go_simp
            refine ⟨_, fun _ _ => rfl, ?_⟩
            subst hK
            unfold wpCalm
            generalize hK : wpCalm Try.prog _ _ _ _ = K
            unfold Oper.calm
            go_simp
            refine ⟨_, fun _ _ => rfl, ?_⟩
            subst hK
            unfold wpCalm
            generalize hK : wpCalm Try.prog _ _ _ _ = K
            rw [if_pos (by go_simp)]
            refine calm_load3 _ _ _ rfl rfl H15.out ?_
            go_simp
            subst hK
            unfold wpCalm
            generalize hK : wpCalm Try.prog _ _ _ _ = K
            unfold Oper.calm
            go_simp
            refine ⟨_, fun _ _ => rfl, ?_⟩
            subst hK
            unfold wpCalm
            generalize hK : wpCalm Try.prog _ _ _ _ = K
            unfold Oper.calm
            go_simp
            refine ⟨_, fun _ _ => rfl, ?_⟩
            subst hK
            unfold wpCalm
            generalize hK : wpCalm Try.prog _ _ _ _ = K
            unfold Oper.calm
            go_simp
            refine ⟨_, fun _ _ => rfl, ?_⟩
            subst hK
            refine wpCalm_nil ?_
            intro W5 hb5
            have hb5' := (Below.refl _ _).drew.trans hb5
            have HX5 := Hid.intro' (HX3.out.next hb5')
            have c17 : W5.cell? ⟨xb, 17, none⟩ = some (.bool true) := HX5.out.cell 17
            have d17 := HX5.out.fr 17
            have HX6 := Hid.intro' (HX5.out.put 17 (.bool false) (vm' := .slice a1 r.length c1) (ok' := false) (ms' := r) rfl HX5.out.ms)
            have HK6 := Hid.intro' ((HK3.out.trans (Kxb.below xb hb5')).trans (Kxb.set xb 17 (.bool false) W5))
            clear HRG H15 HLE HX3 HK3 HV3 HL3 hb5 hb5' HX5
            go_wp2
            refine bodyPost_ret (results_none rfl _ _ _) rfl ?_
            exact ⟨rfl, HK6.out, ⟨_, _, _, HX6.out, by rw [HCV.out]; exact Rov.no _⟩⟩
      · obtain rfl : m = 1 := by omega
        rw [if_neg hm1] at HCV
        have hem : L ≠ [] := fun e => hno (.inr (.inl ⟨rfl, e⟩))
        have hnl : ¬ (L.length : Int) = 0 := fun e => hem (List.length_eq_zero_iff.1 (by omega))
        have hnd : decide ((L.length : Int) = 0) = false := decide_eq_false hnl
        have hnb : ((L.length : Int) == 0) = false := by simpa using hnl
        clear hm1 hno hem hm2 hm6 c17 d17
        go_wp2_with fail
        go_loopw [9] (fun iv wr => ∃ (i : Nat), i ≤ L.length ∧ iv = .int .i64 (i : Int) ∧ Hid (WRv wr xb s vc vw co (ckd s (cvi s co f) k b st (L.take i) (some r))) ∧ Hid (Kxb xb W3 wr)) (fun iv _ => L.length - (intOf iv).toNat)
        case atStart => exact ⟨0, Nat.zero_le _, rfl, ⟨_, _, _, HX3.out, Rov.yes _⟩, Kxb.refl _ _⟩
        case round =>
          obtain ⟨i, hi, rfl, HWR, HM⟩ := hrel
          obtain ⟨vm1, ok1, ms1, hx0, hr0⟩ := HWR.out.out
          have HX := Hid.intro' hx0
          have HRO := Hid.intro' hr0
          clear hx0 hr0 HWR
          have HV := Hid.intro' (HM.out.rl HV3.out)
          have HL := Hid.intro' (HM.out.ri HL3.out)
          by_cases hlt : i < L.length
          · have hiz : (i : Int) < (L.length : Int) := by omega
            obtain ⟨z, hz⟩ : ∃ z, L[i]? = some z := ⟨_, List.getElem?_eq_getElem hlt⟩
            obtain ⟨q, rfl, hqn, hqs⟩ := HLM.out z (List.mem_of_getElem? hz)
            obtain ⟨y, hy⟩ : ∃ y, s.ws[q]? = some y := ⟨_, List.getElem?_eq_getElem hqn⟩
            obtain ⟨n8, hrs⟩ := rgt_rs HBS.out.rg
            obtain ⟨m, hm, hym⟩ := hrs.mm.eq q y hy
            have hm8 : m ≤ 100000 := by
              have h1 := hrs.lt m (List.mem_of_getElem? hm)
              have h2 : 2 ^ n8 ≤ 2 ^ 8 := Nat.pow_le_pow_right (by omega) hrs.n8
              omega
            have HMY : Hid (mayk s k (q : Int) = PM.bt m k) := by
              show _ = _
              unfold mayk; rw [Int.toNat_natCast, hm]; rfl
            have HTS : Hid (ckd s (cvi s co f) k b st (L.take (i + 1)) (some r) = if mayk s k (q : Int) = true then (ckd s (cvi s co f) k b st (L.take i) (some r)).bind (cvi s co f k (PM.add b k (q : Int)) (st.set q true)) else ckd s (cvi s co f) k b st (L.take i) (some r)) := by
              show _ = _
              rw [take_snoc hz, ckd_append]; rfl
            have HQS := Hid.intro' hqs
            have HZ := Hid.intro' hz
            obtain ⟨gl, ol, rfl, hcl⟩ := HL.out.at hz
            have HRG : Hid (∀ w', Below wr.heap.size wr w' → w'.rangeAt xb 0 (nv s.st vc vw)) := fun w' hw => (HX.out.next hw).range
            have HLC : Hid (∀ w', Below wr.heap.size wr w' → w'.cell? ⟨gl, ol + i, none⟩ = some (.int .i64 (q : Int))) := fun w' hw => (hw.cell (p := ⟨gl, ol + i, none⟩) (cell_lt hcl)).trans hcl
            have HMAY : Hid (∀ w', Below wr.heap.size wr w' → Calls Try.prog 33 #[.agg (nv s.st vc vw).toArray, .int .i64 (q : Int), .int .i64 (k : Int)] w' fun e w'' => e = .returned (.bool (PM.bt m k)) ∧ Below w'.heap.size w' w'') := fun w' hw => may_any s (fun g => g ≠ xb) _ _ w' (HX.out.next hw).ws q k m y hy hym hm8 (by omega)
            clear hz hy hm hym hqs hrs hcl
            go_wp2_with fail
            refine wp_region_quiet (C := fun w' => Below wr.heap.size wr w') (by kernel_rfl) (by kernel_rfl) ((Below.refl _ _).drew) ?_
            simp only []
            unfold wpQuiet
            generalize hK : wpQuiet Try.prog _ _ _ _ = K
            go_simp
            refine ⟨_, fun _ _ => rfl, ?_⟩
            subst hK
            unfold wpQuiet
            generalize hK : wpQuiet Try.prog _ _ _ _ = K
            go_simp
            refine ⟨_, fun _ _ => rfl, ?_⟩
            subst hK
            unfold wpQuiet
            generalize hK : wpQuiet Try.prog _ _ _ _ = K
            go_simp
            refine ⟨_, fun _ _ => rfl, ?_⟩
            subst hK
            unfold wpQuiet
            generalize hK : wpQuiet Try.prog _ _ _ _ = K
            rw [if_pos (by go_simp)]
            refine quiet_load27r _ xb s.st _ _ rfl rfl HRG.out ?_
            go_simp
            subst hK
            unfold wpQuiet
            generalize hK : wpQuiet Try.prog _ _ _ _ = K
            go_simp
            refine ⟨_, fun _ _ => rfl, ?_⟩
            subst hK
            unfold wpQuiet
            generalize hK : wpQuiet Try.prog _ _ _ _ = K
            go_simp
            refine ⟨_, fun _ _ => rfl, ?_⟩
            subst hK
            unfold wpQuiet
            generalize hK : wpQuiet Try.prog _ _ _ _ = K
            rw [if_pos (by go_simp)]
            refine quiet_ixI _ _ rfl rfl rfl hlt ?_
            go_simp
            subst hK
            unfold wpQuiet
            generalize hK : wpQuiet Try.prog _ _ _ _ = K
            rw [if_pos (by go_simp)]
            refine quiet_load3 _ _ _ rfl rfl HLC.out ?_
            go_simp
            subst hK
            unfold wpQuiet
            generalize hK : wpQuiet Try.prog _ _ _ _ = K
            go_simp
            refine ⟨_, fun _ _ => rfl, ?_⟩
            subst hK
            unfold wpQuiet
            generalize hK : wpQuiet Try.prog _ _ _ _ = K
            go_simp
            refine ⟨_, fun w' hw => (HMAY.out w' hw).mono fun e w'' hh => ⟨hh.1, below_class hw hh.2⟩, ?_⟩
            subst hK
            refine wpQuiet_nil ?_
            intro W8 hb8
            have HX8 := Hid.intro' (HX.out.next hb8)
            have HM8 := Hid.intro' (HM.out.trans (Kxb.below xb hb8))
            have HV8 := Hid.intro' ((Kxb.below xb hb8).rl HV.out)
            have HLC8 := Hid.intro' (HLC.out W8 hb8)
            clear hb8 HRG HLC HMAY HX HM HV HL
            cases hbt : PM.bt m k with
            | false =>
              rw [HMY.out, hbt, if_neg (by simp)] at HTS
              clear hbt HV8 HLC8
              go_wp2
              go_roundw
              case rel => exact ⟨i + 1, by omega, by go_num, ⟨_, _, _, HX8.out, by rw [HTS.out]; exact HRO.out⟩, HM8⟩
              case measure => simp [intOf]; omega
            | true =>
              rw [HMY.out, hbt, if_pos rfl] at HTS
              rw [hbt] at HMY
              have hmk := mkL b.length (by omega)
              clear hbt
              go_wp2_with fail
              have HO0 : Hid (OW (W8.alloc (.cells (Array.replicate b.length (Value.slice none 0 0)) 55)) W8.heap.size W8.heap.size (List.replicate b.length (Value.slice none 0 0)) (cpk b 0)) := by
                have := OW.make (B := W8.heap.size) W8 b.length (Nat.le_refl _)
                rw [List.toArray_replicate] at this
                rw [cpk_zero]
                exact this
              have HB0 := Hid.intro' ((Below.refl W8.heap.size W8).alloc (Nat.le_refl _) (.cells (Array.replicate b.length (Value.slice none 0 0)) 55))
              clear hmk
              generalize W8.alloc (.cells (Array.replicate b.length (Value.slice none 0 0)) 55) = Y at HO0 HB0 ⊢
              go_loopw [11] (fun iv wr => ∃ (c : Nat) (us : List Value), c ≤ b.length ∧ iv = .int .i64 (c : Int) ∧ Hid (OW wr W8.heap.size W8.heap.size us (cpk b c)) ∧ Hid (Below W8.heap.size W8 wr)) (fun iv _ => b.length - (intOf iv).toNat)
              case atStart => exact ⟨0, _, Nat.zero_le _, rfl, HO0, HB0⟩
              case round =>
                clear HO0 HB0
                obtain ⟨c, us, hc, rfl, HO, HBC⟩ := hrel
                by_cases hcb : c < b.length
                · have hcz : (c : Int) < (b.length : Int) := by omega
                  obtain ⟨l, hl⟩ : ∃ l, b[c]? = some l := ⟨_, List.getElem?_eq_getElem hcb⟩
                  have hln : l.length ≤ 1000 := HLX.out l (List.mem_of_getElem? hl)
                  have HL := Hid.intro' hl
                  have hal := (Below.refl wr.heap.size wr).alloc (Nat.le_refl _) (.cells #[] 3)
                  have HBA := Hid.intro' hal
                  obtain ⟨gp, op, rfl, u, hcu, hru⟩ := ((HV8.out.below' HBC.out).below' hal).at hl
                  obtain ⟨au, ku, rfl, _, _⟩ := hru.form
                  have HRU := Hid.intro' hru
                  have HO1 : Hid (OI (wr.alloc (.cells #[] 3)) wr.heap.size (.slice (some ⟨wr.heap.size, 0, none⟩) 0 0) []) := OI.lit (B := wr.heap.size) wr [] (Nat.le_refl _) (Nat.zero_le _)
                  have HSA : Hid (wr.heap.size ≤ (wr.alloc (.cells #[] 3)).heap.size) := hal.size
                  clear hl hal hru
                  go_wp2_with (at_builtin; refine wpList_appendRI rfl _ _ rfl wr.heap.size _ _ [] l (fun g => g ≠ xb) rfl HO1.out rfl HRU.out ?qa2 HSA.out ?_)
                  case qa2 => simp; omega
                  intro v9 W9 ho9 hg9
                  have hb9 := HBA.out.grown hg9 HSA.out (fun q hq => (HO1.out.lt q hq).1)
                  have hon := HO.out.next hb9
                  obtain ⟨uc, huc⟩ : ∃ z, us[c]? = some z := ⟨_, List.getElem?_eq_getElem (by rw [HO.out.len, cpk_length hc]; exact hcb)⟩
                  have d1 : W9.cell? ⟨W8.heap.size, c, none⟩ = some uc := (blk_cell hon.hl c).trans huc
                  have d2 : W9.frozen? ⟨W8.heap.size, c, none⟩ = false := blk_fr hon.hl c
                  have hpt := HO.out.put (c := c) (u' := v9) (l := l) (by rw [cpk_length hc]; exact hcb) hb9 (fun q hq => (OI.lt ho9 q hq).1) (OI.mono ho9 HBC.out.size)
                  rw [cpk_succ HL.out] at hpt
                  have HOP := Hid.intro' hpt
                  have HBP := Hid.intro' ((below_class HBC.out hb9).setCell (p := ⟨W8.heap.size, c, none⟩) (Nat.le_refl _) v9)
                  obtain ⟨a9, c9, rfl⟩ := OI.slice ho9
                  clear ho9 hg9 hb9 hon huc hpt hcu HO HBC HBA HO1 HSA HRU
                  go_wp2
                  go_roundw
                  case rel => exact ⟨c + 1, _, by omega, by go_num, HOP, HBP⟩
                  case measure => simp [intOf]; omega
                · have hcz : ¬ (c : Int) < (b.length : Int) := by omega
                  have hce : c = b.length := by omega
                  rw [hce, cpk_end] at HO
                  have hkz : (k : Int) < (b.length : Int) := by omega
                  obtain ⟨l, hl⟩ : ∃ l, b[k]? = some l := ⟨_, List.getElem?_eq_getElem hkl⟩
                  obtain ⟨u, hu⟩ : ∃ u, us[k]? = some u := ⟨_, List.getElem?_eq_getElem (by rw [HO.out.len]; exact hkl)⟩
                  have hln : l.length ≤ 1000 := HLX.out l (List.mem_of_getElem? hl)
                  have ou := HO.out.li k u l hu hl
                  obtain ⟨au, ku, rfl⟩ := ou.slice
                  have HL := Hid.intro' hl
                  have HU := Hid.intro' hu
                  clear hl hu hce
                  go_wp2_with fail
                  have hbd := (Below.refl wr.heap.size wr).drew
                  have hal := hbd.alloc (Nat.le_refl _) (.cells #[.int .i64 (q : Int)] 3)
                  have HOA := Hid.intro' (ou.below' hal)
                  have HQA := Hid.intro' (HO.out.next hal)
                  have HBA := Hid.intro' (below_class HBC.out hal)
                  have HCX : Hid ((wr.drew.alloc (.cells #[.int .i64 (q : Int)] 3)).cell? ⟨wr.drew.heap.size, 0, none⟩ = some (.int .i64 (q : Int))) := (OI.lit (B := 0) wr.drew [(q : Int)] (Nat.zero_le _) (by unfold maxLen; simp)).cell (i := 0) rfl
                  have k1 : wr.drew.cell? ⟨W8.heap.size, k, none⟩ = some (.slice au l.length ku) := (blk_cell (HO.out.next hbd).hl k).trans HU.out
                  have k2 : (wr.drew.alloc (.cells #[.int .i64 (q : Int)] 3)).cell? ⟨W8.heap.size, k, none⟩ = some (.slice au l.length ku) := (blk_cell HQA.out.hl k).trans HU.out
                  have k3 : wr.drew.cell? ⟨gl, ol + i, none⟩ = some (.int .i64 (q : Int)) := ((HBC.out.trans (hbd.mono HBC.out.size)).cell (p := ⟨gl, ol + i, none⟩) (cell_lt HLC8.out)).trans HLC8.out
                  have k4 : (wr.alloc (.cells #[.int .i64 (q : Int)] 3)).drew.cell? ⟨W8.heap.size, k, none⟩ = some (.slice au l.length ku) := k2
                  have k5 : (wr.alloc (.cells #[.int .i64 (q : Int)] 3)).cell? ⟨W8.heap.size, k, none⟩ = some (.slice au l.length ku) := k2
                  have hsz : W8.heap.size ≤ wr.heap.size := HBC.out.size
                  have hne : some W8.heap.size ≠ (Value.slice au l.length ku).ownBlock := fun e => HO.out.ne k _ HU.out e.symm
                  clear ou hbd hal HO HBC
                  go_region_law ((refine step_appI (by rfl) (.tmp 132) (.tmp 137) (by rfl) W8.heap.size (l := l) (y := (q : Int)) (by rfl) HOA.out hln (by rfl) HCX.out (by simp; omega) ?_; intro g' cap' W10 ho10 hg10 hat10; have p10 := (hg10.block W8.heap.size HQA.out.lt hne).trans HQA.out.hl; have q1 : W10.cell? ⟨W8.heap.size, k, none⟩ = some (.slice au l.length ku) := (blk_cell p10 k).trans HU.out; have q2 : W10.frozen? ⟨W8.heap.size, k, none⟩ = false := blk_fr p10 k))
                  all_goals
                    have hadd := HQA.out.add HU.out HL.out (x := (q : Int)) hg10 (q := g') (u' := .slice (some ⟨g', 0, none⟩) (l.length + 1) cap') rfl hat10 ho10
                    have hb10 := (HBA.out.grown hg10 (by simp; omega) (fun j hj => (HOA.out.lt j hj).1)).setCell (p := ⟨W8.heap.size, k, none⟩) (Nat.le_refl _) (.slice (some ⟨g', 0, none⟩) (l.length + 1) cap')
                    have HX10 := Hid.intro' (HX8.out.next hb10)
                    have HM10 := Hid.intro' (HM8.out.trans (Kxb.below xb hb10))
                    have hplen : (PM.add b k (q : Int)).length = b.length := by unfold PM.add; rw [List.length_set]
                    have hrl := hadd.rl (D := fun g => g ≠ xb) fun j hj => by have := HX8.out.lt; omega
                    rw [hplen] at hrl
                    have HP10 := Hid.intro' hrl
                    clear hadd hb10 hrl ho10 hg10 hat10 p10 q1 q2 k1 k2 k3 k4 k5 HOA HQA HBA HCX HX8 HM8 HV8 HLC8
                    generalize W10.setCell ⟨W8.heap.size, k, none⟩ (.slice (some ⟨g', 0, none⟩) (l.length + 1) cap') = W11 at HX10 HM10 HP10 ⊢
                    have hlf := PM.lf_set HQS.out
                    have hlf8 : PM.lf st ≤ 128 := by have h1 : PM.lf st ≤ st.length := List.count_le_length; have := HBS.out.sl; omega
                    have hbg := bgn_add HBG.out hqn HQS.out HMY.out
                    have HR := Hid.intro' (IH.out k (PM.add b k (q : Int)) (st.set q true) _ W11 (.slice (some ⟨W8.heap.size, 0, none⟩) b.length b.length) vm1 ok1 ms1 (by rw [hplen]; have := HF.out; omega) hbg (fun l' hl' => by
                      have := add_max (n := 128 - PM.lf st) (fun l'' hl'' => by have := HLL.out l'' hl''; omega) l' hl'
                      omega) HRO.out HX10.out HP10.out)
                    rw [← HTS.out] at HR
                    clear hlf hlf8 hbg hplen
                    go_wp2_with fail
                    refine HR.out.mono ?_
                    rintro e W12 ⟨rfl, hm12, hx12⟩
                    have HX12 := Hid.intro' hx12
                    have HM12 := Hid.intro' (HM10.out.trans hm12)
                    clear hm12 hx12 HR HX10 HM10 HP10
                    go_wp2
                    go_roundw
                    case rel => exact ⟨i + 1, by omega, by go_num, HX12, HM12⟩
                    case measure => simp [intOf]; omega
          · have hiz : ¬ (i : Int) < (L.length : Int) := by omega
            have hie : L.take i = L := List.take_of_length_le (by omega)
            rw [hie] at HRO
            by_cases hk1 : k + 1 < b.length
            · have hk1z : (k : Int) + 1 < (b.length : Int) := by omega
              have hwk : IntKind.i64.wrap ((k : Int) + 1) = (k : Int) + 1 := IntWalk.i64_in _ (by omega)
              have hcast : ((k + 1 : Nat) : Int) = (k : Int) + 1 := by omega
              have HR := Hid.intro' (IH.out (k + 1) b st _ wr _ vm1 ok1 ms1 (by have := HF.out; omega) (bgn_next HBG.out hk1) HLL.out HRO.out HX.out HV.out)
              rw [hcast] at HR
              clear hcast hie
              go_wp2_with fail
              refine HR.out.mono ?_
              rintro e W9 ⟨rfl, hm9, hx9⟩
              have HE : Hid (Kxb xb w W9 ∧ WRv W9 xb s vc vw co (cvi s co (f + 1) k b st (1 :: r))) := by
                refine ⟨(HK3.out.trans HM.out).trans hm9, ?_⟩
                rw [HCV.out]
                unfold cnx
                rw [if_pos hk1]
                exact hx9
              clear hm9 hx9 HR HX HM HV HL HRO
              go_wp2
              go_end0
              exact ⟨rfl, HE.out⟩
            · have hk1z : ¬ (k : Int) + 1 < (b.length : Int) := by omega
              have hwk : IntKind.i64.wrap ((k : Int) + 1) = (k : Int) + 1 := IntWalk.i64_in _ (by omega)
              have HE : Hid (Kxb xb w wr ∧ WRv wr xb s vc vw co (cvi s co (f + 1) k b st (1 :: r))) := by
                refine ⟨HK3.out.trans HM.out, ⟨vm1, ok1, ms1, HX.out, ?_⟩⟩
                rw [HCV.out]
                unfold cnx
                rw [if_neg hk1]
                exact HRO.out
              clear HX HM HV HL HRO hie
              go_wp2
              go_end0
              exact ⟨rfl, HE.out⟩
theorem cvisit_any (s : Sn) (co : Int) (xb : Nat) (vc vw : Value) : ∀ f, Vck s co xb vc vw f
  | 0 => fun k b st x w v vm ok ms hf hb _ _ _ _ => by
    have := (bgn_bs hb).kl
    omega
  | f + 1 => cvisit_step s co xb vc vw f (cvisit_any s co xb vc vw f)
end Go.Proofs.Ytagmidolcdefiah
