/- Several texts in one, each with its own head. -/
import Derived.Test.YtagmidolcdefiahPk8
import Derived.Test.YtagmidolcdefiahPk10
import Derived.Test.YtagmidolcdefiahPk3
/- A proof's bytes are read, and what they show: mathematics. No program is named here. -/
namespace Go.Proofs.Ytagmidolcdefiah
/-- bytes as a number, that of the greatest weight first -/
def be (l : List Nat) : Int := l.foldl (fun a (x : Nat) => 256 * a + (x : Int)) 0
/-- one more list is read -/
def rds (b : List Nat) (x : List (List Int) × Nat) : Option (List (List Int) × Nat) :=
  b[x.2]?.bind fun n => if b.length < x.2 + 1 + n then none else some (x.1 ++ [((b.drop (x.2 + 1)).take n).map fun (x : Nat) => (x : Int)], x.2 + n + 1)
/-- the lists of the first k cars, and where the bytes behind them begin -/
def rdk (b : List Nat) : Nat → Option (List (List Int) × Nat)
  | 0 => some ([], 9)
  | k + 1 => (rdk b k).bind (rds b)
theorem rdk_none {b : List Nat} {k : Nat} (h : rdk b k = none) : ∀ j, rdk b (k + j) = none
  | 0 => h
  | j + 1 => by
    show (rdk b (k + j)).bind (rds b) = none
    rw [rdk_none h j]; rfl
theorem rdk_out {b : List Nat} {k a : Nat} {p : List (List Int)} (h : rdk b k = some (p, a)) (ha : b.length ≤ a) : rdk b (k + 1) = none := by
  show (rdk b k).bind (rds b) = none
  rw [h, Option.bind_some]
  unfold rds
  rw [List.getElem?_eq_none ha]
  rfl
theorem rdk_long {b : List Nat} {k a n : Nat} {p : List (List Int)} (h : rdk b k = some (p, a)) (ha : b[a]? = some n) (hn : b.length < a + 1 + n) : rdk b (k + 1) = none := by
  show (rdk b k).bind (rds b) = none
  rw [h, Option.bind_some]
  unfold rds
  rw [ha, Option.bind_some, if_pos hn]
theorem rdk_next {b : List Nat} {k a n : Nat} {p : List (List Int)} (h : rdk b k = some (p, a)) (ha : b[a]? = some n) (hn : a + 1 + n ≤ b.length) : rdk b (k + 1) = some (p ++ [((b.drop (a + 1)).take n).map fun (x : Nat) => (x : Int)], a + n + 1) := by
  show (rdk b k).bind (rds b) = _
  rw [h, Option.bind_some]
  unfold rds
  rw [ha, Option.bind_some, if_neg (by show ¬ b.length < a + 1 + n; omega)]
theorem rdk_form {b : List Nat} (hb : 9 ≤ b.length) : ∀ {k a : Nat} {p : List (List Int)}, rdk b k = some (p, a) → p.length = k ∧ 9 ≤ a ∧ a ≤ b.length
  | 0, a, p, h => by cases h; exact ⟨rfl, Nat.le_refl _, hb⟩
  | k + 1, a, p, h => by
    cases hk : rdk b k with
    | none => rw [show rdk b (k + 1) = (rdk b k).bind (rds b) from rfl, hk] at h; cases h
    | some x =>
      obtain ⟨q, c⟩ := x
      obtain ⟨h1, h2, h3⟩ := rdk_form hb hk
      cases hc : b[c]? with
      | none => rw [rdk_out hk (by rw [List.getElem?_eq_none_iff] at hc; exact hc)] at h; cases h
      | some n =>
        by_cases hn : b.length < c + 1 + n
        · rw [rdk_long hk hc hn] at h; cases h
        · rw [rdk_next hk hc (by omega)] at h
          cases h
          exact ⟨by rw [List.length_append, h1]; rfl, by omega, by omega⟩
/-- what a proof shows -/
structure Clm where
  best : Bool
  cost : Int
  plan : List (List Int)
def clm0 : Clm := ⟨false, 0, []⟩
/-- a claim, and where its marks begin -/
def rdc (n : Nat) (b : List Nat) : Option (Clm × Nat) :=
  if b.length < 9 ∨ 1 < b[0]?.getD 0 ∨ 1099511627776 < be ((b.drop 1).take 8) then none
  else match rdk b n with
    | none => none
    | some (p, a) => if b[0]?.getD 0 = 1 ∨ a = b.length then some (⟨decide (b[0]?.getD 0 = 1), be ((b.drop 1).take 8), p⟩, a) else none
/-- do the marks hold? -/
def mrk (s : Sn) (c : Int) (r : List Nat) : Bool := cvi s c (s.cs.length + s.ws.length) 0 (List.replicate s.cs.length []) (List.replicate s.ws.length false) r == some []
/-- what bytes show; the error's number -/
def ckw (s : Sn) (b : List Nat) : Nat × Clm :=
  if rgt s = true then
    match rdc s.cs.length b with
    | none => (3, clm0)
    | some (x, a) => if fsb s x.plan = true then
        (if RM.cst s.st s.ws s.cs x.plan = x.cost then
          (if x.best = true ∧ mrk s x.cost (b.drop a) = false then (10, clm0) else (0, x)) else (10, clm0)) else (9, clm0)
  else (1, clm0)
section
/-- more bytes, no less -/
theorem be_from : ∀ (l : List Nat) (a : Int), 0 ≤ a → a ≤ l.foldl (fun a (x : Nat) => 256 * a + (x : Int)) a
  | [], a, _ => Int.le_refl _
  | x :: l, a, h => by
    have := be_from l (256 * a + (x : Int)) (by omega)
    show a ≤ l.foldl _ (256 * a + (x : Int))
    omega
theorem be_nn (l : List Nat) : 0 ≤ be l := be_from l 0 (Int.le_refl _)
theorem be_append (l m : List Nat) : be l ≤ be (l ++ m) := by
  unfold be
  rw [List.foldl_append]
  exact be_from m _ (be_nn l)
theorem be_snoc (l : List Nat) (x : Nat) : be (l ++ [x]) = 256 * be l + (x : Int) := by
  unfold be
  rw [List.foldl_append]
  rfl
/-- a number's bytes are that number -/
theorem be_bek (m : Nat) : ∀ (k : Nat) (a : Int), (bek (m : Int) k).foldl (fun a (x : Nat) => 256 * a + (x : Int)) a = a * 256 ^ k + ((m % 256 ^ k : Nat) : Int)
  | 0, a => by simp [bek, Nat.mod_one]
  | k + 1, a => by
    show (bek (m : Int) k).foldl _ (256 * a + (((((m : Int) / 256 ^ k) % 256).toNat : Nat) : Int)) = _
    have h1 : (((m : Int) / 256 ^ k) % 256).toNat = m / 256 ^ k % 256 := by
      rw [show ((m : Int) / 256 ^ k) = ((m / 256 ^ k : Nat) : Int) by rw [Int.natCast_ediv, Int.natCast_pow]; rfl]
      omega
    rw [be_bek m k, h1, Nat.pow_succ, Nat.mod_mul, Int.natCast_add, Int.natCast_mul, Int.natCast_pow, Int.pow_succ, Int.add_mul, Int.mul_comm 256 a, Int.mul_assoc, Int.mul_comm 256 (256 ^ k), Int.mul_comm ((m / 256 ^ k % 256 : Nat) : Int)]
    have : ((256 : Nat) : Int) = 256 := rfl
    rw [this]
    omega
theorem be_all {n : Int} (h : 0 ≤ n) (h2 : n ≤ 1099511627776) : be (bek n 8) = n := by
  obtain ⟨m, rfl⟩ : ∃ m : Nat, n = (m : Int) := ⟨n.toNat, by omega⟩
  unfold be
  rw [be_bek m 8 0, Int.zero_mul, Int.zero_add, Nat.mod_eq_of_lt (by have : (256 : Nat) ^ 8 = 18446744073709551616 := by decide
                                                                     omega)]
theorem prl_take {p : List (List Int)} {k : Nat} {l : List Int} (h : p[k]? = some l) : prl (p.take (k + 1)) = prl (p.take k) ++ l.length :: l.map Int.toNat := by
  rw [List.take_add_one, h, Option.toList_some, prl_snoc]
theorem prl_split {p : List (List Int)} {k : Nat} {l : List Int} (h : p[k]? = some l) : prl p = prl (p.take k) ++ (l.length :: l.map Int.toNat) ++ prl (p.drop (k + 1)) := by
  rw [← prl_take h]
  unfold prl
  rw [← List.flatMap_append, List.take_append_drop]
/-- a plan's bytes are that plan -/
theorem rdk_prl {p : List (List Int)} (hp : ∀ x ∈ p.flatten, 0 ≤ x) {A : List Nat} (hA : A.length = 9) (R : List Nat) : ∀ k, k ≤ p.length → rdk (A ++ prl p ++ R) k = some (p.take k, 9 + (prl (p.take k)).length)
  | 0, _ => by simp [rdk, prl]
  | k + 1, h => by
    obtain ⟨l, hl⟩ : ∃ l, p[k]? = some l := ⟨_, List.getElem?_eq_getElem (by omega)⟩
    have hs := prl_split hl
    have ht := prl_take hl
    have ih := rdk_prl hp hA R k (by omega)
    have hat : A ++ prl p ++ R = (A ++ prl (p.take k)) ++ (l.length :: (l.map Int.toNat ++ (prl (p.drop (k + 1)) ++ R))) := by
      rw [hs]; simp
    have hlen : (A ++ prl (p.take k)).length = 9 + (prl (p.take k)).length := by rw [List.length_append, hA]
    have hget : (A ++ prl p ++ R)[9 + (prl (p.take k)).length]? = some l.length := by
      rw [hat, List.getElem?_append_right (by omega), hlen, Nat.sub_self]; rfl
    have hlen2 : (A ++ prl p ++ R).length = 9 + (prl (p.take k)).length + 1 + (l.length + (prl (p.drop (k + 1)) ++ R).length) := by
      rw [hat, List.length_append, hlen, List.length_cons, List.length_append, List.length_map]; omega
    have hdrop : (A ++ prl p ++ R).drop (9 + (prl (p.take k)).length + 1) = l.map Int.toNat ++ (prl (p.drop (k + 1)) ++ R) := by
      rw [hat, ← hlen, List.drop_append, List.drop_of_length_le (by omega), show (A ++ prl (p.take k)).length + 1 - (A ++ prl (p.take k)).length = 1 by omega]; rfl
    rw [rdk_next ih hget (by omega), hdrop, List.take_left' (by rw [List.length_map]), List.map_map, ht, List.take_add_one, hl, Option.toList_some]
    have hid : l.map ((fun (x : Nat) => (x : Int)) ∘ Int.toNat) = l := by
      conv => rhs; rw [← List.map_id l]
      refine List.map_congr_left fun x hx => ?_
      have := hp x (List.mem_flatten.2 ⟨l, List.mem_of_getElem? hl, hx⟩)
      show ((x.toNat : Nat) : Int) = x
      omega
    rw [hid, List.length_append, List.length_cons, List.length_map]
    congr 2
    omega
/-- the bytes ahead of the marks -/
def hdb (e : Bool) (c : Int) (p : List (List Int)) : List Nat := (if e = true then 0 else 1) :: (bek c 8 ++ prl p)
theorem prf_eq (x : Sx) : prf x = hdb x.ended x.cost x.plan ++ if x.ended = true then [] else x.marks := by
  unfold prf hdb
  rw [List.cons_append]
theorem hdb_length (e : Bool) (c : Int) (p : List (List Int)) : (hdb e c p).length = 9 + (prl p).length := by
  unfold hdb
  rw [List.length_cons, List.length_append, bek_length]
  omega
theorem rdc_hdb {e : Bool} {c : Int} {p : List (List Int)} (hp : ∀ x ∈ p.flatten, 0 ≤ x) (h : 0 ≤ c) (h2 : c ≤ 1099511627776) (R : List Nat) (hR : e = true → R = []) : rdc p.length (hdb e c p ++ R) = some (⟨!e, c, p⟩, (hdb e c p).length) := by
  have hA : ((if e = true then 0 else 1) :: bek c 8).length = 9 := by rw [List.length_cons, bek_length]
  have hk := rdk_prl hp hA R p.length (Nat.le_refl _)
  have hb : (if e = true then 0 else 1) :: bek c 8 ++ prl p ++ R = hdb e c p ++ R := by unfold hdb; simp
  rw [hb, List.take_length] at hk
  have hl := hdb_length e c p
  have h0 : (hdb e c p ++ R)[0]?.getD 0 = if e = true then 0 else 1 := by unfold hdb; simp
  have hd : ((hdb e c p ++ R).drop 1).take 8 = bek c 8 := by
    unfold hdb
    show ((bek c 8 ++ prl p) ++ R).take 8 = _
    rw [List.append_assoc, List.take_left' (bek_length c 8)]
  unfold rdc
  rw [h0, hd, be_all h h2, hk, if_neg (by rw [List.length_append, hl]; cases e <;> simp <;> omega), ← hl]
  cases e with
  | true => rw [hR rfl]; simp
  | false => simp
/-- what a search's bytes ahead show, with any marks -/
theorem ckw_hdb {s : Sn} {e : Bool} {c : Int} {p : List (List Int)} (hr : rgt s = true) (hf : fsb s p = true) (hc : c = RM.cst s.st s.ws s.cs p) (h : 0 ≤ c) (h2 : c ≤ 1099511627776) (R : List Nat) (hR : e = true → R = []) : ckw s (hdb e c p ++ R) = if e = false ∧ mrk s c R = false then (10, clm0) else (0, ⟨!e, c, p⟩) := by
  have hfs := fsb_fs hf
  have hrd := rdc_hdb (e := e) (fun x hx => (hfs.fr x hx).1) h h2 R hR
  unfold ckw
  rw [if_pos hr, hfs.pc, hrd]
  show (if fsb s p = true then (if RM.cst s.st s.ws s.cs p = c then (if (!e) = true ∧ mrk s c ((hdb e c p ++ R).drop (hdb e c p).length) = false then (10, clm0) else (0, (⟨!e, c, p⟩ : Clm))) else (10, clm0)) else (9, clm0)) = _
  rw [if_pos hf, if_pos hc.symm, List.drop_left]
  cases e <;> simp
/-- whatever bytes: what is shown may be, costs so much, and, if it is the best one, no plan costs less -/
theorem ckw_sound {s : Sn} {b : List Nat} {x : Clm} (h : ckw s b = (0, x)) : fsb s x.plan = true ∧ RM.cst s.st s.ws s.cs x.plan = x.cost ∧ (x.best = true → Best s x.cost) := by
  unfold ckw at h
  split at h
  · rename_i hr
    split at h
    · cases h
    · split at h
      · split at h
        · split at h
          · cases h
          · rename_i y a _ hf hc hm
            cases h
            refine ⟨hf, hc, fun hb => ⟨⟨_, hf, hc⟩, fun p hp => ?_⟩⟩
            have hmk : mrk s x.cost (b.drop a) = true := by
              cases e : mrk s x.cost (b.drop a) with
              | true => rfl
              | false => exact absurd ⟨hb, e⟩ hm
            unfold mrk at hmk
            have hmk := eq_of_beq hmk
            have hfp := fsb_fs hp
            have hpc := hfp.pc
            have h1 := hfp.p1
            exact cvi_all _ _ _ (root_bgn hr) hmk hfp (root_beg hpc.symm (by omega))
        · cases h
      · cases h
  · cases h
theorem ckw_err {s : Sn} {b : List Nat} (h : (ckw s b).1 ≠ 0) : (ckw s b).2 = clm0 := by
  unfold ckw at h ⊢
  split
  · rename_i hr
    rw [if_pos hr] at h
    split
    · rfl
    · rename_i hrd
      rw [hrd] at h
      dsimp only at h ⊢
      split
      · rename_i hf
        rw [if_pos hf] at h
        split
        · rename_i hc
          rw [if_pos hc] at h
          split
          · rfl
          · rename_i hm
            rw [if_neg hm] at h
            exact absurd rfl h
        · rfl
      · rfl
  · rfl
section
variable {s : Sn} {B : Nat}
/-- a complete search's marks hold -/
theorem fnd_mrk (hr : rgt s = true) (he : (fnd s B).ended = false) : (fnd s B).nodes = (fnd s B).marks.length ∧ ∀ t, cvi s (fnd s B).cost (s.cs.length + s.ws.length) 0 (List.replicate s.cs.length []) (List.replicate s.ws.length false) ((fnd s B).marks ++ t) = some t := by
  have hb := (bgn_all (root_bgn hr)).2.2.1
  obtain ⟨_, M, e1, e2, e3⟩ := vis_mk (s := s) (c := (fnd s B).cost) (B := B) (s.cs.length + s.ws.length) 0 (List.replicate s.cs.length []) (List.replicate s.ws.length false) (root s) (by
    rw [List.length_replicate]
    unfold PM.lf
    rw [List.count_replicate]
    simp) hb he
  have e1 : (fnd s B).marks = M := e1
  have e2 : (fnd s B).nodes = 0 + M.length := e2
  rw [e1, e2, Nat.zero_add]
  exact ⟨rfl, fun t => e3 (Int.le_refl _) t⟩
theorem mrk_find (hr : rgt s = true) (he : (fnd s B).ended = false) : mrk s (fnd s B).cost (fnd s B).marks = true := by
  unfold mrk
  have := (fnd_mrk hr he).2 []
  rw [List.append_nil] at this
  rw [this]
  rfl
/-- one mark more; one less -/
theorem mrk_more (hr : rgt s = true) (he : (fnd s B).ended = false) (m : Nat) : mrk s (fnd s B).cost ((fnd s B).marks ++ [m]) = false := by
  unfold mrk
  rw [(fnd_mrk hr he).2 [m]]
  rfl
theorem mrk_less (hr : rgt s = true) (he : (fnd s B).ended = false) : mrk s (fnd s B).cost (fnd s B).marks.dropLast = false := by
  have h1 := (fnd_mrk hr he).2 []
  rw [List.append_nil] at h1
  have hl := cvi_less h1
  have hne : (fnd s B).marks ≠ [] := fun e => by rw [e] at hl; simp at hl
  cases e : mrk s (fnd s B).cost (fnd s B).marks.dropLast with
  | false => rfl
  | true =>
    exfalso
    unfold mrk at e
    have e := eq_of_beq e
    have h2 := cvi_ext [(fnd s B).marks.getLast hne] _ _ _ _ _ _ e
    rw [List.dropLast_concat_getLast, h1] at h2
    cases h2
end
end
end Go.Proofs.Ytagmidolcdefiah

/- A check's tree: a node's marks, and whether marks show something. -/
namespace Go.Proofs.Ytagmidolcdefiah
open Go.RowKit Go.Shelf
section
variable {s : Sn} {c : Int}
theorem Lop.of {o : Option (List Nat)} {mb : Nat} {W w' : World} {b : Bool} {r : List Nat} (k : Kp (fun i => i = mb) W w') (h : RR w' mb r) (ho : o = if b = true then some r else none) : Lop o mb W (.returned (.bool b)) w' := by
  refine ⟨k, ?_⟩
  cases b with
  | true => exact .inl ⟨r, ho, rfl, h⟩
  | false => exact .inr ⟨ho, rfl⟩
set_option maxRecDepth 100000 in
set_option maxHeartbeats 4000000 in
theorem klook_step {f : Nat} (hL : Lok s c f) : Lok s c (f + 1) := by
  intro W mb n tb g vc vw vt r hm h
  have HV0 := Hid.intro' (Vz.new h)
  have HOK := Hid.intro' h.ok
  cases r with
  | nil =>
    have HTK := Hid.intro' (ktake_no HV0.out.li.rr (n := 1) (by simp))
    have HN := Hid.intro' (cvm_nil (c := c) h.ok)
    clear h hL hm
    go_enter Try.func61, Try.ntmps61
    go_wp2_with fail
    refine HTK.out.mono ?_
    rintro e W2 ⟨rfl, rfl⟩
    go_wp2
    go_ret
    exact ⟨HV0.out.kp, .inr ⟨HN.out, rfl⟩⟩
  | cons m r =>
    have HTK := Hid.intro' (ktake_yes HV0.out.li.rr (n := 1) (by simp))
    have HEQ := Hid.intro' (cvm_eq (c := c) (r := r) h.ok m)
    have HLF := Hid.intro' (left_nil h.ok)
    have HLB := Hid.intro' hL
    have HM := Hid.intro' hm
    obtain ⟨o, HO⟩ : ∃ o, Hid (cvm s c n (m :: r) = o) := ⟨_, Hid.intro' rfl⟩
    rw [HO.out] at HEQ ⊢
    clear h hL hm
    go_enter Try.func61, Try.ntmps61
    go_wp2_with fail
    refine HTK.out.mono ?_
    rintro e W2 ⟨a, rfl, hy, hr, hk⟩
    have HV2 : Hid (Vz W W2 mb s n tb g vc vw vt r) := HV0.out.look hk hr
    obtain ⟨gb, ob, rfl, hcb⟩ := hy.at (i := 0) (x := m) rfl
    have cb : W2.cell? ⟨gb, ob, none⟩ = some (.int .u8 (m : Int)) := hcb
    clear hy hr hk HTK HV0 hcb
    have hm4 : m = 0 ∨ m = 1 ∨ m = 2 ∨ 3 ≤ m := by omega
    rcases hm4 with rfl | rfl | rfl | hm3
    · have HLE := Hid.intro' (kleast_any HV2.out.li.tr HOK.out HV2.out.li.row)
      have HN2 := Hid.intro' HV2.out.nd
      obtain ⟨L, HLL⟩ : ∃ L, Hid (lsv s n.k n.b n.st = L) := ⟨_, Hid.intro' rfl⟩
      rw [HLL.out] at HLE HEQ
      go_wp2_with (refine wpList_loadK rfl _ rfl W.heap.size _ rfl HN2.out ?_)
      refine HLE.out.mono ?_
      rintro e W3 ⟨rfl, hb3⟩
      have HV3 := Hid.intro' (HV2.out.next hb3)
      clear hb3 HV2 HN2 HLE cb
      by_cases hle : c ≤ L
      · have HR : Hid (o = some r) := by show _ = _; rw [HEQ.out]; simp [hle]
        have hle' : decide (c ≤ L) = true := decide_eq_true hle
        go_wp2
        go_ret
        exact ⟨HV3.out.kp, .inl ⟨r, HR.out, rfl, HV3.out.li.rr⟩⟩
      · have HR : Hid (o = none) := by show _ = _; rw [HEQ.out]; simp [hle]
        have hle' : decide (c ≤ L) = false := decide_eq_false hle
        go_wp2
        go_ret
        exact ⟨HV3.out.kp, .inr ⟨HR.out, rfl⟩⟩
    · have c3 : W2.cell? ⟨W.heap.size, 3, none⟩ = some (.int .i64 ((PM.lf n.st : Nat) : Int)) := HV2.out.nd.cell 3
      by_cases hz : PM.lf n.st = 0
      · have HR : Hid (o = none) := by show _ = _; rw [HEQ.out]; simp [HLF.out.2 hz]
        have hz' : ¬ (0 : Int) < ((PM.lf n.st : Nat) : Int) := by omega
        clear hz
        go_wp2
        go_ret
        exact ⟨HV2.out.kp, .inr ⟨HR.out, rfl⟩⟩
      · have HR : Hid (o = cvb s c n r) := by
          show _ = _
          rw [HEQ.out, if_neg (by
            rintro (h | h | h)
            · omega
            · exact hz (HLF.out.1 h.2)
            · omega), if_neg (by simp)]
        have hz' : (0 : Int) < ((PM.lf n.st : Nat) : Int) := by omega
        have HBH := Hid.intro' (klookBehind_any HLB.out HM.out HV2.out.li)
        have HN2 := Hid.intro' HV2.out.nd
        rw [← HR.out] at HBH
        clear hz
        go_wp2_with (refine wpList_loadK rfl _ rfl W.heap.size _ rfl HN2.out ?_)
        refine HBH.out.mono ?_
        rintro e W3 ⟨hk3, ho⟩
        have HKK := Hid.intro' (HV2.out.kp.trans hk3 (fun _ _ h => h))
        obtain ⟨bb, rfl, HE⟩ : ∃ b, e = .returned (.bool b) ∧ Hid ((∃ r, o = some r ∧ b = true ∧ RR W3 mb r) ∨ (o = none ∧ b = false)) := by
          rcases ho with ⟨r2, h1, rfl, h2⟩ | ⟨h1, rfl⟩
          · exact ⟨true, rfl, .inl ⟨r2, h1, rfl, h2⟩⟩
          · exact ⟨false, rfl, .inr ⟨h1, rfl⟩⟩
        clear hk3 ho HV2 HN2 HBH cb c3
        go_wp2
        go_ret
        refine ⟨HKK.out, ?_⟩
        rcases HE.out with ⟨r2, h1, rfl, h2⟩ | ⟨h1, rfl⟩
        · exact .inl ⟨r2, h1, rfl, h2⟩
        · exact .inr ⟨h1, rfl⟩
    · have c3 : W2.cell? ⟨W.heap.size, 3, none⟩ = some (.int .i64 ((PM.lf n.st : Nat) : Int)) := HV2.out.nd.cell 3
      have c2 : W2.cell? ⟨W.heap.size, 2, none⟩ = some (.int .i64 (RM.cst s.st s.ws s.cs n.b)) := HV2.out.nd.cell 2
      by_cases hz : PM.lf n.st = 0
      · have hls := lsv_leaf (k := n.k) (b := n.b) (HLF.out.2 hz)
        obtain ⟨L, HLL⟩ : ∃ L, Hid (RM.cst s.st s.ws s.cs n.b = L) := ⟨_, Hid.intro' rfl⟩
        rw [HLL.out] at c2 hls
        have hlf := HLF.out.2 hz
        have HR : Hid (o = if c ≤ L then some r else none) := by
          show _ = _
          rw [HEQ.out, hls, if_neg (by simp [hlf]), if_pos (by simp)]
        rw [hz] at c3
        clear hz hls hlf
        by_cases hle : c ≤ L
        · have HR2 : Hid (o = some r) := by show _ = _; rw [HR.out, if_pos hle]
          have hle' : decide (c ≤ L) = true := decide_eq_true hle
          clear HR hle
          go_wp2
          go_ret
          exact ⟨HV2.out.kp, .inl ⟨r, HR2.out, rfl, HV2.out.li.rr⟩⟩
        · have HR2 : Hid (o = none) := by show _ = _; rw [HR.out, if_neg hle]
          have hle' : decide (c ≤ L) = false := decide_eq_false hle
          clear HR hle
          go_wp2
          go_ret
          exact ⟨HV2.out.kp, .inr ⟨HR2.out, rfl⟩⟩
      · have HR : Hid (o = none) := by
          show _ = _
          rw [HEQ.out, if_pos (.inr (.inr ⟨rfl, fun h => hz (HLF.out.1 h)⟩))]
        have hz' : (((PM.lf n.st : Nat) : Int) == 0) = false := by simp; omega
        clear hz
        go_wp2
        go_ret
        exact ⟨HV2.out.kp, .inr ⟨HR.out, rfl⟩⟩
    · have HR : Hid (o = none) := by show _ = _; rw [HEQ.out, if_pos (.inl (by omega))]
      have q0 : ((m : Int) == 0) = false := by simp; omega
      have q1 : ((m : Int) == 1) = false := by simp; omega
      have q2 : ((m : Int) == 2) = false := by simp; omega
      clear hm3
      go_wp2
      go_ret
      exact ⟨HV2.out.kp, .inr ⟨HR.out, rfl⟩⟩
theorem klook_all : ∀ f, Lok s c f
  | 0 => fun W mb n tb g vc vw vt r hm h => by
    have := ok_m h.ok
    omega
  | f + 1 => klook_step (klook_all f)
/-- do the marks hold? -/
theorem mrk_cvm (s : Sn) (c : Int) (r : List Nat) : mrk s c r = (cvm s c (nd0 s) r == some []) := by
  have e : (nd0 s).m = s.cs.length + s.ws.length := by
    unfold Nn.m nd0 PM.lf
    simp
  unfold mrk cvm
  rw [e]; rfl
set_option maxRecDepth 100000 in
set_option maxHeartbeats 4000000 in
theorem kshows_any {D D' : Nat → Prop} {W : World} {tb : Nat} {vc vw vt v : Value} {r : List Nat} (ht : TC D W tb s vc vw vt) (hr : RY D' W v r) :
    Calls Try.prog 30 #[.pointer (some ⟨tb, 0, none⟩), .int .i64 c, .agg #[v]] W fun e w' => e = .returned (.bool (mrk s c r)) ∧ Below W.heap.size W w' := by
  have hb0 := (Below.refl W.heap.size W).alloc (Nat.le_refl _) (.cells #[v] 68)
  have HT := Hid.intro' ((ht.mono (D' := fun i => i ≠ W.heap.size) fun g _ hl => by omega).below' hb0)
  have HRR : Hid (RR (W.alloc (.cells #[v] 68)) W.heap.size r) := ⟨v, RB.new W v, (hr.mono fun g _ hl _ => by omega).below' hb0⟩
  have HFI := Hid.intro' (kfirst_any HT.out)
  have HB0 := Hid.intro' hb0
  have HK0 := Hid.intro' (nd0_ok ht.rg)
  have HMK := Hid.intro' (mrk_cvm s c r)
  obtain ⟨bm, HBM⟩ : ∃ b, Hid (mrk s c r = b) := ⟨_, Hid.intro' rfl⟩
  rw [HBM.out] at HMK ⊢
  clear ht hr hb0
  go_enter Try.func30, Try.ntmps30
  go_wp2_with fail
  refine HFI.out.mono ?_
  rintro e W2 ⟨g, rfl, hg, hrow, hb2⟩
  have hmb := HRR.out.lt
  have HLI : Hid (Lin W2 W.heap.size s (nd0 s) tb g vc vw vt r) := ⟨HT.out.below' hb2, HK0.out, hrow, by omega, HRR.out.below' hb2⟩
  have HLC := Hid.intro' (klook_all (c := c) (nd0 s).m W2 W.heap.size (nd0 s) tb g vc vw vt r (Nat.le_refl _) HLI.out)
  have HB2 := Hid.intro' (below_class HB0.out hb2)
  clear hg hrow hb2 hmb HT HRR HFI HLI HB0
  go_wp2_with fail
  refine HLC.out.mono ?_
  rintro e W3 ⟨hk3, ho⟩
  have HB3 := Hid.intro' (hk3.below HB2.out HB2.out.size (fun i hi e => by omega))
  clear hk3 HLC HB2
  rcases ho with ⟨r2, h1, rfl, h2⟩ | ⟨h1, rfl⟩
  · obtain ⟨v2, h3, h4⟩ := h2.bl
    obtain ⟨a2, k2, rfl, _, _, _⟩ := h4.form
    have c0 := h3.cell
    cases r2 with
    | nil =>
      have HR : Hid (true = bm) := by show _ = _; rw [HMK.out, h1]; rfl
      clear h1 h2 h3 h4
      go_wp2
      go_ret
      exact ⟨ret_bool HR.out, HB3.out⟩
    | cons x r3 =>
      have HR : Hid (false = bm) := by show _ = _; rw [HMK.out, h1]; rfl
      have q : (((r3.length : Nat) : Int) + 1 == 0) = false := by simp; omega
      clear h1 h2 h3 h4
      go_wp2
      go_ret
      exact ⟨ret_bool HR.out, HB3.out⟩
  · have HR : Hid (false = bm) := by show _ = _; rw [HMK.out, h1]; rfl
    clear h1
    go_wp2
    go_ret
    exact ⟨ret_bool HR.out, HB3.out⟩
end
end Go.Proofs.Ytagmidolcdefiah

/- Claims in memory, and what a check gives. -/
namespace Go.Proofs.Ytagmidolcdefiah
open Go.RowKit Go.Shelf
/-- a block that holds a claim -/
def JB (W : World) (b : Nat) (ok : Bool) (co : Int) (vp : Value) : Prop := W.heap[b]? = some (.cells #[.bool ok, .int .i64 co, vp] 43 (0, 0))
section
variable {W W' : World} {b : Nat} {vp : Value} {co : Int} {ok : Bool}
theorem JB.lt (H : JB W b ok co vp) : b < W.heap.size := (Array.getElem?_eq_some_iff.1 H).1
theorem JB.below' (H : JB W b ok co vp) (hb : Below W.heap.size W W') : JB W' b ok co vp := (hb.block b H.lt).trans H
theorem JB.kp {G : Nat → Prop} (H : JB W b ok co vp) (k : Kp G W W') (hG : ¬ G b) : JB W' b ok co vp := (k.block b H.lt hG).trans H
theorem JB.new (W : World) (ok : Bool) (co : Int) (vp : Value) : JB (W.alloc (.cells #[.bool ok, .int .i64 co, vp] 43)) W.heap.size ok co vp := World.alloc_heap_new W _
theorem JB.cell (H : JB W b ok co vp) (i : Nat) : W.cell? ⟨b, i, none⟩ = [Value.bool ok, .int .i64 co, vp][i]? := blk_cell H i
theorem JB.fr (H : JB W b ok co vp) (i : Nat) : W.frozen? ⟨b, i, none⟩ = false := blk_fr H i
end
theorem infoJ : (Try.prog.info? 43).map (·.size) = some 3 := by kernel_rfl
theorem kp_rowJ (w : World) (b : Nat) (cs : Array Value) : Kp (fun k => k = b) w (w.setRow b cs) := ⟨rfl, rfl, rfl, by simp [World.setRow], fun k _ hk => setRow_other w b k cs hk⟩
theorem wpList_storeJ {ops : Array Oper} {rest : List Oper} {op : Oper} {a : Act} {w : World} {Q : Exit → Act → World → Prop} (hgd : op.guard = none) (x y : Operand) (ho : op.op = .store 43 x y)
    (b : Nat) {vp : Value} {co : Int} {ok : Bool} {a1 : Option Addr} {n1 c1 : Nat} {co' : Int} {ok' : Bool} (hx : a.eval x = .pointer (some ⟨b, 0, none⟩)) (hy : a.eval y = .agg #[.bool ok', .int .i64 co', .slice a1 n1 c1]) (hL : JB w b ok co vp)
    (hn : ∀ W', Kp (fun k => k = b) w W' → JB W' b ok' co' (.slice a1 n1 c1) → wpList Try.prog ops Q rest (a.put op.dst undef) W') : wpList Try.prog ops Q (op :: rest) a w :=
  wpList_store_row hgd 43 x y ho b _ hx hy _ _ hL infoJ rfl (by simp [Value.oneCell']) (hn _ (kp_rowJ w b _) (setRow_heap w b _ _ _ _ hL))
theorem wpList_loadJ {ops : Array Oper} {rest : List Oper} {op : Oper} {a : Act} {w : World} {Q : Exit → Act → World → Prop} (hgd : op.guard = none) (x : Operand) (ho : op.op = .load 43 x) (b : Nat) {vp : Value} {co : Int} {ok : Bool} (hx : a.eval x = .pointer (some ⟨b, 0, none⟩)) (H : JB w b ok co vp)
    (hn : wpList Try.prog ops Q rest (a.put op.dst (.agg #[.bool ok, .int .i64 co, vp])) w) : wpList Try.prog ops Q (op :: rest) a w :=
  wpList_load_row hgd 43 x ho b hx _ _ _ _ H Try.underlying43 rfl infoJ hn
theorem retJ2 {fn : Func} {p t : Tmp} (hf : fn.results = #[.cell p 43, .tmp t]) {tmps : Array Value} {w : World} {b : Nat} {vp : Value} {co : Int} {ok : Bool} {u : Value} (hp : tmps.getD p undef = .pointer (some ⟨b, 0, none⟩)) (ht : tmps.getD t undef = u) (H : JB w b ok co vp) :
    (results fn tmps).run Try.prog w = .ok (.tuple #[.agg #[.bool ok, .int .i64 co, vp], u]) w := by
  have hp' : tmps[p]?.getD undef = .pointer (some ⟨b, 0, none⟩) := by simpa using hp
  have ht' : tmps[t]?.getD undef = u := by simpa using ht
  have H' : w.heap[b]? = some (.cells #[.bool ok, .int .i64 co, vp] 43 (0, 0)) := H
  simp [results, hf, hp', ht', asAddr, run_loadVar_row w b 43 43 _ _ _ H' Try.underlying43 rfl infoJ]
/-- lists of a proof are no longer than a byte tells -/
theorem rdk_len {b : List Nat} (hb : Byt b) : ∀ {k a : Nat} {p : List (List Int)}, rdk b k = some (p, a) → ∀ l ∈ p, l.length ≤ 255
  | 0, a, p, h => by
    cases h
    intro l hl
    simp at hl
  | k + 1, a, p, h => by
    cases hk : rdk b k with
    | none => rw [show rdk b (k + 1) = (rdk b k).bind (rds b) from rfl, hk] at h; cases h
    | some x =>
      obtain ⟨q, c⟩ := x
      have ih := rdk_len hb hk
      cases hc : b[c]? with
      | none => rw [rdk_out hk (by rw [List.getElem?_eq_none_iff] at hc; exact hc)] at h; cases h
      | some n =>
        by_cases hn : b.length < c + 1 + n
        · rw [rdk_long hk hc hn] at h; cases h
        · rw [rdk_next hk hc (by omega)] at h
          cases h
          intro l hl
          rw [List.mem_append, List.mem_singleton] at hl
          rcases hl with hl | hl
          · exact ih l hl
          · have := hb n (List.mem_of_getElem? hc)
            rw [hl, List.length_map, List.length_take]
            omega
theorem rdc_some {n : Nat} {b : List Nat} {c : Clm} {a : Nat} (h : rdc n b = some (c, a)) : 9 ≤ b.length ∧ rdk b n = some (c.plan, a) := by
  unfold rdc at h
  split at h
  · cases h
  · rename_i hno
    cases hk : rdk b n with
    | none => rw [hk] at h; cases h
    | some x =>
      obtain ⟨p, a'⟩ := x
      rw [hk] at h
      dsimp only at h
      split at h
      · cases h
        exact ⟨by omega, rfl⟩
      · cases h
/-- what a check gives -/
structure CkP (s : Sn) (b : List Nat) (w : World) (e : Ending) (w' : World) : Prop where
  bel : Below w.heap.size w w'
  out : ∃ vp, e = .returned (.tuple #[.agg #[.bool (ckw s b).2.best, .int .i64 (ckw s b).2.cost, vp], .int .i64 ((ckw s b).1 : Int)]) ∧ RL (fun g => w.heap.size ≤ g) w' vp (ckw s b).2.plan
theorem CkP.no {s : Sn} {b : List Nat} {w w' : World} {n : Nat} (h : ckw s b = (n, clm0)) (hb : Below w.heap.size w w') : CkP s b w (.returned (.tuple #[.agg #[.bool false, .int .i64 0, .slice none 0 0], .int .i64 (n : Int)])) w' := ⟨hb, .slice none 0 0, by rw [h]; rfl, by rw [h]; exact RL.nil _ _⟩
theorem CkP.yes {s : Sn} {b : List Nat} {w w' : World} {vp : Value} {c : Clm} (h : ckw s b = (0, c)) (hb : Below w.heap.size w w') (hr : RL (fun g => w.heap.size ≤ g) w' vp c.plan) : CkP s b w (.returned (.tuple #[.agg #[.bool c.best, .int .i64 c.cost, vp], .int .i64 0])) w' := ⟨hb, vp, by rw [h]; rfl, by rw [h]; exact hr⟩
end Go.Proofs.Ytagmidolcdefiah

/- A proof's form is read: a cost, a list. -/
namespace Go.Proofs.Ytagmidolcdefiah
open Go.RowKit Go.Shelf
/-- bytes as a number -/
def ben (l : List Nat) : Nat := l.foldl (fun a x => a * 256 + x) 0
theorem ben_snoc (l : List Nat) (x : Nat) : ben (l ++ [x]) = ben l * 256 + x := by unfold ben; rw [List.foldl_append]; rfl
theorem ben_be (l : List Nat) : be l = (ben l : Int) := by
  unfold be ben
  have : ∀ (l : List Nat) (a : Nat), l.foldl (fun a (x : Nat) => 256 * a + (x : Int)) (a : Int) = ((l.foldl (fun a x => a * 256 + x) a : Nat) : Int) := by
    intro l
    induction l with
    | nil => intro a; rfl
    | cons x l ih =>
      intro a
      rw [List.foldl_cons, List.foldl_cons, ← ih]
      congr 1
      omega
  exact this l 0
theorem ben_lt {l : List Nat} (hl : Byt l) : ∀ k, k ≤ l.length → ben (l.take k) < 256 ^ k
  | 0, _ => by simp [ben]
  | k + 1, h => by
    obtain ⟨x, hx⟩ : ∃ x, l[k]? = some x := ⟨_, List.getElem?_eq_getElem (by omega)⟩
    have ih := ben_lt hl k (by omega)
    have := hl x (List.mem_of_getElem? hx)
    rw [take_snoc hx, ben_snoc, Nat.pow_succ]
    omega
theorem or8 (x y : Nat) (hy : y < 256) (hx : x < 72057594037927936) : bits .or .u64 ((x : Int) * 256) (y : Int) = ((x * 256 + y : Nat) : Int) := by
  have h1 : (x * 256) ||| y = x * 256 + y := by
    have := Nat.two_pow_add_eq_or_of_lt (i := 8) hy x
    rw [show 2 ^ 8 * x = x * 256 by omega] at this
    exact this.symm
  rw [show (x : Int) * 256 = ((x * 256 : Nat) : Int) by omega]
  show IntKind.u64.wrap ((BitVec.ofInt 64 ((x * 256 : Nat) : Int) ||| BitVec.ofInt 64 (y : Int)).toNat : Nat) = _
  rw [BitVec.toNat_or, BitVec.ofInt_natCast, BitVec.ofInt_natCast, BitVec.toNat_ofNat, BitVec.toNat_ofNat, Nat.mod_eq_of_lt (by omega), Nat.mod_eq_of_lt (by omega), h1, IntKind.wrap_u64]
  omega
section
variable {W : World} {b : Nat} {r : List Nat}
set_option maxHeartbeats 2000000 in
theorem kcostr_short (h : RR W b r) (hn : r.length < 8) : Calls Try.prog 52 #[.pointer (some ⟨b, 0, none⟩)] W fun e w' => e = .returned (.tuple #[.int .i64 0, .bool false]) ∧ Kp (fun i => i = b) W w' := by
  have HTK := Hid.intro' (ktake_no h (n := 8) hn)
  clear h hn
  go_enter Try.func52, Try.ntmps52
  go_wp2_with fail
  refine HTK.out.mono ?_
  rintro e W2 ⟨rfl, rfl⟩
  go_wp2_with fail
  go_loopw [6, 16] (fun cv iv wr => cv = .int .u64 0 ∧ iv = .int .i64 0 ∧ Hid (wr = W2)) (fun _ _ _ => 0)
  case atStart => exact ⟨rfl, rfl, rfl⟩
  case round =>
    obtain ⟨rfl, rfl, HW⟩ := hrel
    go_wp2
    go_ret2
    exact ⟨rfl, by rw [HW.out]; exact Kp.refl _ _⟩
/-- what holds while a cost is read -/
structure Rz3 (W wr : World) (b : Nat) (a : Option Addr) (r : List Nat) : Prop where
  by8 : RY (fun g => g < b) wr (.slice a 8 8) (r.take 8)
  rr : RR wr b (r.drop 8)
  kp : Kp (fun i => i = b) W wr
set_option maxRecDepth 100000 in
set_option maxHeartbeats 4000000 in
theorem kcostr_any (h : RR W b r) (hn : 8 ≤ r.length) : Calls Try.prog 52 #[.pointer (some ⟨b, 0, none⟩)] W fun e w' => Kp (fun i => i = b) W w' ∧ ((1099511627776 < be (r.take 8) ∧ e = .returned (.tuple #[.int .i64 0, .bool false])) ∨ (be (r.take 8) ≤ 1099511627776 ∧ e = .returned (.tuple #[.int .i64 (be (r.take 8)), .bool true]) ∧ RR w' b (r.drop 8))) := by
  have HTK := Hid.intro' (ktake_yes h (n := 8) hn)
  have HBY := Hid.intro' (h.byt.take 8)
  have HL8 : Hid ((r.take 8).length = 8) := by show _ = _; rw [List.length_take]; omega
  rw [ben_be]
  clear h hn
  go_enter Try.func52, Try.ntmps52
  go_wp2_with fail
  refine HTK.out.mono ?_
  rintro e W2 ⟨a, rfl, h1, h2, h3⟩
  have HZ0 : Hid (Rz3 W W2 b a r) := ⟨h1, h2, h3⟩
  clear h1 h2 h3 HTK
  generalize hl : r.take 8 = l at HBY HL8
  have HL := Hid.intro' hl
  clear hl
  go_wp2_with fail
  go_loopw [6, 16] (fun cv iv wr => ∃ i : Nat, i ≤ 8 ∧ cv = .int .u64 (ben (l.take i) : Int) ∧ iv = .int .i64 (i : Int) ∧ Hid (Rz3 W wr b a r)) (fun _ iv _ => 8 - (intOf iv).toNat)
  case atStart => exact ⟨0, by omega, rfl, rfl, HZ0⟩
  case round =>
    clear HZ0
    obtain ⟨i, hi, rfl, rfl, HZ⟩ := hrel
    by_cases hlt : i < 8
    · have hiz : (i : Int) < 8 := by omega
      obtain ⟨x, hx⟩ : ∃ x, l[i]? = some x := ⟨_, List.getElem?_eq_getElem (by rw [HL8.out]; exact hlt)⟩
      have hb := HZ.out.by8
      rw [HL.out] at hb
      obtain ⟨g, o, ha, hc⟩ := hb.at hx
      subst ha
      have hxb : x < 256 := HBY.out x (List.mem_of_getElem? hx)
      have hlt56 : ben (l.take i) < 72057594037927936 := by
        have h1 := ben_lt HBY.out i (by rw [HL8.out]; omega)
        have h2 : 256 ^ i ≤ 256 ^ 7 := Nat.pow_le_pow_right (by omega) (by omega)
        have h3 : (256 : Nat) ^ 7 = 72057594037927936 := by decide
        omega
      have HNX : Hid (ben (l.take (i + 1)) = ben (l.take i) * 256 + x) := by show _ = _; rw [take_snoc hx, ben_snoc]
      have hsh : IntKind.u64.wrap ((ben (l.take i) : Int) * 256) = (ben (l.take i) : Int) * 256 := by rw [IntKind.wrap_u64]; omega
      have hor := or8 (ben (l.take i)) x hxb hlt56
      have hwx : IntKind.u64.wrap (x : Int) = (x : Int) := by rw [IntKind.wrap_u64]; omega
      rw [← HNX.out] at hor
      generalize ben (l.take i) = c at hsh hor
      generalize hd : ben (l.take (i + 1)) = d at hor
      have HD := Hid.intro' hd.symm
      clear hx hb hlt56 hxb HNX hd
      go_wp2
      go_roundw
      case rel => exact ⟨i + 1, by omega, by rw [HD.out], by go_num, HZ⟩
      case measure => simp [intOf]; omega
    · have hiz : ¬ (i : Int) < 8 := by omega
      have hie : l.take i = l := List.take_of_length_le (by rw [HL8.out]; omega)
      rw [hie]
      by_cases hbig : 1099511627776 < ben l
      · have q : (1099511627776 : Int) < (ben l : Int) := by omega
        clear hie
        go_wp2
        go_ret2
        exact ⟨HZ.out.kp, .inl ⟨by rw [HL.out]; exact q, rfl⟩⟩
      · have q : ¬ (1099511627776 : Int) < (ben l : Int) := by omega
        have hw : IntKind.i64.wrap (ben l : Int) = (ben l : Int) := IntWalk.i64_in _ (by omega)
        have HQ : Hid ((ben l : Int) ≤ 1099511627776) := by show _ ≤ _; omega
        clear hie hbig
        go_wp2
        go_ret2
        exact ⟨HZ.out.kp, .inr ⟨by rw [HL.out]; exact HQ.out, by rw [HL.out]; rfl, HZ.out.rr⟩⟩
end
end Go.Proofs.Ytagmidolcdefiah

/- A proof's form is read: a car's list. -/
namespace Go.Proofs.Ytagmidolcdefiah
open Go.RowKit Go.Shelf
/-- a list as far as it is read -/
def lrd (r : List Nat) (n i : Nat) : List Int := ((r.take i).map fun (x : Nat) => (x : Int)) ++ List.replicate (n - i) 0
theorem lrd_zero (r : List Nat) (n : Nat) : lrd r n 0 = List.replicate n 0 := by simp [lrd]
theorem lrd_end (r : List Nat) (n : Nat) : lrd r n n = (r.take n).map fun (x : Nat) => (x : Int) := by simp [lrd]
theorem lrd_at {r : List Nat} {n i : Nat} (hi : i < n) (hr : n ≤ r.length) : (lrd r n i)[i]? = some 0 := by
  unfold lrd
  rw [List.getElem?_append_right (by simp; omega), List.getElem?_replicate, if_pos (by simp; omega)]
theorem lrd_succ {r : List Nat} {n i x : Nat} (hi : i < n) (hr : n ≤ r.length) (hx : r[i]? = some x) : (lrd r n i).set i (x : Int) = lrd r n (i + 1) := by
  unfold lrd
  rw [List.set_append_right _ _ (by simp; omega), take_snoc hx, List.map_append, List.append_assoc]
  have e : i - ((r.take i).map fun (x : Nat) => (x : Int)).length = 0 := by simp; omega
  rw [e, show n - i = (n - (i + 1)) + 1 by omega, List.replicate_succ, List.set_cons_zero]
  rfl
/-- what holds while a list is read -/
structure Lz4 (W wr : World) (b g n : Nat) (a : Option Addr) (r : List Nat) (i : Nat) : Prop where
  oi : OI wr W.heap.size (.slice (some ⟨g, 0, none⟩) n n) (lrd r n i)
  ry : RY (fun k => k < g) wr (.slice a n n) (r.take n)
  rr : RR wr b (r.drop n)
  kp : Kp (fun i => i = b) W wr
  g1 : W.heap.size ≤ g
section
variable {W : World} {b : Nat} {r : List Nat}
theorem Lz4.put {wr : World} {g n i x : Nat} {a : Option Addr} (h : Lz4 W wr b g n a r i) (hi : i < n) (hr : n ≤ r.length) (hx : r[i]? = some x) (hb : b < W.heap.size) : Lz4 W (wr.setCell ⟨g, i, none⟩ (.int .i64 (x : Int))) b g n a r (i + 1) := by
  have kp : Kp (fun k => k = g) wr (wr.setCell ⟨g, i, none⟩ (.int .i64 (x : Int))) := (Kp.refl (fun k => k = g) wr).set _ _ _ (fun _ => rfl)
  have h1 := h.oi.put i (x : Int)
  rw [lrd_succ hi hr hx] at h1
  have hg := h.g1
  exact ⟨h1, h.ry.keep kp.size fun k hk hlt => kp.block k hlt (by omega), h.rr.far kp (fun i e => by omega), h.kp.set _ _ _ (fun h => by omega), hg⟩
theorem klist_nil (h : RR W b []) : Calls Try.prog 53 #[.pointer (some ⟨b, 0, none⟩)] W fun e w' => (∃ a k c, e = .returned (.tuple #[.slice a k c, .bool false])) ∧ Kp (fun i => i = b) W w' := by
  have HTK := Hid.intro' (ktake_no h (n := 1) (by simp))
  clear h
  go_enter Try.func53, Try.ntmps53
  go_wp2_with fail
  refine HTK.out.mono ?_
  rintro e W2 ⟨rfl, rfl⟩
  go_wp2
  go_ret2
  exact ⟨⟨_, _, _, rfl⟩, Kp.refl _ _⟩
set_option maxRecDepth 100000 in
set_option maxHeartbeats 4000000 in
theorem klist_short {n : Nat} (h : RR W b (n :: r)) (hn : r.length < n) : Calls Try.prog 53 #[.pointer (some ⟨b, 0, none⟩)] W fun e w' => (∃ a k c, e = .returned (.tuple #[.slice a k c, .bool false])) ∧ Kp (fun i => i = b) W w' := by
  have HTK := Hid.intro' (ktake_yes h (n := 1) (by simp))
  have hw := i64_byt (h.byt n (by simp))
  clear h
  go_enter Try.func53, Try.ntmps53
  go_wp2_with fail
  refine HTK.out.mono ?_
  rintro e W2 ⟨a, rfl, h1, h2, h3⟩
  obtain ⟨g, o, rfl, hc⟩ := h1.at (i := 0) (x := n) rfl
  have c0 : W2.cell? ⟨g, o, none⟩ = some (.int .u8 (n : Int)) := hc
  have HTK2 := Hid.intro' (ktake_no h2 hn)
  have HK := Hid.intro' h3
  clear h1 h2 h3 hc HTK
  go_wp2_with fail
  refine HTK2.out.mono ?_
  rintro e W3 ⟨rfl, rfl⟩
  have hmk : ∀ W : World, (Instr.makeSlice 55 (.int .i64 0) (.int .i64 0)).run Try.prog W = .ok (.slice (some ⟨W.heap.size, 0, none⟩) 0 0) (W.alloc (.cells #[] 3)) := fun W => mkI 0 (by omega) W
  have HK2 : Hid (Kp (fun i => i = b) W (W3.alloc (.cells #[] 3))) := HK.out.alloc _
  go_wp2_with fail
  generalize W3.alloc (.cells #[] 3) = W4 at HK2 ⊢
  go_loopw [31] (fun iv wr => iv = .int .i64 0 ∧ Hid (wr = W4)) (fun _ _ => 0)
  case atStart => exact ⟨rfl, rfl⟩
  case round =>
    obtain ⟨rfl, HW⟩ := hrel
    go_wp2
    go_ret2
    exact ⟨⟨_, _, _, rfl⟩, by rw [HW.out]; exact HK2.out⟩
set_option maxRecDepth 100000 in
set_option maxHeartbeats 4000000 in
theorem klist_yes {n : Nat} (h : RR W b (n :: r)) (hn : n ≤ r.length) : Calls Try.prog 53 #[.pointer (some ⟨b, 0, none⟩)] W fun e w' => ∃ g, e = .returned (.tuple #[.slice (some ⟨g, 0, none⟩) n n, .bool true]) ∧ W.heap.size ≤ g ∧ RI (fun k => k = g) w' (.slice (some ⟨g, 0, none⟩) n n) ((r.take n).map fun (x : Nat) => (x : Int)) ∧ RR w' b (r.drop n) ∧ Kp (fun i => i = b) W w' := by
  have HTK := Hid.intro' (ktake_yes h (n := 1) (by simp))
  have hn8 := h.byt n (by simp)
  have hw := i64_byt hn8
  have hbl := h.lt
  have HBY : Hid (Byt r) := fun x hx => h.byt x (by simp [hx])
  clear h
  go_enter Try.func53, Try.ntmps53
  go_wp2_with fail
  refine HTK.out.mono ?_
  rintro e W2 ⟨a, rfl, h1, h2, h3⟩
  obtain ⟨g, o, rfl, hc⟩ := h1.at (i := 0) (x := n) rfl
  have c0 : W2.cell? ⟨g, o, none⟩ = some (.int .u8 (n : Int)) := hc
  have h2 : RR W2 b r := h2
  have HTK2 := Hid.intro' (ktake_yes h2 hn)
  have HK := Hid.intro' h3
  clear h1 h2 h3 hc HTK
  go_wp2_with fail
  refine HTK2.out.mono ?_
  rintro e W3 ⟨a2, rfl, h1, h2, h3⟩
  have HK3 := Hid.intro' (HK.out.trans h3 (fun _ _ h => h))
  have hmk := mkI n (by omega)
  have hbA := (Below.refl W3.heap.size W3).alloc (Nat.le_refl _) (.cells (List.replicate n (Value.int .i64 0)).toArray 3)
  have hic : ic (List.replicate n 0) = List.replicate n (Value.int .i64 0) := by unfold ic; rw [List.map_replicate]
  have HZ0 : Hid (Lz4 W (W3.alloc (.cells (List.replicate n (Value.int .i64 0)).toArray 3)) b W3.heap.size n a2 r 0) := by
    have h4 := OI.lit (B := W.heap.size) W3 (List.replicate n 0) HK3.out.size (by simp; unfold maxLen; omega)
    rw [hic, List.length_replicate] at h4
    refine ⟨by rw [lrd_zero]; exact h4, ?_, h2.below' hbA, HK3.out.alloc _, HK3.out.size⟩
    exact (h1.mono fun k hk hlt _ => hlt).below' hbA
  clear h1 h2 h3 hbA hic HK HK3 HTK2 c0
  go_wp2_with fail
  clear hmk
  rw [List.toArray_replicate] at HZ0
  generalize W3.alloc (.cells (Array.replicate n (Value.int .i64 0)) 3) = W4 at HZ0 ⊢
  generalize W3.heap.size = gl at HZ0 ⊢
  go_loopw [31] (fun iv wr => ∃ i : Nat, i ≤ n ∧ iv = .int .i64 (i : Int) ∧ Hid (Lz4 W wr b gl n a2 r i)) (fun iv _ => n - (intOf iv).toNat)
  case atStart => exact ⟨0, by omega, rfl, HZ0⟩
  case round =>
    clear HZ0
    obtain ⟨i, hi, rfl, HZ⟩ := hrel
    by_cases hlt : i < n
    · have hiz : (i : Int) < (n : Int) := by omega
      obtain ⟨x, hx⟩ : ∃ x, r[i]? = some x := ⟨_, List.getElem?_eq_getElem (by omega)⟩
      have hxt : (r.take n)[i]? = some x := by rw [List.getElem?_take, if_pos hlt]; exact hx
      obtain ⟨gy, oy, ha, hc⟩ := HZ.out.ry.at hxt
      subst ha
      have hwx := i64_byt (HBY.out x (List.mem_of_getElem? hx))
      have d0 : wr.cell? ⟨gl, i, none⟩ = some (.int .i64 0) := HZ.out.oi.cell (lrd_at hlt hn)
      have f0 := HZ.out.oi.fr i
      have HZ2 := Hid.intro' (HZ.out.put hlt hn hx hbl)
      clear hx hxt HZ
      go_wp2
      go_roundw
      case rel => exact ⟨i + 1, by omega, by go_num, HZ2⟩
      case measure => simp [intOf]; omega
    · have hiz : ¬ (i : Int) < (n : Int) := by omega
      have hie : i = n := by omega
      rw [hie] at HZ
      have ho := HZ.out.oi
      rw [lrd_end, List.map_take] at ho
      have HO := Hid.intro' ho
      clear hie ho
      go_wp2
      go_ret2
      exact ⟨gl, rfl, HZ.out.g1, HO.out.ri fun k hk => by simpa [Value.ownBlock] using hk.symm, HZ.out.rr, HZ.out.kp⟩
end
end Go.Proofs.Ytagmidolcdefiah
