/- Several texts in one, each with its own head. -/
import Derived.Test.YtdfdkddjkhcgdaiPk5
import Derived.Test.YtdfdkddjkhcgdaiPk0
import Derived.Test.YtdfdkddjkhcgdaiPk3
import Derived.BigRegion
/- The rule's plan: nobody is nearer, and lists go away: mathematics. No program is named here. -/
namespace Go.Proofs.Ytdfdkddjkhcgdai

section
variable {s : Sn}
theorem rls_far (c : Nat) : ∀ d, (rls s c d).Pairwise fun x y => rfa s c x ≤ rfa s c y
  | 0 => by rw [rls_zero]; exact List.Pairwise.nil
  | d + 1 => by
    rw [rls_succ, List.pairwise_append]
    refine ⟨rls_far c d, ?_, fun x hx y hy => ?_⟩
    · refine List.Pairwise.imp_of_mem (R := fun _ _ => True) (fun {x y} hx hy _ => ?_) (List.pairwise_of_forall fun _ _ => trivial)
      obtain ⟨w, rfl, _, h1, _⟩ := rlk_mem.1 hx
      obtain ⟨v, rfl, _, h2, _⟩ := rlk_mem.1 hy
      omega
    · obtain ⟨w, e, rfl, _, h1, h2, _⟩ := rls_mem.1 hx
      obtain ⟨v, rfl, _, h3, _⟩ := rlk_mem.1 hy
      omega
/-- what each want of a list is -/
theorem rls_near (hr : rgt s = true) {c : Nat} {x : Int} (hx : x ∈ rls s c s.st.fl.toNat) : ∃ w : Nat, x = (w : Int) ∧ w < s.ws.length ∧ c < s.cs.length ∧ mayk s c (w : Int) = true ∧ ∀ d, d < s.cs.length → mayk s d (w : Int) = true → rtm s (w : Int) c ≤ rtm s (w : Int) d := by
  obtain ⟨w, e, rfl, h1, h2, h3, h4⟩ := rls_mem.1 hx
  obtain ⟨c', h5, h6, h7, h8⟩ := rfc_car hr h1
  obtain rfl : c' = c := by rw [h5] at h4; omega
  exact ⟨w, rfl, h1, h6, h7, h8⟩
end
theorem rpl_bd {s : Sn} (hr : rgt s = true) : (rpl s s.cs.length).length ≤ 8 ∧ ∀ l ∈ rpl s s.cs.length, l.length ≤ 1000 := by
  have hf := fsb_fs (rpl_fsb hr)
  have h8 := hf.p8
  refine ⟨h8, fun l hl => ?_⟩
  have hin : ∀ x ∈ l, 0 ≤ x ∧ x < s.ws.length := fun x hx => hf.fr x (List.mem_flatten.2 ⟨l, hl, hx⟩)
  have hwl := hf.wl
  have hnd : l.Nodup := (RM.fz_nodup hf.fz).sublist (List.sublist_flatten_of_mem hl)
  have hsum := RM.sum_sr (n := s.ws.length) (fun _ => 1) hnd hin
  have hle := RM.sr_le (n := s.ws.length) (f := fun w => if (w : Int) ∈ l then 1 else 0) (g := fun _ => 1) (fun i _ => by split <;> omega)
  have hone : ∀ m : Nat, RM.sr m (fun _ => 1) = (m : Int) := fun m => by
    induction m with
    | zero => rfl
    | succ m ih => rw [RM.sr, ih]; omega
  have hlen : ∀ m : List Int, (m.map fun _ => (1 : Int)).sum = (m.length : Int) := fun m => by
    induction m with
    | nil => rfl
    | cons a m ih => rw [List.map_cons, List.sum_cons, ih, List.length_cons]; omega
  rw [hlen] at hsum
  rw [hone] at hle
  omega

end Go.Proofs.Ytdfdkddjkhcgdai

/- A stable sort by exchanges: mathematics. No program is named here. -/
namespace Go.Proofs.Ytdfdkddjkhcgdai
namespace SO

/-- ahead of: by a key, and of one key by the number itself -/
def lx (k : Int → Int) (x y : Int) : Prop := k x < k y ∨ (k x = k y ∧ x < y)
/-- of one key the lesser one stands ahead -/
def ti (k : Int → Int) (x y : Int) : Prop := k x = k y → x < y
/-- in order -/
def Sd (k : Int → Int) (l : List Int) : Prop := l.Pairwise (lx k)
/-- those of one key are in order -/
def Td (k : Int → Int) (l : List Int) : Prop := l.Pairwise (ti k)
/-- those of one key are in order, between two lists -/
def Tt (k : Int → Int) (X Y : List Int) : Prop := ∀ x ∈ X, ∀ y ∈ Y, ti k x y
section
variable {k : Int → Int} {x y z : Int}
theorem lx.tie (h : lx k x y) : ti k x y := fun e => by rcases h with h | h <;> omega
theorem lx.le (h : lx k x y) : k x ≤ k y := by rcases h with h | h <;> omega
theorem lx_of (h : k x ≤ k y) (t : ti k x y) : lx k x y := by
  by_cases e : k x = k y
  · exact .inr ⟨e, t e⟩
  · exact .inl (by omega)
theorem lx.asym (h : lx k x y) (g : lx k y x) : x = y := by
  rcases h with h | h <;> rcases g with g | g <;> omega
theorem Sd.td {l : List Int} (h : Sd k l) : Td k l := List.Pairwise.imp (fun h => lx.tie h) h
theorem Sd.nil : Sd k [] := List.Pairwise.nil
theorem Sd.eq {l m : List Int} (h : l.Perm m) (hl : Sd k l) (hm : Sd k m) : l = m :=
  h.eq_of_pairwise (le := lx k) (fun _ _ _ _ h1 h2 => h1.asym h2) hl hm
theorem Sd.append {X Y : List Int} (hX : Sd k X) (hY : Sd k Y) (h : ∀ x ∈ X, ∀ y ∈ Y, lx k x y) : Sd k (X ++ Y) := List.pairwise_append.2 ⟨hX, hY, h⟩
theorem Sd.left {X Y : List Int} (h : Sd k (X ++ Y)) : Sd k X := (List.pairwise_append.1 h).1
theorem Sd.right {X Y : List Int} (h : Sd k (X ++ Y)) : Sd k Y := (List.pairwise_append.1 h).2.1
theorem Sd.both {X Y : List Int} (h : Sd k (X ++ Y)) : ∀ x ∈ X, ∀ y ∈ Y, lx k x y := (List.pairwise_append.1 h).2.2
theorem Td.mid {A X B : List Int} (h : Td k (A ++ X ++ B)) : Td k X := (List.pairwise_append.1 (List.pairwise_append.1 h).1).2.1
theorem Td.two {A X Y B : List Int} (h : Td k (A ++ (X ++ Y) ++ B)) : Tt k X Y := (List.pairwise_append.1 h.mid).2.2
/-- a part is put in order -/
theorem Td.put {A X M B : List Int} (h : Td k (A ++ X ++ B)) (hp : M.Perm X) (hM : Sd k M) : Td k (A ++ M ++ B) := by
  obtain ⟨h1, h2, h3⟩ := List.pairwise_append.1 h
  obtain ⟨h4, h5, h6⟩ := List.pairwise_append.1 h1
  refine List.pairwise_append.2 ⟨List.pairwise_append.2 ⟨h4, hM.td, fun a ha b hb => h6 a ha b (hp.mem_iff.1 hb)⟩, h2, fun a ha b hb => h3 a ?_ b hb⟩
  rcases List.mem_append.1 ha with ha | ha
  · exact List.mem_append_left _ ha
  · exact List.mem_append_right _ (hp.mem_iff.1 ha)
theorem perm_mid {A X M B : List Int} (hp : M.Perm X) : (A ++ M ++ B).Perm (A ++ X ++ B) := (hp.append_left A).append_right B
/-- who stands ahead in a list in order has no greater key -/
theorem Sd.take_le {Z : List Int} {t : Nat} {w : Int} (h : Sd k Z) (hw : Z[t]? = some w) : ∀ z ∈ Z.take (t + 1), k z ≤ k w := fun z hz => by
  rw [List.take_add_one, hw, Option.toList_some, List.mem_append, List.mem_singleton] at hz
  rcases hz with hz | hz
  · have h2 : Sd k (Z.take t ++ Z.drop t) := by rw [List.take_append_drop]; exact h
    refine (h2.both z hz w ?_).le
    rw [List.mem_iff_getElem?]
    exact ⟨0, by rw [List.getElem?_drop, Nat.add_zero]; exact hw⟩
  · rw [hz]; exact Int.le_refl _
theorem Sd.drop_le {Z : List Int} {t : Nat} {w : Int} (h : Sd k Z) (hw : Z[t]? = some w) : ∀ z ∈ Z.drop t, k w ≤ k z := fun z hz => by
  by_cases e : z ∈ Z.drop (t + 1)
  · have h2 : Sd k (Z.take (t + 1) ++ Z.drop (t + 1)) := by rw [List.take_append_drop]; exact h
    refine (h2.both w ?_ z e).le
    rw [List.take_add_one, hw, Option.toList_some]
    exact List.mem_append_right _ (List.mem_singleton.2 rfl)
  · have ht : t < Z.length := (List.getElem?_eq_some_iff.1 hw).1
    have hw' := (List.getElem?_eq_some_iff.1 hw).2
    rw [List.drop_eq_getElem_cons ht, List.mem_cons] at hz
    rcases hz with hz | hz
    · rw [hz, hw']; exact Int.le_refl _
    · exact absurd hz e
end

/-- two of a row are exchanged -/
structure Tw (l : List Int) (i j : Nat) (u v : Int) (m : List Int) : Prop where
  hi : l[i]? = some u
  hj : l[j]? = some v
  eq : m = (l.set i v).set j u
section
variable {l m P Q R : List Int} {u v : Int} {i j : Nat}
theorem Tw.comm (h : Tw l i j u v m) (hn : i ≠ j) : Tw l j i v u m := ⟨h.hj, h.hi, by rw [h.eq, List.set_comm _ _ hn]⟩
theorem tw_mid (hl : l = P ++ u :: (Q ++ v :: R)) (hi : i = P.length) (hj : j = P.length + 1 + Q.length) (hm : m = P ++ v :: (Q ++ u :: R)) : Tw l i j u v m := by
  subst hl hi hj hm
  refine ⟨?_, ?_, ?_⟩
  · rw [List.getElem?_append_right (Nat.le_refl _), Nat.sub_self]; rfl
  · rw [List.getElem?_append_right (by omega), show P.length + 1 + Q.length - P.length = Q.length + 1 by omega, List.getElem?_cons_succ, List.getElem?_append_right (Nat.le_refl _), Nat.sub_self]; rfl
  · rw [List.set_append_right _ _ (Nat.le_refl _), Nat.sub_self, List.set_cons_zero, List.set_append_right _ _ (by omega), show P.length + 1 + Q.length - P.length = Q.length + 1 by omega, List.set_cons_succ, List.set_append_right _ _ (Nat.le_refl _), Nat.sub_self, List.set_cons_zero]
theorem cut_at {Z : List Int} {t : Nat} (ht : t < Z.length) : ∃ z, Z[t]? = some z ∧ Z.drop t = z :: Z.drop (t + 1) ∧ Z.take (t + 1) = Z.take t ++ [z] :=
  ⟨Z[t], List.getElem?_eq_getElem ht, List.drop_eq_getElem_cons ht, by rw [List.take_add_one, List.getElem?_eq_getElem ht]; rfl⟩
end

/-- two parts of one length, the first t of each exchanged -/
def swk (A U C V D : List Int) (t : Nat) : List Int := A ++ (V.take t ++ U.drop t) ++ C ++ (U.take t ++ V.drop t) ++ D
section
variable {A U C V D : List Int} {t : Nat}
theorem swk_zero : swk A U C V D 0 = A ++ U ++ C ++ V ++ D := by unfold swk; simp
theorem swk_end (h : U.length = V.length) : swk A U C V D U.length = A ++ V ++ C ++ U ++ D := by
  unfold swk
  rw [List.take_of_length_le (by omega), List.drop_of_length_le (Nat.le_refl _), List.take_of_length_le (Nat.le_refl _), List.drop_of_length_le (by omega), List.append_nil, List.append_nil]
theorem swk_tw (h : U.length = V.length) (ht : t < U.length) : ∃ u v, Tw (swk A U C V D t) (A.length + t) (A.length + U.length + C.length + t) u v (swk A U C V D (t + 1)) := by
  obtain ⟨u, _, hu1, hu2⟩ := cut_at ht
  obtain ⟨v, _, hv1, hv2⟩ := cut_at (Z := V) (t := t) (by omega)
  refine ⟨u, v, tw_mid (P := A ++ V.take t) (Q := U.drop (t + 1) ++ C ++ U.take t) (R := V.drop (t + 1) ++ D) ?_ ?_ ?_ ?_⟩
  · unfold swk; rw [hu1, hv1]; simp
  · rw [List.length_append, List.length_take]; omega
  · simp only [List.length_append, List.length_take, List.length_drop]; omega
  · unfold swk; rw [hu2, hv2]; simp
theorem swk_len : (swk A U C V D t).length = A.length + U.length + C.length + V.length + D.length := by
  unfold swk
  simp only [List.length_append, List.length_take, List.length_drop]
  omega
end

/-- one is put between others -/
def ins (Z : List Int) (t : Nat) (q : Int) : List Int := Z.take t ++ q :: Z.drop t
section
variable {k : Int → Int} {Z A B : List Int} {t : Nat} {q : Int}
theorem ins_zero : ins Z 0 q = q :: Z := by unfold ins; simp
theorem ins_end : ins Z Z.length q = Z ++ [q] := by unfold ins; simp
theorem ins_perm : (ins Z t q).Perm (q :: Z) := by
  unfold ins
  have h : (Z.take t ++ q :: Z.drop t).Perm (q :: (Z.take t ++ Z.drop t)) := List.perm_middle
  rwa [List.take_append_drop] at h
theorem ins_len : (ins Z t q).length = Z.length + 1 := by rw [ins_perm.length_eq]; rfl
theorem ins_up (ht : t < Z.length) : ∃ z, Z[t]? = some z ∧ Tw (A ++ ins Z t q ++ B) (A.length + t) (A.length + t + 1) q z (A ++ ins Z (t + 1) q ++ B) := by
  obtain ⟨z, hz, h1, h2⟩ := cut_at ht
  refine ⟨z, hz, tw_mid (P := A ++ Z.take t) (Q := []) (R := Z.drop (t + 1) ++ B) ?_ ?_ ?_ ?_⟩
  · unfold ins; rw [h1]; simp
  · rw [List.length_append, List.length_take]; omega
  · rw [List.length_append, List.length_take]; simp; omega
  · unfold ins; rw [h2]; simp
theorem ins_down (ht : t < Z.length) : ∃ z, Z[t]? = some z ∧ Tw (A ++ ins Z (t + 1) q ++ B) (A.length + t + 1) (A.length + t) q z (A ++ ins Z t q ++ B) := by
  obtain ⟨z, hz, h1, h2⟩ := cut_at ht
  refine ⟨z, hz, Tw.comm (tw_mid (P := A ++ Z.take t) (Q := []) (R := Z.drop (t + 1) ++ B) (i := A.length + t) ?_ ?_ ?_ ?_) (by omega)⟩
  · unfold ins; rw [h2]; simp
  · rw [List.length_append, List.length_take]; omega
  · rw [List.length_append, List.length_take]; simp; omega
  · unfold ins; rw [h1]; simp
theorem ins_sd (h : Sd k Z) (h1 : ∀ z ∈ Z.take t, lx k z q) (h2 : ∀ z ∈ Z.drop t, lx k q z) : Sd k (ins Z t q) := by
  have hz : Sd k (Z.take t ++ Z.drop t) := by rw [List.take_append_drop]; exact h
  unfold ins
  refine hz.left.append (List.pairwise_cons.2 ⟨h2, hz.right⟩) fun x hx y hy => ?_
  rcases List.mem_cons.1 hy with rfl | hy
  · exact h1 x hx
  · exact hz.both x hx y hy
end

/- two lists in order, as far as t of the first and M - t of the second one -/
def Lo (k : Int → Int) (X Y : List Int) (M t : Nat) : Prop := ∀ x ∈ X.take t, ∀ y ∈ Y.drop (M - t), k x ≤ k y
def Hi (k : Int → Int) (X Y : List Int) (M t : Nat) : Prop := ∀ x ∈ X.drop t, ∀ y ∈ Y.take (M - t), k y < k x
section
variable {k : Int → Int} {X Y : List Int} {M t : Nat} {x y : Int}
theorem lo_first (h : t = 0 ∨ Y.length ≤ M - t) : Lo k X Y M t := fun a ha b hb => by
  rcases h with rfl | h
  · simp at ha
  · rw [List.drop_of_length_le h] at hb; simp at hb
theorem hi_first (h : X.length ≤ t ∨ M ≤ t) : Hi k X Y M t := fun a ha b hb => by
  rcases h with h | h
  · rw [List.drop_of_length_le h] at ha; simp at ha
  · rw [show M - t = 0 by omega] at hb; simp at hb
theorem lo_step (hX : Sd k X) (hY : Sd k Y) (hx : X[t]? = some x) (hy : Y[M - 1 - t]? = some y) (h : k x ≤ k y) : Lo k X Y M (t + 1) := fun a ha b hb => by
  have h1 := hX.take_le hx a ha
  have h2 := hY.drop_le hy b (by rwa [show M - 1 - t = M - (t + 1) by omega])
  omega
theorem hi_step (hX : Sd k X) (hY : Sd k Y) (hM : t < M) (hx : X[t]? = some x) (hy : Y[M - 1 - t]? = some y) (h : k y < k x) : Hi k X Y M t := fun a ha b hb => by
  have h1 := hX.drop_le hx a ha
  have h2 := hY.take_le hy b (by rwa [show M - 1 - t + 1 = M - t by omega])
  omega
/-- both halves in order make the whole in order -/
theorem mrg {M1 M2 : List Int} (hX : Sd k X) (hY : Sd k Y) (hT : Tt k X Y) (hl : Lo k X Y M t) (hh : Hi k X Y M t) (p1 : M1.Perm (X.take t ++ Y.take (M - t))) (s1 : Sd k M1) (p2 : M2.Perm (X.drop t ++ Y.drop (M - t))) (s2 : Sd k M2) : Sd k (M1 ++ M2) ∧ (M1 ++ M2).Perm (X ++ Y) := by
  have hx : Sd k (X.take t ++ X.drop t) := by rw [List.take_append_drop]; exact hX
  have hy : Sd k (Y.take (M - t) ++ Y.drop (M - t)) := by rw [List.take_append_drop]; exact hY
  refine ⟨s1.append s2 fun a ha b hb => ?_, ?_⟩
  · have ha := p1.mem_iff.1 ha
    have hb := p2.mem_iff.1 hb
    rcases List.mem_append.1 ha with ha | ha <;> rcases List.mem_append.1 hb with hb | hb
    · exact hx.both a ha b hb
    · exact lx_of (hl a ha b hb) (hT a (List.mem_of_mem_take ha) b (List.mem_of_mem_drop hb))
    · exact .inl (hh b hb a ha)
    · exact hy.both a ha b hb
  · refine (p1.append p2).trans ?_
    have e : (X.take t ++ Y.take (M - t) ++ (X.drop t ++ Y.drop (M - t))).Perm (X.take t ++ X.drop t ++ (Y.take (M - t) ++ Y.drop (M - t))) := by
      rw [List.append_assoc, List.append_assoc]
      refine List.Perm.append_left _ ?_
      rw [← List.append_assoc, ← List.append_assoc]
      exact List.perm_append_comm.append_right _
    rwa [List.take_append_drop, List.take_append_drop] at e
/-- one ahead of others in order -/
theorem mrg_one {q : Int} (hY : Sd k Y) (hT : Tt k [q] Y) (h1 : ∀ z ∈ Y.take t, k z < k q) (h2 : ∀ z ∈ Y.drop t, k q ≤ k z) : Sd k (ins Y t q) :=
  ins_sd hY (fun z hz => .inl (h1 z hz)) fun z hz => lx_of (h2 z hz) (hT q (List.mem_singleton.2 rfl) z (List.mem_of_mem_drop hz))
/-- one behind others in order -/
theorem mrg_last {q : Int} (hX : Sd k X) (hT : Tt k X [q]) (h1 : ∀ z ∈ X.take t, k z ≤ k q) (h2 : ∀ z ∈ X.drop t, k q < k z) : Sd k (ins X t q) :=
  ins_sd hX (fun z hz => lx_of (h1 z hz) (hT z (List.mem_of_mem_take hz) q (List.mem_singleton.2 rfl))) fun z hz => .inl (h2 z hz)
end

/-- lists of one length, each in order -/
def Cz (k : Int → Int) (z : Nat) (Ls : List (List Int)) : Prop := ∀ L ∈ Ls, L.length = z ∧ Sd k L
section
variable {k : Int → Int} {z : Nat} {Ls Ms : List (List Int)} {R L : List Int}
theorem Cz.nil : Cz k z [] := fun L h => by cases h
theorem Cz.snoc (h : Cz k z Ls) (hl : L.length = z) (hs : Sd k L) : Cz k z (Ls ++ [L]) := fun M hM => by
  rcases List.mem_append.1 hM with hM | hM
  · exact h M hM
  · rw [List.mem_singleton.1 hM]; exact ⟨hl, hs⟩
theorem Cz.len : ∀ {Ls : List (List Int)}, Cz k z Ls → Ls.flatten.length = Ls.length * z
  | [], _ => by simp
  | L :: Ls, h => by
    rw [List.flatten_cons, List.length_append, Cz.len (Ls := Ls) (fun M hM => h M (List.mem_cons_of_mem _ hM)), (h L (List.mem_cons_self ..)).1, List.length_cons, Nat.add_mul]
    omega
theorem Cz.tail (h : Cz k z (L :: Ls)) : Cz k z Ls := fun M hM => h M (List.mem_cons_of_mem _ hM)
theorem Cz.head (h : Cz k z (L :: Ls)) : L.length = z ∧ Sd k L := h L (List.mem_cons_self ..)
/-- there are two more -/
theorem Cz.two (h : Cz k z Ls) (hR : R.length < z) (hl : 2 * z ≤ (Ls.flatten ++ R).length) : ∃ L1 L2 Ls', Ls = L1 :: L2 :: Ls' := by
  rw [List.length_append, h.len] at hl
  match Ls, hl with
  | [], hl => simp at hl; omega
  | [_], hl => simp at hl; omega
  | L1 :: L2 :: Ls', _ => exact ⟨L1, L2, Ls', rfl⟩
/-- there aren't -/
theorem Cz.less (h : Cz k z Ls) (hl : (Ls.flatten ++ R).length < 2 * z) : Ls = [] ∨ ∃ L, Ls = [L] := by
  rw [List.length_append, h.len] at hl
  match Ls, hl with
  | [], _ => exact .inl rfl
  | [L], _ => exact .inr ⟨L, rfl⟩
  | L1 :: L2 :: Ls', hl => simp [Nat.add_mul] at hl; omega
/-- all in one -/
theorem Cz.whole (h : Cz k z Ls) (hs : Sd k R) (hl : (Ls.flatten ++ R).length ≤ z) (hz : 0 < z) : Sd k (Ls.flatten ++ R) := by
  rcases h.less (R := R) (by omega) with rfl | ⟨L, rfl⟩
  · exact hs
  · rw [List.length_append, h.len] at hl
    have : R = [] := List.length_eq_zero_iff.1 (by simp at hl; omega)
    subst this
    rw [List.append_nil, List.flatten_cons, List.flatten_nil, List.append_nil]
    exact h.head.2
end
end SO

end Go.Proofs.Ytdfdkddjkhcgdai

/- The rule's plan as the program makes it: wants put to their cars, then each list put in order: mathematics. No program is named here. -/
namespace Go.Proofs.Ytdfdkddjkhcgdai

/-- does a want go to this car? -/
def rgo (s : Sn) (c w : Nat) : Bool := decide ((rfc s (w : Int) s.cs.length).1 = (c : Int))
/-- a car's wants, of the first k, by their places -/
def fil (s : Sn) (c k : Nat) : List Int := ((List.range k).filter (rgo s c)).map fun (w : Nat) => (w : Int)
/-- all cars' wants, of the first k -/
def pfl (s : Sn) (k : Nat) : List (List Int) := (List.range s.cs.length).map fun c => fil s c k
/-- the first c cars' lists in order -/
def pso (s : Sn) (c : Nat) : List (List Int) := (List.range s.cs.length).map fun d => if d < c then rls s d s.st.fl.toNat else fil s d s.ws.length
section
variable {s : Sn}
theorem fil_succ (c k : Nat) : fil s c (k + 1) = fil s c k ++ if rgo s c k = true then [(k : Int)] else [] := by
  unfold fil
  rw [List.range_succ, List.filter_append, List.map_append]
  congr 1
  by_cases h : rgo s c k = true
  · simp [h]
  · simp [h]
theorem fil_mem {c k : Nat} {x : Int} : x ∈ fil s c k ↔ ∃ w : Nat, x = (w : Int) ∧ w < k ∧ (rfc s (w : Int) s.cs.length).1 = (c : Int) := by
  unfold fil
  rw [List.mem_map]
  constructor
  · rintro ⟨w, hw, rfl⟩
    rw [List.mem_filter, List.mem_range] at hw
    unfold rgo at hw
    simp only [decide_eq_true_eq] at hw
    exact ⟨w, rfl, hw.1, hw.2⟩
  · rintro ⟨w, rfl, h1, h2⟩
    exact ⟨w, List.mem_filter.2 ⟨List.mem_range.2 h1, by unfold rgo; simp [h2]⟩, rfl⟩
theorem fil_len (c k : Nat) : (fil s c k).length ≤ k := by
  unfold fil
  rw [List.length_map]
  exact Nat.le_trans (List.length_filter_le _ _) (by simp)
theorem range_lt (k : Nat) (p : Nat → Bool) : (((List.range k).filter p).map fun (w : Nat) => (w : Int)).Pairwise (· < ·) := by
  rw [List.pairwise_map]
  refine List.Pairwise.imp (R := fun a b : Nat => a < b) (fun h => by omega) ?_
  exact List.Pairwise.filter _ List.pairwise_lt_range
theorem fil_lt (c k : Nat) : (fil s c k).Pairwise (· < ·) := range_lt k _
theorem fil_td (c k : Nat) (f : Int → Int) : SO.Td f (fil s c k) := by
  unfold SO.Td
  exact List.Pairwise.imp (S := SO.ti f) (fun h _ => h) (fil_lt c k)
theorem lx_ne {f : Int → Int} {x y : Int} (h : SO.lx f x y) : x ≠ y := fun e => by
  subst e
  rcases h with h | h <;> omega
theorem rls_sd (c : Nat) : ∀ d, SO.Sd (rfa s c) (rls s c d)
  | 0 => by rw [rls_zero]; exact List.Pairwise.nil
  | d + 1 => by
    rw [rls_succ]
    refine (rls_sd c d).append ?_ fun x hx y hy => ?_
    · refine List.Pairwise.imp_of_mem (R := (· < ·)) (fun {x y} hx hy h => ?_) (range_lt _ _)
      obtain ⟨w, rfl, _, h1, _⟩ := rlk_mem.1 hx
      obtain ⟨v, rfl, _, h2, _⟩ := rlk_mem.1 hy
      exact .inr ⟨by omega, h⟩
    · obtain ⟨w, e, rfl, _, h1, h2, _⟩ := rls_mem.1 hx
      obtain ⟨v, rfl, _, h3, _⟩ := rlk_mem.1 hy
      exact .inl (by omega)
/-- put in order, a car's wants are its list -/
theorem rls_eq (hr : rgt s = true) {c : Nat} (hc : c < s.cs.length) {M : List Int} (hp : M.Perm (fil s c s.ws.length)) (hs : SO.Sd (rfa s c) M) : M = rls s c s.st.fl.toNat := by
  refine SO.Sd.eq (k := rfa s c) (hp.trans ?_) hs (rls_sd c _)
  refine (List.perm_ext_iff_of_nodup (List.Pairwise.imp (fun h => by omega) (fil_lt c _)) (List.Pairwise.imp (fun h => lx_ne h) (rls_sd c _))).2 fun x => ?_
  rw [fil_mem, rls_mem]
  constructor
  · rintro ⟨w, rfl, h1, h2⟩
    have h3 := rfa_bd hr hc h1
    exact ⟨w, (rfa s c (w : Int)).toNat, rfl, h1, by omega, by omega, h2⟩
  · rintro ⟨w, e, rfl, h1, _, _, h2⟩
    exact ⟨w, rfl, h1, h2⟩
theorem pfl_length (k : Nat) : (pfl s k).length = s.cs.length := by unfold pfl; simp
theorem pso_length (c : Nat) : (pso s c).length = s.cs.length := by unfold pso; simp
theorem pfl_get {c k : Nat} (h : c < s.cs.length) : (pfl s k)[c]? = some (fil s c k) := by
  unfold pfl
  rw [List.getElem?_map, List.getElem?_range h]
  rfl
theorem pso_get {c d : Nat} (h : d < s.cs.length) : (pso s c)[d]? = some (if d < c then rls s d s.st.fl.toNat else fil s d s.ws.length) := by
  unfold pso
  rw [List.getElem?_map, List.getElem?_range h]
  rfl
theorem pfl_zero : pfl s 0 = List.replicate s.cs.length [] := by
  unfold pfl fil
  apply List.ext_getElem?
  intro i
  by_cases h : i < s.cs.length
  · rw [List.getElem?_map, List.getElem?_range h, List.getElem?_replicate, if_pos h]; rfl
  · rw [List.getElem?_eq_none (by simp; omega), List.getElem?_eq_none (by simp; omega)]
theorem pfl_succ {k c : Nat} (hc : (rfc s (k : Int) s.cs.length).1 = (c : Int)) (h : c < s.cs.length) : PM.add (pfl s k) c (k : Int) = pfl s (k + 1) := by
  unfold PM.add
  rw [pfl_get h, Option.getD_some]
  apply List.ext_getElem?
  intro i
  by_cases hi : i < s.cs.length
  · rw [pfl_get hi, fil_succ]
    by_cases e : c = i
    · subst e
      rw [List.getElem?_set_self (by rw [pfl_length]; exact h), if_pos (by unfold rgo; simp [hc])]
    · rw [List.getElem?_set_ne e, pfl_get hi, if_neg (by unfold rgo; rw [hc]; simp; omega), List.append_nil]
  · rw [List.getElem?_eq_none (by rw [List.length_set, pfl_length]; omega), List.getElem?_eq_none (by rw [pfl_length]; omega)]
theorem pso_zero : pso s 0 = pfl s s.ws.length := by
  unfold pso pfl
  apply List.map_congr_left
  intro d _
  rw [if_neg (by omega)]
theorem pso_succ {c : Nat} (h : c < s.cs.length) : (pso s c).set c (rls s c s.st.fl.toNat) = pso s (c + 1) := by
  apply List.ext_getElem?
  intro i
  by_cases hi : i < s.cs.length
  · rw [pso_get hi]
    by_cases e : c = i
    · subst e
      rw [List.getElem?_set_self (by rw [pso_length]; exact h), if_pos (by omega)]
    · rw [List.getElem?_set_ne e, pso_get hi]
      by_cases h2 : i < c
      · rw [if_pos h2, if_pos (by omega)]
      · rw [if_neg h2, if_neg (by omega)]
  · rw [List.getElem?_eq_none (by rw [List.length_set, pso_length]; omega), List.getElem?_eq_none (by rw [pso_length]; omega)]
theorem pso_end : pso s s.cs.length = rpl s s.cs.length := by
  unfold pso rpl
  apply List.map_congr_left
  intro d hd
  rw [if_pos (List.mem_range.1 hd)]
end

end Go.Proofs.Ytdfdkddjkhcgdai

/- A row of numbers that is put in order: its memory; two parts are exchanged. -/
namespace Go.Proofs.Ytdfdkddjkhcgdai
open Go.RowKit Go.Shelf

/-- our row on its way: it alone is written since w -/
structure Srt (w W : World) (B g cap n : Nat) (l : List Int) : Prop where
  oi : OI W B (.slice (some ⟨g, 0, none⟩) n cap) l
  kp : Kp (fun k => k = g) w W
section
variable {w W W' : World} {B g cap n : Nat} {l m : List Int}
theorem Srt.len (h : Srt w W B g cap n l) : n = l.length := h.oi.len
theorem Srt.lt (h : Srt w W B g cap n l) : g < W.heap.size := (h.oi.lt g rfl).2
theorem Srt.next (h : Srt w W B g cap n l) (hb : Below W.heap.size W W') : Srt w W' B g cap n l := ⟨h.oi.below' hb, h.kp.thenBelow hb⟩
theorem Srt.cell (h : Srt w W B g cap n l) {i : Nat} {x : Int} (hi : l[i]? = some x) : W.cell? ⟨g, i, none⟩ = some (.int .i64 x) := h.oi.cell hi
theorem Srt.fr (h : Srt w W B g cap n l) (j : Nat) : W.frozen? ⟨g, j, none⟩ = false := h.oi.fr j
theorem Srt.put (h : Srt w W B g cap n l) (i : Nat) (x : Int) : Srt w (W.setCell ⟨g, i, none⟩ (.int .i64 x)) B g cap n (l.set i x) := ⟨h.oi.put i x, h.kp.set g i _ (fun _ => rfl)⟩
theorem Srt.tw (h : Srt w W B g cap n l) {i j : Nat} {u v : Int} (ht : SO.Tw l i j u v m) : Srt w ((W.setCell ⟨g, i, none⟩ (.int .i64 v)).setCell ⟨g, j, none⟩ (.int .i64 u)) B g cap n m := by
  rw [ht.eq]
  exact (h.put i v).put j u
end

set_option maxRecDepth 100000 in
set_option maxHeartbeats 4000000 in
theorem swapR_any (w : World) (B g cap n : Nat) (A U C V D : List Int) (f : Value) (a b k : Nat) (ha : a = A.length) (hk : k = U.length) (hv : U.length = V.length) (hb : b = a + k + C.length) (hn : n ≤ 1000) (W : World) (h : Srt w W B g cap n (A ++ U ++ C ++ V ++ D)) :
    Calls Try.prog 42 #[.slice (some ⟨g, 0, none⟩) n cap, .int .i64 (a : Int), .int .i64 (b : Int), .int .i64 (k : Int), f] W fun e W' => e = .returned (.tuple #[]) ∧ Srt w W' B g cap n (A ++ V ++ C ++ U ++ D) := by
  have HL : Hid (n = A.length + U.length + C.length + V.length + D.length) := by
    have := h.len
    simp only [List.length_append] at this
    exact this
  have HE : Hid (a = A.length ∧ k = U.length ∧ U.length = V.length ∧ b = a + k + C.length) := ⟨ha, hk, hv, hb⟩
  have hbn : b + k ≤ n := by have := HL.out; omega
  have hab : a + k ≤ b := by omega
  have H0 : Hid (Srt w W B g cap n (SO.swk A U C V D 0)) := by rw [SO.swk_zero]; exact h
  obtain ⟨F, HF⟩ : ∃ F, Hid (A ++ V ++ C ++ U ++ D = F) := ⟨_, Hid.intro' rfl⟩
  rw [HF.out]
  clear ha hk hv hb h
  go_enter Try.func42, Try.ntmps42
  go_wp2_with fail
  go_loopw [10] (fun iv wr => ∃ (i : Nat), i ≤ k ∧ iv = .int .i64 (i : Int) ∧ Hid (Srt w wr B g cap n (SO.swk A U C V D i))) (fun iv _ => k - (intOf iv).toNat)
  case atStart => exact ⟨0, Nat.zero_le _, rfl, H0⟩
  case round =>
    clear H0
    obtain ⟨i, hi, rfl, HS⟩ := hrel
    by_cases hlt : i < k
    · have hiz : (i : Int) < (k : Int) := by omega
      obtain ⟨u, v, ht⟩ := SO.swk_tw (A := A) (U := U) (C := C) (V := V) (D := D) (t := i) HE.out.2.2.1 (by have := HE.out; omega)
      rw [← HE.out.1, ← HE.out.2.1, ← HE.out.2.2.2] at ht
      have HT := Hid.intro' ht
      have hai : a + i < n := by omega
      have hbi : b + i < n := by omega
      obtain ⟨p, hp⟩ : ∃ p, p = a + i := ⟨_, rfl⟩
      obtain ⟨q, hq⟩ : ∃ q, q = b + i := ⟨_, rfl⟩
      have ep : (a : Int) + (i : Int) = (p : Int) := by omega
      have eq : (b : Int) + (i : Int) = (q : Int) := by omega
      have hwp : IntKind.i64.wrap (p : Int) = (p : Int) := by rw [IntKind.wrap_i64]; omega
      have hwq : IntKind.i64.wrap (q : Int) = (q : Int) := by rw [IntKind.wrap_i64]; omega
      have hpn : p < n := by omega
      have hqn : q < n := by omega
      rw [← hp, ← hq] at HT
      clear ht hp hq hai hbi
      have cp := HS.out.cell HT.out.hi
      have cq := HS.out.cell HT.out.hj
      have fp := HS.out.fr p
      have fq := HS.out.fr q
      have HN := Hid.intro' ((HS.out.tw HT.out).next (Below.refl _ _).drew)
      clear HS
      go_wp2_with fail
      go_big_region
      all_goals go_wp2
      go_roundw
      case rel => exact ⟨i + 1, by omega, by go_num, HN⟩
      case measure => simp [intOf]; omega
    · have hiz : ¬ (i : Int) < (k : Int) := by omega
      have hik : i = U.length := by have := HE.out; omega
      rw [hik, SO.swk_end HE.out.2.2.1, HF.out] at HS
      clear hik
      go_wp2
      go_end0
      exact ⟨rfl, HS.out⟩

end Go.Proofs.Ytdfdkddjkhcgdai
