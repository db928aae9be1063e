/- Plain mathematics of frames: as bytes, out of bytes, in a stream. No program is named here. -/
import Derived.Test.YtkbfljacjfaamaeFrM
namespace Go.Proofs.Ytkbfljacjfaamae

/-- a frame's numbers -/
structure Fr where
  ki : Int
  ca : Int
  sq : Int
  a : Int
  b : Int
  c : Int

namespace FC

/-- a frame that may be as bytes -/
structure May (f : Fr) : Prop where
  ki1 : 1 ≤ f.ki
  ki2 : f.ki ≤ 3
  ca1 : 0 ≤ f.ca
  ca2 : f.ca ≤ 255
  sq1 : 0 ≤ f.sq
  sq2 : f.sq ≤ 65535
  a1 : 0 ≤ f.a
  a2 : f.a ≤ 255
  b1 : 0 ≤ f.b
  b2 : f.b ≤ 255
  c1 : 0 ≤ f.c
  c2 : f.c ≤ 255

/-- a byte of a row -/
def g (l : List Nat) (i : Nat) : Nat := l[i]?.getD 0
theorem g_some {l : List Nat} {i : Nat} (h : i < l.length) : l[i]? = some (g l i) := by simp [g, h]
theorem g_lt {l : List Nat} (h : Bs l) (i : Nat) : g l i < 256 := by
  unfold g
  cases e : l[i]? with
  | none => simp
  | some x => exact h.get e
/-- the number of what is wrong with ten bytes -/
def de (l : List Nat) : Nat := if l.length = 10 ∧ g l 0 = 165 then (if crc (l.take 8) = g l 8 * 256 + g l 9 then (if 1 ≤ g l 1 ∧ g l 1 ≤ 3 then 0 else 3) else 6) else 3
/-- what they say -/
def dr (l : List Nat) : Fr := ⟨g l 1, g l 2, (g l 3 * 256 + g l 4 : Nat), g l 5, g l 6, g l 7⟩
/-- the frame of bytes -/
def df (l : List Nat) : Fr := if de l = 0 then dr l else ⟨0, 0, 0, 0, 0, 0⟩

/-- the eight bytes ahead of a frame's check sum -/
def h8 (f : Fr) : List Nat := [165, f.ki.toNat, f.ca.toNat, f.sq.toNat / 256, f.sq.toNat % 256, f.a.toNat, f.b.toNat, f.c.toNat]
/-- a frame as bytes -/
def en (f : Fr) : List Nat := h8 f ++ [crc (h8 f) / 256, crc (h8 f) % 256]
theorem h8_Bs {f : Fr} (h : May f) : Bs (h8 f) := by
  have := h.ki1; have := h.ki2; have := h.ca2; have := h.sq1; have := h.sq2; have := h.a2; have := h.b2; have := h.c2
  unfold h8
  refine Bs.cons ?_ (Bs.cons ?_ (Bs.cons ?_ (Bs.cons ?_ (Bs.cons ?_ (Bs.cons ?_ (Bs.cons ?_ (Bs.cons ?_ Bs.nil)))))))
  all_goals omega
theorem en_Bs {f : Fr} (h : May f) : Bs (en f) := by
  have := crc_lt (h8_Bs h)
  exact (h8_Bs h).append (Bs.cons (by omega) (Bs.cons (by omega) Bs.nil))
theorem en_length (f : Fr) : (en f).length = 10 := by unfold en h8; simp
theorem en_take (f : Fr) : (en f).take 8 = h8 f := by
  unfold en
  rw [List.take_append_of_le_length (by unfold h8; simp), List.take_of_length_le (by unfold h8; simp)]
theorem en_g0 (f : Fr) : g (en f) 0 = 165 := by unfold en h8 g; simp
theorem en_g1 (f : Fr) : g (en f) 1 = f.ki.toNat := by unfold en h8 g; simp
theorem en_g2 (f : Fr) : g (en f) 2 = f.ca.toNat := by unfold en h8 g; simp
theorem en_g3 (f : Fr) : g (en f) 3 = f.sq.toNat / 256 := by unfold en h8 g; simp
theorem en_g4 (f : Fr) : g (en f) 4 = f.sq.toNat % 256 := by unfold en h8 g; simp
theorem en_g5 (f : Fr) : g (en f) 5 = f.a.toNat := by unfold en h8 g; simp
theorem en_g6 (f : Fr) : g (en f) 6 = f.b.toNat := by unfold en h8 g; simp
theorem en_g7 (f : Fr) : g (en f) 7 = f.c.toNat := by unfold en h8 g; simp
theorem en_g8 (f : Fr) : g (en f) 8 = crc (h8 f) / 256 := by unfold en; generalize crc (h8 f) = n; unfold h8 g; simp
theorem en_g9 (f : Fr) : g (en f) 9 = crc (h8 f) % 256 := by unfold en; generalize crc (h8 f) = n; unfold h8 g; simp
theorem de_en {f : Fr} (h : May f) : de (en f) = 0 := by
  have := h.ki1; have := h.ki2
  unfold de
  rw [if_pos ⟨en_length f, en_g0 f⟩, en_take, en_g8, en_g9, en_g1, if_pos (by omega), if_pos (by omega)]
theorem df_en {f : Fr} (h : May f) : df (en f) = f := by
  have := h.ki1; have := h.ca1; have := h.sq1; have := h.a1; have := h.b1; have := h.c1
  unfold df
  rw [if_pos (de_en h)]
  unfold dr
  rw [en_g1, en_g2, en_g3, en_g4, en_g5, en_g6, en_g7]
  obtain ⟨ki, ca, sq, a, b, c⟩ := f
  simp only [Fr.mk.injEq] at *
  omega
theorem en_inj {f e : Fr} (h : May f) (k : May e) (x : en f = en e) : f = e := by rw [← df_en h, ← df_en k, x]
theorem set_same {l : List Nat} {i x : Nat} (h : l[i]? = some x) : l.set i x = l := by
  apply List.ext_getElem?
  intro j
  rw [List.getElem?_set]
  split
  · rename_i e
    subst e
    rw [h]
    simp [(List.getElem?_eq_some_iff.1 h).1]
  · rfl
/-- with one bit turned -/
theorem de_turned {f : Fr} (h : May f) {i p : Nat} (hi : i < 10) (hp : p < 256) (hp0 : p ≠ 0) : de ((en f).set i (g (en f) i ^^^ p)) ≠ 0 := by
  have hne : ∀ n, n ^^^ p ≠ n := fun n e => hp0 (by
    have := congrArg (n ^^^ ·) e
    simpa [← Nat.xor_assoc, Nat.xor_self] using this)
  have hB := en_Bs h
  have hl := en_length f
  have hg : ∀ j, j < 10 → g ((en f).set i (g (en f) i ^^^ p)) j = if i = j then g (en f) i ^^^ p else g (en f) j := by
    intro j hj
    conv => lhs; unfold g
    rw [List.getElem?_set]
    split
    · rw [if_pos (by omega)]; rfl
    · rfl
  intro e
  unfold de at e
  split at e
  case isFalse => omega
  case isTrue c1 =>
  split at e
  case isFalse => omega
  case isTrue c2 =>
  clear e
  have hi0 : i ≠ 0 := by
    rintro rfl
    have := c1.2
    rw [hg 0 (by omega), if_pos rfl, en_g0] at this
    exact hne _ this
  have hs : crc ((en f).take 8) = g (en f) 8 * 256 + g (en f) 9 := by
    rw [en_take, en_g8, en_g9]
    omega
  by_cases h8 : i < 8
  · rw [hg 8 (by omega), hg 9 (by omega), if_neg (by omega), if_neg (by omega), ← hs] at c2
    rw [List.take_set] at c2
    have hB8 := hB.take 8
    have ht : ∀ j, j < 8 → ((en f).take 8)[j]? = some (g (en f) j) := fun j hj => by
      rw [List.getElem?_take, if_pos hj]; exact g_some (by omega)
    have := crc_burst (k := i - 1) (p := 0) (q := p) hB8 (ht (i - 1) (by omega)) (by rw [show i - 1 + 1 = i by omega]; exact ht i h8) (by omega) hp (.inr hp0)
    rw [Nat.xor_zero, show i - 1 + 1 = i by omega] at this
    apply this
    rw [set_same (ht (i - 1) (by omega))]
    exact c2
  · rw [List.take_set_of_le (by omega), hs] at c2
    have e8 := hg 8 (by omega)
    have e9 := hg 9 (by omega)
    have b8 := g_lt hB 8
    have b9 := g_lt hB 9
    have n8 := hne (g (en f) 8)
    have n9 := hne (g (en f) 9)
    have x8 := xor_lt8 b8 hp
    have x9 := xor_lt8 b9 hp
    clear hs c1 hB hne
    have : i = 8 ∨ i = 9 := by omega
    rcases this with rfl | rfl
    · rw [if_pos (show (8 : Nat) = 8 from rfl)] at e8
      rw [if_neg (by omega)] at e9
      rw [e8, e9] at c2
      omega
    · rw [if_pos (show (9 : Nat) = 9 from rfl)] at e9
      rw [if_neg (by omega)] at e8
      rw [e8, e9] at c2
      omega

/-- the frames of a stream, how many bytes are passed over, what is left, in so many steps at most -/
def fds : Nat → List Nat → List Fr × Nat × List Nat
  | 0, l => ([], 0, l)
  | k + 1, l => if l.length < 10 then ([], 0, l)
    else if de (l.take 10) = 0 then (df (l.take 10) :: (fds k (l.drop 10)).1, (fds k (l.drop 10)).2.1, (fds k (l.drop 10)).2.2)
    else ((fds k (l.drop 1)).1, (fds k (l.drop 1)).2.1 + 1, (fds k (l.drop 1)).2.2)
theorem fds_succ (k : Nat) (l : List Nat) : fds (k + 1) l = if l.length < 10 then ([], 0, l) else if de (l.take 10) = 0 then (df (l.take 10) :: (fds k (l.drop 10)).1, (fds k (l.drop 10)).2.1, (fds k (l.drop 10)).2.2) else ((fds k (l.drop 1)).1, (fds k (l.drop 1)).2.1 + 1, (fds k (l.drop 1)).2.2) := rfl
theorem fds_few (k : Nat) {l : List Nat} (h : l.length < 10) : fds k l = ([], 0, l) := by
  cases k with
  | zero => rfl
  | succ k => rw [fds_succ, if_pos h]
theorem fds_more (k : Nat) : ∀ (m : Nat) (l : List Nat), l.length ≤ k → l.length ≤ m → fds k l = fds m l := by
  induction k with
  | zero =>
    intro m l hk _
    rw [fds_few 0 (by omega), fds_few m (by omega)]
  | succ k ih =>
    intro m l hk hm
    by_cases h : l.length < 10
    · rw [fds_few _ h, fds_few _ h]
    · cases m with
      | zero => omega
      | succ m =>
        rw [fds_succ, fds_succ, if_neg h, if_neg h, ih m (l.drop 10) (by rw [List.length_drop]; omega) (by rw [List.length_drop]; omega), ih m (l.drop 1) (by rw [List.length_drop]; omega) (by rw [List.length_drop]; omega)]
/-- the frames of a stream, how many bytes are passed over, what is left -/
def fd (l : List Nat) : List Fr × Nat × List Nat := fds l.length l
theorem fd_few {l : List Nat} (h : l.length < 10) : fd l = ([], 0, l) := fds_few _ h
theorem fd_yes {l : List Nat} (h : ¬ l.length < 10) (k : de (l.take 10) = 0) : fd l = (df (l.take 10) :: (fd (l.drop 10)).1, (fd (l.drop 10)).2.1, (fd (l.drop 10)).2.2) := by
  unfold fd
  rw [fds_more l.length (l.length + 1) l (Nat.le_refl _) (Nat.le_succ _), fds_succ, if_neg h, if_pos k, fds_more l.length (l.drop 10).length (l.drop 10) (by rw [List.length_drop]; omega) (Nat.le_refl _)]
theorem fd_no {l : List Nat} (h : ¬ l.length < 10) (k : de (l.take 10) ≠ 0) : fd l = ((fd (l.drop 1)).1, (fd (l.drop 1)).2.1 + 1, (fd (l.drop 1)).2.2) := by
  unfold fd
  rw [fds_more l.length (l.length + 1) l (Nat.le_refl _) (Nat.le_succ _), fds_succ, if_neg h, if_neg k, fds_more l.length (l.drop 1).length (l.drop 1) (by rw [List.length_drop]; omega) (Nat.le_refl _)]
theorem fd_left (l : List Nat) : (fd l).2.2.length < 10 ∧ ∃ k, (fd l).2.2 = l.drop k := by
  induction hn : l.length using Nat.strongRecOn generalizing l with
  | _ n ih =>
  by_cases h : l.length < 10
  · rw [fd_few h]; exact ⟨h, 0, rfl⟩
  · by_cases k : de (l.take 10) = 0
    · rw [fd_yes h k]
      obtain ⟨h1, j, h2⟩ := ih (l.drop 10).length (by simp only [List.length_drop]; omega) _ rfl
      exact ⟨h1, 10 + j, by rw [h2, List.drop_drop]⟩
    · rw [fd_no h k]
      obtain ⟨h1, j, h2⟩ := ih (l.drop 1).length (by simp only [List.length_drop]; omega) _ rfl
      exact ⟨h1, 1 + j, by rw [h2, List.drop_drop]⟩
theorem fd_Bs {l : List Nat} (h : Bs l) : Bs (fd l).2.2 := by
  obtain ⟨_, k, e⟩ := fd_left l
  rw [e]; exact h.drop k
/-- how many frames and bytes -/
theorem fd_count (l : List Nat) : (fd l).1.length * 10 + (fd l).2.1 + (fd l).2.2.length = l.length := by
  induction hn : l.length using Nat.strongRecOn generalizing l with
  | _ n ih =>
  by_cases h : l.length < 10
  · rw [fd_few h]; simpa using hn
  · by_cases k : de (l.take 10) = 0
    · rw [fd_yes h k]
      have := ih (l.drop 10).length (by simp only [List.length_drop]; omega) _ rfl
      simp only [List.length_drop, List.length_cons] at this ⊢
      omega
    · rw [fd_no h k]
      have := ih (l.drop 1).length (by simp only [List.length_drop]; omega) _ rfl
      simp only [List.length_drop] at this ⊢
      omega
/-- a stream in two parts -/
theorem fd_append (l m : List Nat) : fd (l ++ m) = ((fd l).1 ++ (fd ((fd l).2.2 ++ m)).1, (fd l).2.1 + (fd ((fd l).2.2 ++ m)).2.1, (fd ((fd l).2.2 ++ m)).2.2) := by
  induction hn : l.length using Nat.strongRecOn generalizing l with
  | _ n ih =>
  by_cases h : l.length < 10
  · rw [fd_few h]; simp
  · have h' : ¬ (l ++ m).length < 10 := by simp; omega
    have ht : (l ++ m).take 10 = l.take 10 := List.take_append_of_le_length (by omega)
    by_cases k : de (l.take 10) = 0
    · rw [fd_yes h' (by rw [ht]; exact k), ht, List.drop_append_of_le_length (by omega), ih (l.drop 10).length (by simp only [List.length_drop]; omega) _ rfl, fd_yes h k]
      simp
    · rw [fd_no h' (by rw [ht]; exact k), List.drop_append_of_le_length (by omega), ih (l.drop 1).length (by simp only [List.length_drop]; omega) _ rfl, fd_no h k]
      simp only [Prod.mk.injEq, true_and, and_true]
      omega
/-- frames one behind the other -/
def ens (L : List Fr) : List Nat := L.flatMap en
theorem ens_cons (f : Fr) (L : List Fr) : ens (f :: L) = en f ++ ens L := by simp [ens]
theorem ens_snoc (f : Fr) (L : List Fr) : ens (L ++ [f]) = ens L ++ en f := by simp [ens]
theorem ens_Bs {L : List Fr} (h : ∀ f ∈ L, May f) : Bs (ens L) := by
  induction L with
  | nil => exact Bs.nil
  | cons f L ih => rw [ens_cons]; exact (en_Bs (h f (by simp))).append (ih fun e he => h e (by simp [he]))
theorem ens_length (L : List Fr) : (ens L).length = 10 * L.length := by
  induction L with
  | nil => rfl
  | cons f L ih => rw [ens_cons, List.length_append, ih, en_length, List.length_cons]; omega
theorem fd_ens {L : List Fr} (h : ∀ f ∈ L, May f) : fd (ens L) = (L, 0, []) := by
  induction L with
  | nil => rw [fd_few (by simp [ens])]; rfl
  | cons f L ih =>
    have ht : (en f ++ ens L).take 10 = en f := by rw [List.take_append_of_le_length (by rw [en_length]; omega), List.take_of_length_le (by rw [en_length]; omega)]
    have hd : (en f ++ ens L).drop 10 = ens L := by rw [List.drop_append_of_le_length (by rw [en_length]; omega), List.drop_of_length_le (by rw [en_length]; omega)]; rfl
    have hm := h f (by simp)
    rw [ens_cons, fd_yes (by rw [List.length_append, en_length]; omega) (by rw [ht]; exact de_en hm), ht, hd, ih (fun e he => h e (by simp [he])), df_en hm]
theorem de_other {l : List Nat} (h : g l 0 ≠ 165) : de l ≠ 0 := by
  unfold de
  rw [if_neg (fun c => h c.2)]; omega
theorem fd_junk {J m : List Nat} (hJ : ∀ x ∈ J, x ≠ 165) (hm : 9 ≤ m.length) : fd (J ++ m) = ((fd m).1, (fd m).2.1 + J.length, (fd m).2.2) := by
  induction J with
  | nil => simp
  | cons x J ih =>
    have hx : x ≠ 165 := hJ x (by simp)
    rw [fd_no (by simp; omega) (de_other (by simpa [g] using hx))]
    show ((fd (J ++ m)).1, (fd (J ++ m)).2.1 + 1, (fd (J ++ m)).2.2) = _
    rw [ih (fun y hy => hJ y (by simp [hy]))]
    simp only [List.length_cons, Prod.mk.injEq, true_and, and_true]
    omega
theorem fd_found {J : List Nat} {L : List Fr} (hJ : ∀ x ∈ J, x ≠ 165) (hL : ∀ f ∈ L, May f) (hne : L ≠ []) : fd (J ++ ens L) = (L, J.length, []) := by
  have h9 : 9 ≤ (ens L).length := by
    rw [ens_length]
    have : 0 < L.length := List.length_pos_iff.2 hne
    omega
  rw [fd_junk hJ h9, fd_ens hL]; simp
theorem fd_lone {J : List Nat} (hJ : ∀ x ∈ J, x ≠ 165) : (fd J).1 = [] ∧ (fd J).2.1 = J.length - 9 := by
  by_cases h : J.length < 10
  · rw [fd_few h]; exact ⟨rfl, by simp; omega⟩
  · have e : J = J.take (J.length - 9) ++ J.drop (J.length - 9) := (List.take_append_drop _ _).symm
    have hd : (J.drop (J.length - 9)).length = 9 := by rw [List.length_drop]; omega
    have hk := fd_junk (J := J.take (J.length - 9)) (m := J.drop (J.length - 9)) (fun x hx => hJ x (List.mem_of_mem_take hx)) (by omega)
    rw [← e, fd_few (l := J.drop (J.length - 9)) (by omega)] at hk
    rw [hk]
    exact ⟨rfl, by simp⟩

end FC
end Go.Proofs.Ytkbfljacjfaamae
