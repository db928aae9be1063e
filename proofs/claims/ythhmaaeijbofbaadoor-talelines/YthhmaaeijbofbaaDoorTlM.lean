/- Numbers and events as words: plain mathematics. No program is named here. -/
import Derived.Test.YthhmaaeijbofbaaDoorRows
namespace Go.Proofs.YthhmaaeijbofbaaDoor
namespace TM

/-- the digits of a number, k at most; none of 0 -/
def dg : Nat → Nat → List UInt8
  | 0, _ => []
  | k + 1, m => if m = 0 then [] else dg k (m / 10) ++ [UInt8.ofNat (48 + m % 10)]
/-- what digits tell -/
def vl (l : List UInt8) : Nat := l.foldl (fun a d => 10 * a + (d.toNat - 48)) 0
theorem vl_snoc (l : List UInt8) (d : UInt8) : vl (l ++ [d]) = 10 * vl l + (d.toNat - 48) := by simp [vl, List.foldl_append]
theorem dig_nat (m : Nat) : (UInt8.ofNat (48 + m % 10)).toNat = 48 + m % 10 := by
  rw [UInt8.toNat_ofNat']
  omega
theorem vl_dg : ∀ (k m : Nat), m < 10 ^ k → vl (dg k m) = m
  | 0, m, h => by simp at h; subst h; rfl
  | k + 1, m, h => by
    unfold dg
    split
    · rename_i e; subst e; rfl
    · rw [vl_snoc, vl_dg k (m / 10) (by rw [Nat.pow_succ] at h; omega), dig_nat]
      omega
/-- a byte that is a digit -/
def isD (d : UInt8) : Prop := 48 ≤ d.toNat ∧ d.toNat ≤ 57
theorem dg_dig : ∀ (k m : Nat), ∀ d ∈ dg k m, isD d
  | 0, _, d, h => by simp [dg] at h
  | k + 1, m, d, h => by
    unfold dg at h
    split at h
    · simp at h
    · rcases List.mem_append.1 h with h | h
      · exact dg_dig k _ d h
      · rw [List.mem_singleton] at h
        subst h
        unfold isD
        rw [dig_nat]
        omega
theorem dg_nil : ∀ {k m : Nat}, m < 10 ^ k → dg k m = [] → m = 0 := fun {k m} h e => by
  have := vl_dg k m h
  rw [e] at this
  exact this.symm
/-- a number that isn't below 0 -/
def dec (m : Nat) : List UInt8 := if m = 0 then [48] else dg 20 m
theorem vl_dec {m : Nat} (h : m < 10 ^ 20) : vl (dec m) = m := by
  unfold dec
  split
  · rename_i e; subst e; rfl
  · exact vl_dg 20 m h
theorem dec_dig {m : Nat} : ∀ d ∈ dec m, isD d := fun d h => by
  unfold dec at h
  split at h
  · rw [List.mem_singleton] at h; subst h; exact ⟨by decide, by decide⟩
  · exact dg_dig 20 m d h
theorem dec_ne {m : Nat} (h : m < 10 ^ 20) : dec m ≠ [] := fun e => by
  unfold dec at e
  split at e
  · simp at e
  · rename_i hm; exact hm (dg_nil h e)
/-- a number -/
def num (n : Int) : List UInt8 := if n < 0 then 45 :: dec n.natAbs else dec n.natAbs
/-- what a word tells -/
def vn : List UInt8 → Int
  | 45 :: l => -(vl l : Int)
  | l => (vl l : Int)
theorem vn_dig {l : List UInt8} (h : ∀ d ∈ l, isD d) : vn l = (vl l : Int) := by
  cases l with
  | nil => rfl
  | cons d r =>
    have := h d (List.mem_cons_self ..)
    have hd : d ≠ 45 := fun e => by subst e; exact absurd this.1 (by decide)
    unfold vn
    split
    · rename_i heq; cases heq; exact absurd rfl hd
    · rfl
def In64 (n : Int) : Prop := -9223372036854775808 ≤ n ∧ n ≤ 9223372036854775807
theorem vn_num {n : Int} (h : In64 n) : vn (num n) = n := by
  have hb : n.natAbs < 10 ^ 20 := by have := h.1; have := h.2; omega
  unfold num
  split
  · show -(vl (dec n.natAbs) : Int) = n
    rw [vl_dec hb]
    omega
  · rw [vn_dig dec_dig, vl_dec hb]
    omega
theorem num_inj {m n : Int} (h1 : In64 m) (h2 : In64 n) (h : num m = num n) : m = n := by rw [← vn_num h1, ← vn_num h2, h]
theorem num_no {n : Int} : (32 : UInt8) ∉ num n := fun h => by
  have key : ∀ d, isD d → d ≠ 32 := fun d hd e => by subst e; exact absurd hd.1 (by decide)
  unfold num at h
  split at h
  · rcases List.mem_cons.1 h with h | h
    · exact absurd h (by decide)
    · exact key _ (dec_dig _ h) rfl
  · exact key _ (dec_dig _ h) rfl
/-- two texts that part at their first blank -/
theorem part {a b r t : List UInt8} (ha : (32 : UInt8) ∉ a) (hb : (32 : UInt8) ∉ b) (h : a ++ 32 :: r = b ++ 32 :: t) : a = b ∧ r = t := by
  induction a generalizing b with
  | nil =>
    cases b with
    | nil => exact ⟨rfl, by simpa using h⟩
    | cons y b =>
      simp at h
      exact absurd (h.1 ▸ List.mem_cons_self ..) hb
  | cons x a ih =>
    cases b with
    | nil =>
      simp at h
      exact absurd (h.1 ▸ List.mem_cons_self ..) ha
    | cons y b =>
      simp only [List.cons_append, List.cons.injEq] at h
      obtain ⟨h1, h2⟩ := ih (b := b) (fun hh => ha (List.mem_cons_of_mem _ hh)) (fun hh => hb (List.mem_cons_of_mem _ hh)) h.2
      exact ⟨by rw [h.1, h1], h2⟩

/-- an event -/
structure Ev where
  ki : Int
  a : Int
  b : Int
  on : Bool
  fl : Int
  ca : Int
  ag : Int
  up : Bool
/-- a truth -/
def tr (x : Bool) : List UInt8 := if x then [49] else [48]
theorem tr_inj {x y : Bool} (h : tr x = tr y) : x = y := by cases x <;> cases y <;> first | rfl | (simp [tr] at h)
theorem tr_no (x : Bool) : (32 : UInt8) ∉ tr x := by cases x <;> decide
def wPress : List UInt8 := [112, 114, 101, 115, 115]
def wSwitch : List UInt8 := [115, 119, 105, 116, 99, 104]
def wLose : List UInt8 := [108, 111, 115, 101]
def wAgain : List UInt8 := [97, 103, 97, 105, 110]
def wBlock : List UInt8 := [98, 108, 111, 99, 107]
def wFault : List UInt8 := [102, 97, 117, 108, 116]
def wOver : List UInt8 := [111, 118, 101, 114]
def wTick : List UInt8 := [116, 105, 99, 107]
/-- the words behind the first one -/
def args (e : Ev) : List (List UInt8) :=
  if e.ki = 1 then [num e.fl, num e.ca, tr e.up]
  else if e.ki = 2 then [num e.a, num e.b, tr e.on]
  else if e.ki = 3 then [num e.a]
  else if e.ki = 4 then [num e.a]
  else if e.ki = 5 then [num e.a]
  else if e.ki = 6 then [num e.a, tr e.on]
  else if e.ki = 7 then [num e.a, tr e.on]
  else []
def word (e : Ev) : List UInt8 :=
  if e.ki = 1 then wPress
  else if e.ki = 2 then wSwitch
  else if e.ki = 3 then wLose
  else if e.ki = 4 then wAgain
  else if e.ki = 5 then wBlock
  else if e.ki = 6 then wFault
  else if e.ki = 7 then wOver
  else wTick
/-- words with one blank between each two -/
def glue (w : List UInt8) : List (List UInt8) → List UInt8
  | [] => w
  | x :: r => w ++ 32 :: glue x r
def known (e : Ev) : Prop := 1 ≤ e.ki ∧ e.ki ≤ 8
/-- an event as a line -/
def line (e : Ev) : List UInt8 := if 1 ≤ e.ki ∧ e.ki ≤ 8 then glue (word e) (args e) else [63]
/-- an event with nothing that its line doesn't tell -/
def told (e : Ev) : Ev :=
  if e.ki = 1 then ⟨1, 0, 0, false, e.fl, e.ca, 0, e.up⟩
  else ⟨e.ki, if e.ki = 8 then 0 else e.a, if e.ki = 2 then e.b else 0, if e.ki = 2 ∨ e.ki = 6 ∨ e.ki = 7 then e.on else false, 0, 0, 0, false⟩
structure Ok (e : Ev) : Prop where
  a : In64 e.a
  b : In64 e.b
  fl : In64 e.fl
  ca : In64 e.ca
theorem kinds {e : Ev} (h : known e) : e.ki = 1 ∨ e.ki = 2 ∨ e.ki = 3 ∨ e.ki = 4 ∨ e.ki = 5 ∨ e.ki = 6 ∨ e.ki = 7 ∨ e.ki = 8 := by
  obtain ⟨h1, h2⟩ := h
  omega

/-- no word has a blank -/
def Nb (l : List (List UInt8)) : Prop := ∀ w ∈ l, (32 : UInt8) ∉ w
theorem glue_no : ∀ {w : List UInt8} {xs : List (List UInt8)}, Nb (w :: xs) → (32 : UInt8) ∈ glue w xs → xs ≠ []
  | w, [], h, hm => absurd hm (h w (List.mem_cons_self ..))
  | _, _ :: _, _, _ => by simp
theorem glue_inj : ∀ {xs ys : List (List UInt8)} {w v : List UInt8}, Nb (w :: xs) → Nb (v :: ys) → glue w xs = glue v ys → w = v ∧ xs = ys
  | [], [], w, v, _, _, h => ⟨h, rfl⟩
  | [], y :: ys, w, v, h1, _, h => by
    have h : w = v ++ 32 :: glue y ys := h
    exact absurd (by rw [h]; simp) (h1 w (List.mem_cons_self ..))
  | x :: xs, [], w, v, _, h2, h => by
    have h : w ++ 32 :: glue x xs = v := h
    exact absurd (by rw [← h]; simp) (h2 v (List.mem_cons_self ..))
  | x :: xs, y :: ys, w, v, h1, h2, h => by
    have h : w ++ 32 :: glue x xs = v ++ 32 :: glue y ys := h
    obtain ⟨e1, e2⟩ := part (h1 w (List.mem_cons_self ..)) (h2 v (List.mem_cons_self ..)) h
    obtain ⟨e3, e4⟩ := glue_inj (w := x) (v := y) (fun z hz => h1 z (List.mem_cons_of_mem _ hz)) (fun z hz => h2 z (List.mem_cons_of_mem _ hz)) e2
    exact ⟨e1, by rw [e3, e4]⟩
theorem glue_count : ∀ {xs : List (List UInt8)} {w : List UInt8}, Nb (w :: xs) → (glue w xs).count 32 = xs.length
  | [], w, h => by
    show w.count 32 = 0
    exact List.count_eq_zero.2 (h w (List.mem_cons_self ..))
  | x :: xs, w, h => by
    show (w ++ 32 :: glue x xs).count 32 = _
    rw [List.count_append, List.count_cons_self, glue_count (w := x) (fun z hz => h z (List.mem_cons_of_mem _ hz)), List.count_eq_zero.2 (h w (List.mem_cons_self ..)), List.length_cons]
    omega
theorem nb_of {l : List (List UInt8)} (h : l.all (fun w => !w.contains 32) = true) : Nb l := fun w hw hm => by
  have := List.all_eq_true.1 h w hw
  simp at this
  exact this hm
theorem nb_line (e : Ev) : Nb (word e :: args e) := fun w hw => by
  rcases List.mem_cons.1 hw with rfl | hw
  · unfold word
    repeat' split
    all_goals decide
  · unfold args at hw
    repeat' split at hw
    all_goals
      first
        | exact absurd hw List.not_mem_nil
        | (simp only [List.mem_cons, List.not_mem_nil, or_false] at hw
           first
             | (rcases hw with rfl | rfl | rfl <;> first | exact num_no | exact tr_no _)
             | (rcases hw with rfl | rfl <;> first | exact num_no | exact tr_no _)
             | (subst hw; exact num_no))
theorem word_ki {a b : Ev} (ha : known a) (hb : known b) (h : word a = word b) : a.ki = b.ki := by
  unfold word at h
  rcases kinds ha with e | e | e | e | e | e | e | e <;> rcases kinds hb with f | f | f | f | f | f | f | f <;> rw [e, f] at h <;> first | (exact absurd h (by decide)) | (rw [e, f])
theorem args_told {a b : Ev} (ha : known a) (oa : Ok a) (ob : Ok b) (hk : a.ki = b.ki) : args a = args b ↔ told a = told b := by
  obtain ⟨ka, aa, ab, ao, af, ac, ag, au⟩ := a
  obtain ⟨kb, ba, bb, bo, bf, bc, bg, bu⟩ := b
  simp only at hk
  subst hk
  have h1 := oa.a; have h2 := ob.a; have h3 := oa.b; have h4 := ob.b; have h5 := oa.fl; have h6 := ob.fl; have h7 := oa.ca; have h8 := ob.ca
  simp only at h1 h2 h3 h4 h5 h6 h7 h8
  rcases kinds ha with e | e | e | e | e | e | e | e <;> (simp only at e; subst e; simp only [args, told]; simp (decide := true) only [if_true, if_false, List.cons.injEq, Ev.mk.injEq, true_and, and_true])
  · constructor
    · rintro ⟨p, q, r⟩; exact ⟨num_inj h5 h6 p, num_inj h7 h8 q, tr_inj r⟩
    · rintro ⟨p, q, r⟩; exact ⟨by rw [p], by rw [q], by rw [r]⟩
  · constructor
    · rintro ⟨p, q, r⟩; exact ⟨num_inj h1 h2 p, num_inj h3 h4 q, tr_inj r⟩
    · rintro ⟨p, q, r⟩; exact ⟨by rw [p], by rw [q], by rw [r]⟩
  · exact ⟨num_inj h1 h2, fun p => by rw [p]⟩
  · exact ⟨num_inj h1 h2, fun p => by rw [p]⟩
  · exact ⟨num_inj h1 h2, fun p => by rw [p]⟩
  · constructor
    · rintro ⟨p, r⟩; exact ⟨num_inj h1 h2 p, tr_inj r⟩
    · rintro ⟨p, r⟩; exact ⟨by rw [p], by rw [r]⟩
  · constructor
    · rintro ⟨p, r⟩; exact ⟨num_inj h1 h2 p, tr_inj r⟩
    · rintro ⟨p, r⟩; exact ⟨by rw [p], by rw [r]⟩
theorem line_is {a : Ev} (h : known a) : line a = glue (word a) (args a) := if_pos h
theorem told_ki (e : Ev) : (told e).ki = e.ki := by unfold told; split <;> simp_all
/-- two events have one line, if all that their lines tell is one -/
theorem line_told {a b : Ev} (ha : known a) (hb : known b) (oa : Ok a) (ob : Ok b) : line a = line b ↔ told a = told b := by
  rw [line_is ha, line_is hb]
  constructor
  · intro h
    obtain ⟨h1, h2⟩ := glue_inj (nb_line a) (nb_line b) h
    exact (args_told ha oa ob (word_ki ha hb h1)).1 h2
  · intro h
    have hk : a.ki = b.ki := by rw [← told_ki a, ← told_ki b, h]
    rw [(args_told ha oa ob hk).2 h]
    have : word a = word b := by unfold word; rw [hk]
    rw [this]
theorem line_blanks {a : Ev} (ha : known a) : (line a).count 32 = (args a).length := by
  rw [line_is ha]
  exact glue_count (nb_line a)
/-- a line that tells no event -/
theorem line_no {a : Ev} (h : ¬ known a) : line a = [63] := if_neg h
theorem line_yes {a : Ev} (h : known a) : line a ≠ [63] := fun e => by
  rw [line_is h] at e
  have : (glue (word a) (args a)).head? = some 63 := by rw [e]; rfl
  have hw : ∀ w xs, w ≠ [] → (glue w xs).head? = w.head? := fun w xs hw => by
    cases w with
    | nil => exact absurd rfl hw
    | cons x r => cases xs <;> rfl
  rw [hw] at this
  · unfold word at this
    revert this
    repeat' split
    all_goals decide
  · unfold word
    repeat' split
    all_goals decide

end TM
end Go.Proofs.YthhmaaeijbofbaaDoor
