/- Plain mathematics of links: which number is newer, and for how long nothing came; no program is named here. -/
namespace Go.Proofs.Ytoigickgknbbfae

/-- a link: was one taken, the last one, the ticks since -/
structure Lk where
  t : Bool
  l : Int
  n : Int

namespace LM
/-- how far a number is ahead of another, round and round -/
def ah (l s : Int) : Int := (s - l) % 65536
/-- is it newer? -/
def nw (x : Lk) (s : Int) : Bool := !x.t || (decide (1 ≤ ah x.l s) && decide (ah x.l s ≤ 32767))
/-- the error of a number that comes -/
def err (x : Lk) (s : Int) : Int := if s < 0 ∨ 65535 < s then 1 else if nw x s = true then 0 else 7
/-- the link behind it -/
def tk (x : Lk) (s : Int) : Lk := if err x s = 0 then ⟨true, s, 0⟩ else x
/-- a tick passes -/
def ti (x : Lk) : Lk := if x.t = true then ⟨true, x.l, x.n + 1⟩ else x
def si (x : Lk) : Int := if x.t = true then x.n else -1
def li (x : Lk) (k : Int) : Bool := x.t && decide (x.n < k)
def z : Lk := ⟨false, 0, 0⟩

/-- what a link may be, with so many ticks at most -/
structure Ok (x : Lk) (N : Int) : Prop where
  l0 : 0 ≤ x.l
  l1 : x.l ≤ 65535
  n0 : 0 ≤ x.n
  n1 : x.n ≤ N

theorem ok_z : Ok z 0 := ⟨by simp [z], by simp [z], by simp [z], by simp [z]⟩
theorem Ok.mono {x : Lk} {N M : Int} (h : Ok x N) (hm : N ≤ M) : Ok x M := ⟨h.l0, h.l1, h.n0, by have := h.n1; omega⟩
theorem err_arg {x : Lk} {s : Int} (h : s < 0 ∨ 65535 < s) : err x s = 1 := by unfold err; rw [if_pos h]
theorem err_new {x : Lk} {s : Int} (h0 : 0 ≤ s) (h1 : s ≤ 65535) (h : nw x s = true) : err x s = 0 := by
  unfold err; rw [if_neg (by omega), if_pos h]
theorem err_old {x : Lk} {s : Int} (h0 : 0 ≤ s) (h1 : s ≤ 65535) (h : nw x s = false) : err x s = 7 := by
  unfold err; rw [if_neg (by omega), if_neg (by rw [h]; simp)]
theorem tk_new {x : Lk} {s : Int} (h : err x s = 0) : tk x s = ⟨true, s, 0⟩ := by unfold tk; rw [if_pos h]
theorem tk_same {x : Lk} {s : Int} (h : err x s ≠ 0) : tk x s = x := by unfold tk; rw [if_neg h]
theorem err_range {x : Lk} {s : Int} (h : err x s = 0) : 0 ≤ s ∧ s ≤ 65535 := by
  unfold err at h
  split at h
  · omega
  · omega
theorem Ok.tk {x : Lk} {N : Int} (h : Ok x N) (s : Int) (hN : 0 ≤ N) : Ok (tk x s) N := by
  by_cases he : err x s = 0
  · rw [tk_new he]
    have := err_range he
    exact ⟨this.1, this.2, Int.le_refl _, hN⟩
  · rw [tk_same he]; exact h
theorem Ok.ti {x : Lk} {N : Int} (h : Ok x N) : Ok (ti x) (N + 1) := by
  have := h.n0
  have := h.n1
  unfold LM.ti
  split
  · exact ⟨h.l0, h.l1, by show 0 ≤ x.n + 1; omega, by show x.n + 1 ≤ N + 1; omega⟩
  · exact h.mono (by omega)
theorem nw_first {x : Lk} (s : Int) (h : x.t = false) : nw x s = true := by simp [nw, h]
theorem nw_ahead {x : Lk} {s : Int} (h1 : 1 ≤ ah x.l s) (h2 : ah x.l s ≤ 32767) : nw x s = true := by simp [nw, h1, h2]
theorem nw_not {x : Lk} {s : Int} (ht : x.t = true) (h : ah x.l s < 1 ∨ 32767 < ah x.l s) : nw x s = false := by
  unfold nw
  rw [ht]
  rcases h with h | h
  · have : decide (1 ≤ ah x.l s) = false := by simp; omega
    simp [this]
  · have : decide (ah x.l s ≤ 32767) = false := by simp; omega
    simp [this]
end LM

end Go.Proofs.Ytoigickgknbbfae
