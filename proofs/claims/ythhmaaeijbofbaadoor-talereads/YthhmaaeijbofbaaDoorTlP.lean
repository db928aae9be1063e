/- The library's functions that Read calls, in our words. -/
import Derived.Test.YthhmaaeijbofbaaDoorTlE
import Derived.Shelf.Vars
namespace Go.Proofs.YthhmaaeijbofbaaDoor
open Go.RowKit

/-- the library's variables lie in this world -/
structure Pw (w : World) : Prop where
  pt : Pt w
  syn : ∃ tp p, w.var? Tryd.prog "strconv.ErrSyntax" = some #[.iface tp p]
  rng : ∃ tp p, w.var? Tryd.prog "strconv.ErrRange" = some #[.iface tp p]
  max : ∃ m, w.cell? ⟨3, 0, none⟩ = some (.int .i64 m)
theorem gSyn : Tryd.prog.globalNamed "strconv.ErrSyntax" = some 0 := by kernel_rfl
theorem gRng : Tryd.prog.globalNamed "strconv.ErrRange" = some 1 := by kernel_rfl
theorem cell_in {w : World} {a : Addr} {v : Value} (h : w.cell? a = some v) : a.block < w.heap.size := by
  unfold World.cell? at h
  rcases Nat.lt_or_ge a.block w.heap.size with h' | h'
  · exact h'
  · rw [Array.getElem?_eq_none h'] at h
    cases h
theorem Pw.below {w w' : World} (h : Pw w) (hb : Below w.heap.size w w') : Pw w' := by
  obtain ⟨h1, ⟨a, b, h2⟩, ⟨c, d, h3⟩, m, h4⟩ := h
  exact ⟨h1.below hb, ⟨a, b, Go.Joins.var_stays gSyn h2 hb (Nat.le_refl _)⟩, ⟨c, d, Go.Joins.var_stays gRng h3 hb (Nat.le_refl _)⟩, m, (hb.cell (cell_in h4)).trans h4⟩
theorem atoi_yes (x : List UInt8) (hx : x.length ≤ 1000) {v : Int} (h : Lib.atoiAll x = .ok v) (w : World) : Calls Tryd.prog 15 #[.string (sb x)] w fun e w' => e = .returned (.tuple #[.int .i64 v, .nilIface]) ∧ Below w.heap.size w w' := by
  have hs : (sb x).size = x.length := sb_size x
  refine (Tryd.strconv_Atoi_ok (sb x) (by omega) v (by rw [sb_data]; exact h) w).mono ?_
  rintro e w' ⟨rfl, rfl | ⟨t, rfl⟩⟩
  · exact ⟨rfl, Below.refl _ _⟩
  · exact ⟨rfl, Go.Joins.below_bytesWorld _ _ _ _ (Nat.le_refl _)⟩
theorem atoi_no (x : List UInt8) (hx : x.length ≤ 1000) (h : ∀ v, Lib.atoiAll x ≠ .ok v) (w : World) (hp : Pw w) : Calls Tryd.prog 15 #[.string (sb x)] w fun e w' => (∃ u t p, e = .returned (.tuple #[.int .i64 u, .iface t p])) ∧ Below w.heap.size w w' := by
  have hs : (sb x).size = x.length := sb_size x
  by_cases hr : Lib.atoiAll x = .range
  · obtain ⟨tp, p, hv⟩ := hp.rng
    refine (Tryd.strconv_Atoi_range_var (sb x) (by omega) (by rw [sb_data]; exact hr) tp p w hv).mono ?_
    rintro e w' ⟨N, rfl, _, _, hb⟩
    exact ⟨⟨_, _, _, rfl⟩, hb⟩
  · obtain ⟨tp, p, hv⟩ := hp.syn
    refine (Tryd.strconv_Atoi_bad_var (sb x) (by omega) (by rw [sb_data]; exact h) (by rw [sb_data]; exact hr) tp p w hv).mono ?_
    rintro e w' ⟨N, rfl, _, _, hb⟩
    exact ⟨⟨_, _, _, rfl⟩, hb⟩
/-- the words of a text, four at most -/
def wds (s : List UInt8) : List (List UInt8) := Lib.splitK [32] 0 (min 4 (s.length + 1) - 1) s
theorem splitB_wds (s : List UInt8) : Lib.splitB (sb [32]) 0 (min 4 (s.length + 1) - 1) (sb s) = (wds s).map sb := by
  have h := Lib.splitB_data (sb [32]) 0 (min 4 (s.length + 1) - 1) (sb s)
  rw [sb_data, sb_data] at h
  unfold wds
  rw [← h, List.map_map]
  conv => lhs; rw [← List.map_id (Lib.splitB _ _ _ _)]
  refine List.map_congr_left fun x _ => ?_
  show x = sb x.data.toList
  simp [sb]
theorem split_any (s : List UInt8) (hs : s.length ≤ 1000) (w : World) (hp : Pw w) : Calls Tryd.prog 14 #[.string (sb s), .string (sb [32]), .int .i64 4] w fun e w' =>
    e = .returned (.slice (some ⟨w.heap.size, 0, none⟩) (wds s).length (min 4 (s.length + 1))) ∧ w' = w.alloc (.cells (Lib.cellsOf ((wds s).map sb) (min 4 (s.length + 1))) 9) := by
  obtain ⟨m, hm⟩ := hp.max
  have h1 : (sb s).size = s.length := sb_size s
  have h2 : (sb [32]).size = 1 := sb_size [32]
  have h := Tryd.strings_SplitN (sb s) (sb [32]) 4 m w (by omega) hm (by omega) (by omega) (by omega)
  rw [h1, splitB_wds, List.length_map] at h
  exact h
end Go.Proofs.YthhmaaeijbofbaaDoor
