/-
  Contracts of the kit's functions that lend rows of numbers and look whether they are kept; rows of numbers as lists of cells.
-/
import Derived.Test.YtppdbinppibjhaaDoorLent
import Derived.Test.YtppdbinppibjhaaDoorSame
namespace Go.Proofs.YtppdbinppibjhaaDoor
open Go.RowKit

/-- The cells of the numbers z. -/
def icells (z : Nat → Int) (len : Nat) : List Value := (List.range len).map fun i => .int .i64 (z i)
theorem icells_length (z : Nat → Int) (len : Nat) : (icells z len).length = len := by simp [icells]
theorem icells_get (z : Nat → Int) (len i : Nat) (h : i < len) : (icells z len)[i]? = some (.int .i64 (z i)) := by simp [icells, h]
theorem icells_succ (z : Nat → Int) (n : Nat) : icells z (n + 1) = icells z n ++ [.int .i64 (z n)] := by simp [icells, List.range_succ]
theorem icells_congr {z y : Nat → Int} {n : Nat} (h : ∀ i, i < n → z i = y i) : icells z n = icells y n := by
  unfold icells
  apply List.map_congr_left
  intro i hi
  rw [h i (List.mem_range.1 hi)]
theorem icells_one (z : Nat → Int) (len : Nat) : ∀ u ∈ icells z len, u.oneCell' = true := by
  intro u hu
  simp only [icells, List.mem_map] at hu
  obtain ⟨i, _, rfl⟩ := hu
  rfl
theorem icells_news {w : World} {b off len : Nat} {z : Nat → Int} (hc : ∀ i, i < len → w.cell? ⟨b, off + i, none⟩ = some (.int .i64 (z i))) : ∀ j u, (icells z len)[j]? = some u → w.cell? ((⟨b, off, none⟩ : Addr).add j) = some u := by
  intro j u h
  have hj : j < len := by
    have := (List.getElem?_eq_some_iff.1 h).1
    rwa [icells_length] at this
  rw [icells_get z len j hj] at h
  have e : (⟨b, off, none⟩ : Addr).add j = ⟨b, off + j, none⟩ := by
    unfold Addr.add
    split
    · rename_i e; rw [e, Nat.add_zero]
    · rfl
  rw [e, hc j hj, h]
theorem info_int : (Tryd.prog.info? 3).map (fun i => (i.zero, i.size, i.bytes)) = some (some (.int .i64 0), 1, 8) := by kernel_rfl
/-- A block of the call's own, whose first len cells are the numbers z. -/
def IBlk (w : World) (g len : Nat) (z : Nat → Int) : Prop := ∃ cur : Array Value, w.heap[g]? = some (.cells cur 3 (0, 0)) ∧ ∀ i, i < len → cur[i]? = some (.int .i64 (z i))
theorem IBlk.ints {w : World} {g len : Nat} {z : Nat → Int} (h : IBlk w g len z) : Ints w (some ⟨g, 0, none⟩) len z := by
  obtain ⟨cur, hg, hc⟩ := h
  exact .inr ⟨g, 0, rfl, fun i hi => by rw [Nat.zero_add, cell_of_row _ _ _ _ _ _ hg, hc i hi]⟩
theorem IBlk.cell {w : World} {g len : Nat} {z : Nat → Int} (h : IBlk w g len z) {i : Nat} (hi : i < len) : w.cell? ⟨g, i, none⟩ = some (.int .i64 (z i)) := by
  obtain ⟨cur, hg, hc⟩ := h
  rw [cell_of_row _ _ _ _ _ _ hg, hc i hi]
theorem IBlk.lt {w : World} {g len : Nat} {z : Nat → Int} (h : IBlk w g len z) : g < w.heap.size := by
  obtain ⟨cur, hg, hc⟩ := h
  exact block_lt hg
theorem IBlk.below {w w' : World} {g len : Nat} {z : Nat → Int} (h : IBlk w g len z) (hb : Below w.heap.size w w') : IBlk w' g len z := by
  have hl := h.lt
  obtain ⟨cur, hg, hc⟩ := h
  exact ⟨cur, (hb.block g hl).trans hg, hc⟩
theorem IBlk.kept {F : Nat → Prop} {w w' : World} {g len : Nat} {z : Nat → Int} (h : IBlk w g len z) (hk : Kept F w w') (hg : ¬ F g) : IBlk w' g len z := by
  obtain ⟨cur, hg', hc⟩ := h
  exact ⟨cur, hk.heap hg' hg, hc⟩
theorem IBlk.of_owns {w : World} {B n : Nat} {v : Value} {z : Nat → Int} (h : w.ownsRow B 3 1 v n (icells z n)) (hn : 0 < n) : ∃ g cap, v = .slice (some ⟨g, 0, none⟩) n cap ∧ B ≤ g ∧ n ≤ cap ∧ cap ≤ 9223372036854775807 ∧ IBlk w g n z := by
  obtain ⟨hl, ⟨_, h0⟩ | ⟨g, cap, cur, hv, hB, hg, hnc, hcm, hcs, hx⟩⟩ := h
  · omega
  · unfold maxLen at hcm
    refine ⟨g, cap, hv, hB, hnc, hcm, cur, hg, fun i hi => ?_⟩
    have h1 := icells_get z n i hi
    rw [← hx, List.getElem?_take_of_lt (by omega)] at h1
    simpa using h1
/-- What a row of numbers that is owned holds. -/
theorem owns_ints {w : World} {B n : Nat} {v : Value} {z : Nat → Int} (h : w.ownsRow B 3 1 v n (icells z n)) : ∃ a cap, v = .slice a n cap ∧ n ≤ cap ∧ cap ≤ 9223372036854775807 ∧ (cap = 0 ∨ ∃ b off, a = some ⟨b, off, none⟩) ∧ Ints w a n z ∧ (∀ g o s, a = some ⟨g, o, s⟩ → B ≤ g) := by
  obtain ⟨hl, ⟨hv, h0⟩ | ⟨g, cap, cur, hv, hB, hg, hnc, hcm, hcs, hx⟩⟩ := h
  · exact ⟨none, 0, by rw [hv, h0], by omega, by omega, .inl rfl, .inl h0, fun _ _ _ e => by cases e⟩
  · unfold maxLen at hcm
    refine ⟨some ⟨g, 0, none⟩, cap, hv, hnc, hcm, .inr ⟨g, 0, rfl⟩, .inr ⟨g, 0, rfl, fun i hi => ?_⟩, fun _ _ _ e => by cases e; exact hB⟩
    have h1 := icells_get z n i hi
    rw [← hx, List.getElem?_take_of_lt (by omega)] at h1
    rw [Nat.zero_add, cell_of_row _ _ _ _ _ _ hg]
    simpa using h1

theorem IsRow.ints {w : World} {a : Option Addr} {len cap : Nat} {zs : List Int} (h : IsRow .i64 w a len cap zs) : len ≤ cap ∧ cap ≤ 9223372036854775807 ∧ (a = none → cap = 0) ∧ ∃ z, Ints w a len z := by
  rcases h with ⟨rfl, rfl, rfl, rfl⟩ | ⟨⟨b, off, spot⟩, rfl, hl, hm, hz, hc, _⟩
  · exact ⟨by omega, by omega, (fun _ => rfl), (fun _ => 0), .inl rfl⟩
  · unfold maxLen at hm
    refine ⟨hl, hm, (fun h => by cases h), (fun i => zs.getD i 0), ?_⟩
    rcases Nat.eq_zero_or_pos len with h0 | h0
    · exact .inl h0
    · have hs := World.cell?_spot (hc 0 (by omega))
      have hsp : spot = none := by simpa [Addr.add] using hs
      subst hsp
      refine .inr ⟨b, off, rfl, fun i hi => ?_⟩
      rw [← hc i (by omega)]
      unfold Addr.add
      split
      · rename_i e; rw [e, Nat.add_zero]
      · rfl

/-- A mark in spare room. -/
def markI (i : Nat) : Int := ((8000024 + i : Nat) : Int)
/-- A row and the marks behind it. -/
def lentI (z : Nat → Int) (len : Nat) (i : Nat) : Int := if i < len then z i else markI (i - len)
theorem lentI_take (z : Nat → Int) (len : Nat) : icells (lentI z len) len = icells z len := icells_congr (fun i hi => by rw [lentI, if_pos hi])
end Go.Proofs.YtppdbinppibjhaaDoor
