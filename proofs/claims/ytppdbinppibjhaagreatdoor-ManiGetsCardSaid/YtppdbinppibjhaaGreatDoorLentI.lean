/-
  Contracts of the kit's functions that lend rows of numbers and look whether they are kept; rows of numbers as lists of cells.
-/
import Derived.Test.YtppdbinppibjhaaGreatDoorLent
import Derived.Test.YtppdbinppibjhaaGreatDoorAppendS
set_option linter.unusedVariables false
set_option linter.unusedSimpArgs false
namespace Go.Proofs.YtppdbinppibjhaaGreatDoor
open Go.RowKit
def icells (z : Nat → Int) (len : Nat) : List Value := (List.range len).map fun i => .int .i64 (z i)
theorem icells_get (z : Nat → Int) (len i : Nat) (h : i < len) : (icells z len)[i]? = some (.int .i64 (z i)) := by simp [icells, h]
theorem info_int : (Tryz.prog.info? 3).map (fun i => (i.zero, i.size, i.bytes)) = some (some (.int .i64 0), 1, 8) := by kernel_rfl
def IBlk (w : World) (g len : Nat) (z : Nat → Int) : Prop := ∃ cur : Array Value, w.heap[g]? = some (.cells cur 3 (0, 0)) ∧ ∀ i, i < len → cur[i]? = some (.int .i64 (z i))
theorem IBlk.cell {w : World} {g len : Nat} {z : Nat → Int} (h : IBlk w g len z) {i : Nat} (hi : i < len) : w.cell? ⟨g, i, none⟩ = some (.int .i64 (z i)) := by
 obtain ⟨cur, hg, hc⟩ := h
 rw [cell_of_row _ _ _ _ _ _ hg, hc i hi]
theorem IBlk.lt {w : World} {g len : Nat} {z : Nat → Int} (h : IBlk w g len z) : g < w.heap.size := by
 obtain ⟨cur, hg, hc⟩ := h
 exact block_lt hg
theorem IBlk.below {w w' : World} {g len : Nat} {z : Nat → Int} (h : IBlk w g len z) (hb : Below w.heap.size w w') : IBlk w' g len z := by
 have hl := h.lt
 obtain ⟨cur, hg, hc⟩ := h
 exact ⟨cur, (hb.block g hl).trans hg, hc⟩
theorem IBlk.kept {F : Nat → Prop} {w w' : World} {g len : Nat} {z : Nat → Int} (h : IBlk w g len z) (hk : Kept F w w') (hg : ¬ F g) : IBlk w' g len z := by
 obtain ⟨cur, hg', hc⟩ := h
 exact ⟨cur, hk.heap hg' hg, hc⟩
theorem IBlk.of_owns {w : World} {B n : Nat} {v : Value} {z : Nat → Int} (h : w.ownsRow B 3 1 v n (icells z n)) (hn : 0 < n) : ∃ g cap, v = .slice (some ⟨g, 0, none⟩) n cap ∧ B ≤ g ∧ n ≤ cap ∧ cap ≤ 9223372036854775807 ∧ IBlk w g n z := by
 obtain ⟨hl, ⟨_, h0⟩ | ⟨g, cap, cur, hv, hB, hg, hnc, hcm, hcs, hx⟩⟩ := h
 ·omega
 ·unfold maxLen at hcm
  refine ⟨g, cap, hv, hB, hnc, hcm, cur, hg, fun i hi => ?_⟩
  have h1 := icells_get z n i hi
  rw [← hx, List.getElem?_take_of_lt (by omega)] at h1
  simpa using h1
end Go.Proofs.YtppdbinppibjhaaGreatDoor
