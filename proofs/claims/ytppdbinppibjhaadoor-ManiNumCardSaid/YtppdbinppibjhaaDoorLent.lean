/-
  Contracts of the kit's functions that lend rows of bytes and look whether they are kept.
-/
import Derived.Test.YtppdbinppibjhaaDoorKit
import Derived.BigQuiet
import Derived.Deep.QuietTactic
import Derived.Deep.DeepMust
import Derived.WalkSmall
import Derived.Deep.RegionHeld3
import Derived.Deep.DeepCutAuto
import Derived.Deep.LoopGhost
namespace Go.Proofs.YtppdbinppibjhaaDoor
open Go.RowKit

/-- A mark in spare room. -/
def markB (i : Nat) : Nat := (8000024 + i) * 11400714819323198485 % 18446744073709551616 / 72057594037927936 % 256
theorem markB_lt (i : Nat) : markB i < 256 := Nat.mod_lt _ (by omega)
theorem mark_eq (i : Nat) : IntKind.u64.wrap ((8000024 + (i : Int)) * 11400714819323198485) / 72057594037927936 % 256 = ((markB i : Nat) : Int) := by
  rw [IntKind.wrap_u64]; simp [markB]
/-- A row and the marks behind it. -/
def lent (z : Nat → Nat) (len : Nat) (i : Nat) : Nat := if i < len then z i else markB (i - len)
theorem lent_lt (z : Nat → Nat) (len i : Nat) (hz : ∀ i, z i < 256) : lent z len i < 256 := by
  unfold lent
  split
  · exact hz i
  · exact markB_lt _
theorem lent_take (z : Nat → Nat) (len : Nat) : cellsOf (lent z len) len = cellsOf z len := by
  unfold cellsOf
  apply List.map_congr_left
  intro i hi
  rw [lent, if_pos (List.mem_range.1 hi)]
end Go.Proofs.YtppdbinppibjhaaDoor
