/-
  The bytes of a set as a rising list.
-/
import Derived.Test.YtmnjicpgdhnimaaDoorSMath
namespace Go.Proofs.YtmnjicpgdhnimaaDoor
open Go.RowKit

/-- The bytes below k of a set, rising. -/
def bl (H : Nat → Bool) : Nat → List Nat
  | 0 => []
  | k + 1 => if H k then bl H k ++ [k] else bl H k
theorem bl_yes {H : Nat → Bool} {k : Nat} (h : H k = true) : bl H (k + 1) = bl H k ++ [k] := by simp [bl, h]
theorem bl_no {H : Nat → Bool} {k : Nat} (h : H k = false) : bl H (k + 1) = bl H k := by simp [bl, h]
theorem bl_gap {H : Nat → Bool} {k : Nat} : ∀ (d : Nat), (∀ c, k ≤ c → c < k + d → H c = false) → bl H (k + d) = bl H k
  | 0, _ => rfl
  | d + 1, h => by
    rw [← Nat.add_assoc, bl_no (h _ (by omega) (by omega)), bl_gap d fun c h1 h2 => h c h1 (by omega)]
end Go.Proofs.YtmnjicpgdhnimaaDoor
