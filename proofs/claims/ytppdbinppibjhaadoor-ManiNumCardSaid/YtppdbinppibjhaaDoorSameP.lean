/-
  The kit's questions whether two parts, two rows of parts, are the same (written by tools/gen-sameparts.py).
-/
import Derived.Test.YtppdbinppibjhaaDoorPrt
import Derived.Test.YtppdbinppibjhaaDoorRegionsA
namespace Go.Proofs.YtppdbinppibjhaaDoor
open Go.RowKit
set_option linter.unusedVariables false
set_option linter.unusedSimpArgs false


abbrev sameP_mem (s : Nat) : Prop := s ∈ [17, 18, 19, 20, 21, 22, 23, 24, 25, 26]
theorem sameP_list (s : Nat) (h : sameP_mem s) : s ∈ [17, 18, 19, 20, 21, 22, 23, 24, 25, 26] := h
def sameP_slot : Nat → Nat
  | 0 => 17
  | 1 => 18
  | 2 => 19
  | 3 => 20
  | 4 => 21
  | 5 => 22
  | 6 => 23
  | 7 => 24
  | 8 => 25
  | 9 => 26
  | j + 10 => 1027 + j

set_option maxRecDepth 100000 in
theorem sameP_inj (i j : Nat) (hi : i < 10) (hj : j < 10) (h : sameP_slot i = sameP_slot j) : i = j := by
  have key : ∀ i j : Fin 10, sameP_slot i.val = sameP_slot j.val → i = j := by decide
  exact Fin.mk.inj (key ⟨i, hi⟩ ⟨j, hj⟩ h)
def samePR_val (n k ca cb T l ga oa gb ob c1 c2 : Nat) (p1 p2 : Option Addr) : Nat → Value → World → Prop
  | 0, v, w => v = .slice (some ⟨ga, oa, none⟩) n ca
  | 1, v, w => v = .int .i64 (k : Nat)
  | 2, v, w => v = .pointer (some ⟨ga, oa + k * 2, none⟩)
  | 3, v, w => v = .agg #[.int .u8 (T : Nat), .slice p1 l c1]
  | 4, v, w => v = .slice (some ⟨gb, ob, none⟩) n cb
  | 5, v, w => v = .int .i64 (k : Nat)
  | 6, v, w => v = .pointer (some ⟨gb, ob + k * 2, none⟩)
  | 7, v, w => v = .agg #[.int .u8 (T : Nat), .slice p2 l c2]
  | 8, v, w => v = .bool true
  | 9, v, w => v = .bool false
  | _, _, _ => True
theorem samePR_below (n k ca cb T l ga oa gb ob c1 c2 : Nat) (p1 p2 : Option Addr) (w w' : World) (hb : Below w.heap.size w w') : ∀ j v, samePR_val n k ca cb T l ga oa gb ob c1 c2 p1 p2 j v w → samePR_val n k ca cb T l ga oa gb ob c1 c2 p1 p2 j v w' := by
  intro j v h
  match j, h with
  | 0, h => exact h
  | 1, h => exact h
  | 2, h => exact h
  | 3, h => exact h
  | 4, h => exact h
  | 5, h => exact h
  | 6, h => exact h
  | 7, h => exact h
  | 8, h => exact h
  | 9, h => exact h
  | _ + 10, h => exact h



/-- How much parts are. -/
def cntP (P : Nat → Prt) : Nat → Nat
  | 0 => 0
  | k + 1 => cntP P k + 1 + (P k).B.length
end Go.Proofs.YtppdbinppibjhaaDoor
