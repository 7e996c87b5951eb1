/-
  Worlds that differ in new blocks, and in marks of blocks that were laid since (a constant's bytes are marked), for regions that draw their order.
-/
import Derived.Test.YtpmldopbjlnknaaGreatKit
import Derived.Test.YtpmldopbjlnknaaGreatRegionsA
import Derived.Laws.IdiomStrings
set_option linter.unusedVariables false
set_option linter.unusedSimpArgs false
namespace Go.Proofs.YtpmldopbjlnknaaGreat
open Go.RowKit
structure MK (n0 : Nat) (w w' : World) : Prop where
 os : w'.os = w.os
 tape : w'.tape = w.tape
 output : w'.output = w.output
 size : w.heap.size ≤ w'.heap.size
 block : ∀ k, k < n0 → w'.heap[k]? = w.heap[k]?
 cells : ∀ (k : Nat) (c : Array Value) (t : TypeId) (f : Nat × Nat), w.heap[k]? = some (.cells c t f) → ∃ f', w'.heap[k]? = some (.cells c t f')
theorem MK.refl (n0 : Nat) (w : World) : MK n0 w w := ⟨rfl, rfl, rfl, Nat.le_refl _, fun _ _ => rfl, fun _ _ _ f h => ⟨f, h⟩⟩
theorem MK.trans {n0 : Nat} {a b c : World} (h : MK n0 a b) (k : MK n0 b c) : MK n0 a c :=
 ⟨k.os.trans h.os, k.tape.trans h.tape, k.output.trans h.output, Nat.le_trans h.size k.size, fun i hi => (k.block i hi).trans (h.block i hi), fun i c t f hx => by
  obtain ⟨f', h'⟩ := h.cells i c t f hx
  exact k.cells i c t f' h'⟩
theorem MK.drew (n0 : Nat) (w : World) : MK n0 w w.drew := ⟨rfl, rfl, rfl, Nat.le_refl _, fun _ _ => rfl, fun _ _ _ f h => ⟨f, h⟩⟩
theorem MK.of_below {n0 : Nat} {w w' : World} (h : Below w.heap.size w w') (hn : n0 ≤ w.heap.size) : MK n0 w w' :=
 ⟨h.os, h.tape, h.output, h.size, fun k hk => h.block k (by omega), fun k c t f hx => ⟨f, (h.block k (Array.getElem?_eq_some_iff.1 hx).1).trans hx⟩⟩
theorem MK.below {n0 : Nat} {w w' : World} (h : MK n0 w w') : Below n0 w w' := ⟨h.os, h.tape, h.output, h.size, h.block⟩
end Go.Proofs.YtpmldopbjlnknaaGreat
