/-
  An append within a fenced walk, its footprint told; a variable in a box that holds a row of the call's own, appended to in a round.
-/
import Derived.Test.YtppdbinppibjhaaGreatDoorAppend
import Derived.Test.YtppdbinppibjhaaGreatDoorRangeN
import Derived.RangeFuncBox
import Derived.OwnWalkIn
namespace Go.Proofs.YtppdbinppibjhaaGreatDoor
open Go.RowKit


theorem Still.below {N B0 : Nat} {A B : World} (h : Still N A B) (hN : B0 ≤ N) (hA : B0 ≤ A.heap.size) : Below B0 A B :=
  ⟨h.os, h.tape, h.output, h.size, fun k hk => by
    have hl : k < A.heap.size := by omega
    obtain ⟨o, ho⟩ : ∃ o, A.heap[k]? = some o := ⟨_, Array.getElem?_eq_getElem hl⟩
    rw [ho]
    cases o with
    | cells c t f => exact h.cells _ _ _ _ ho
    | _ => exact h.others _ _ (by omega) ho rfl⟩
theorem Boxed.still {N B : Nat} {t : TypeId} {v : Value} {X Y : World} (h : Boxed X B t v) (hs : Still N X Y) : Boxed Y B t v := hs.cells _ _ _ _ h
end Go.Proofs.YtppdbinppibjhaaGreatDoor
