/-
  awake; LangJoins's walk.
-/
import Derived.Test.YtpmldopbjlnknaaGreatLOf
set_option linter.unusedVariables false
set_option linter.unusedSimpArgs false
namespace Go.Proofs.YtpmldopbjlnknaaGreat
open Go.RowKit Go.Shelf
theorem right_any (L : List UInt8) (w : World) (hL : L.length ≤ 1000000) : Calls Tryz.prog 64 #[by8 L] w fun e w' => e = .returned (.bool (rightP L)) ∧ Below w.heap.size w w' := callsIn_wide.1 (right_in 20 (by omega) L w hL)
theorem of_any (L : List UInt8) (w : World) (hL : L.length ≤ 1000000) : Calls Tryz.prog 32 #[by8 L] w fun e w' => e = .returned (by8 (ofL L)) ∧ Below w.heap.size w w' := callsIn_wide.1 (of_in 20 (by omega) L w hL)
theorem parts_cons (c : UInt8) (l : List UInt8) : partsL (c :: l) = if c = 47 then [] :: partsL l else match partsL l with | [] => [[c]] | p :: r => (c :: p) :: r := by rw [partsL]; rfl
theorem parts_join : ∀ a b : List UInt8, partsL (a ++ 47 :: b) = partsL a ++ partsL b
 | [], b => by simp [partsL]
 | c :: a, b => by
   have ih := parts_join a b
   have hn := parts_ne a
   rw [List.cons_append, parts_cons, parts_cons, ih]
   by_cases hc : c = 47
   ·rw [if_pos hc, if_pos hc]; rfl
   ·rw [if_neg hc, if_neg hc]
    cases h : partsL a with
    | nil => exact absurd h hn
    | cons p r => rfl
end Go.Proofs.YtpmldopbjlnknaaGreat
