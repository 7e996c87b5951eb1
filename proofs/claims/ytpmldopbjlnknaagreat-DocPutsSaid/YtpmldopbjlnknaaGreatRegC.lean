/-
  A region whose order is open, some of whose operations (C) come one behind the other and change what is there (T k: what holds behind k of them); the rest as in RegT.
-/
import Derived.Test.YtpmldopbjlnknaaGreatRegT
set_option linter.unusedVariables false
set_option linter.unusedSimpArgs false
namespace Go.Proofs.YtpmldopbjlnknaaGreat
open Go.RowKit
section
variable {F : Fence} {n : Nat} {P : Program} {ops : Array Oper} {Q : Exit → Act → World → Prop}
end
end Go.Proofs.YtpmldopbjlnknaaGreat
