/-
  The kit's questions whether two parts, two rows of parts, are the same (written by tools/gen-sameparts.py).
-/
import Derived.Test.YtppdbinppibjhaaGreatDoorPrt
import Derived.Test.YtppdbinppibjhaaGreatDoorRegionsA
set_option linter.unusedVariables false
set_option linter.unusedSimpArgs false
namespace Go.Proofs.YtppdbinppibjhaaGreatDoor
open Go.RowKit
end Go.Proofs.YtppdbinppibjhaaGreatDoor
