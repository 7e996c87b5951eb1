/-
  Contracts of the kit's functions that lend rows of bytes and look whether they are kept.
-/
import Derived.Test.YtppdbinppibjhaaGreatDoorKit
import Derived.BigQuiet
import Derived.Deep.QuietTactic
import Derived.Deep.DeepMust
import Derived.WalkSmall
import Derived.Deep.RegionHeld3
import Derived.Deep.DeepCutAuto
import Derived.Deep.LoopGhost
set_option linter.unusedVariables false
set_option linter.unusedSimpArgs false
namespace Go.Proofs.YtppdbinppibjhaaGreatDoor
open Go.RowKit
def markB (i : Nat) : Nat := (8000024 + i) * 11400714819323198485 % 18446744073709551616 / 72057594037927936 % 256
def lent (z : Nat → Nat) (len : Nat) (i : Nat) : Nat := if i < len then z i else markB (i - len)
end Go.Proofs.YtppdbinppibjhaaGreatDoor
