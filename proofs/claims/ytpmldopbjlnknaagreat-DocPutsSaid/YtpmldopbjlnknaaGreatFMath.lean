/-
  Mathematics of frame: a file's bytes; the parts whose file bytes are; bursts.
-/
import Derived.Test.YtpmldopbjlnknaaGreatMaths
import Derived.Test.YtpmldopbjlnknaaGreatFoot
set_option linter.unusedVariables false
set_option linter.unusedSimpArgs false
namespace Go.Proofs.YtpmldopbjlnknaaGreat
def crcL (L : List Nat) : Nat := sumN (fun i => L.getD i 0) L.length
end Go.Proofs.YtpmldopbjlnknaaGreat
