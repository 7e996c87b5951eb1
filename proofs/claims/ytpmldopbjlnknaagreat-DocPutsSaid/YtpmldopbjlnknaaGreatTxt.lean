/-
  Texts out of bytes: string(b[i:k]).
-/
import Derived.Test.YtpmldopbjlnknaaGreatKit
import Derived.Test.YtpmldopbjlnknaaGreatFoot
import Derived.Laws.BytesArg
set_option linter.unusedVariables false
set_option linter.unusedSimpArgs false
namespace Go.Proofs.YtpmldopbjlnknaaGreat
open Go.RowKit
end Go.Proofs.YtpmldopbjlnknaaGreat
