/-
  mark of texts.
-/
import Derived.Test.YtpdlapnliiengaaGreatFlatTextM
import Derived.Test.YtpdlapnliiengaaGreatMarkT
namespace Go.Proofs.YtpdlapnliiengaaGreat.TextFlat
open Go.RowKit
set_option linter.unusedVariables false

theorem mark_any (k i : Nat) (w : World) (hk : k ≤ 1000000) (hi : i ≤ 281474976710656) :
    Calls Tryz.prog 66 #[.int .i64 k, .int .i64 i] w fun e w' => ∃ γ, e = .returned (.string (markT k i)) ∧ gd w' γ k i ∧ Below w.heap.size w w' :=
  (markTextN k i w hk).mono fun _ _ ⟨he, hb⟩ => ⟨0, he, trivial, hb⟩
end Go.Proofs.YtpdlapnliiengaaGreat.TextFlat
