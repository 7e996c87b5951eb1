/-
  mark (and Same) of api.Place.
-/
import Derived.Test.YtpdlapnliiengaaGreatFlatPlaceM
import Derived.Test.YtpdlapnliiengaaGreatFlatMs
import Derived.Test.YtpdlapnliiengaaGreatAppendS
import Derived.Laws.ResultCell
namespace Go.Proofs.YtpdlapnliiengaaGreat.PlaceFlat
open Go.RowKit
set_option linter.unusedVariables false

set_option maxRecDepth 100000 in
set_option maxHeartbeats 1000000 in
theorem mark_any (k i : Nat) (w : World) (hk : k ≤ 1000000) (hi : i ≤ 281474976710656) :
    Calls Tryz.prog 75 #[.int .i64 k, .int .i64 i] w fun e w' => ∃ γ, e = .returned (.agg #[.int .i64 0, .int .i64 (markV k i : Nat)]) ∧ gd w' γ k i ∧ Below w.heap.size w w' := by
  have hm := fun W : World => markVN k i W hk hi
  generalize markV k i = z at hm ⊢
  have hS : (w.alloc (.cells #[.int .i64 0, .int .i64 (z : Nat)] 44)).heap[w.heap.size]? = some (.cells #[.int .i64 0, .int .i64 (z : Nat)] 44 (0, 0)) := heap_alloc_new _ _
  have HS := hide hS
  clear hS
  go_enter Tryz.func75, Tryz.ntmps75
  go_wp2_with (go_at_call 29; refine (hm _).mono ?_; rintro e w' ⟨rfl, rfl⟩)
  refine bodyPost_ret_by (results_cell_row rfl _ _ w.heap.size 44 #[.int .i64 0, .int .i64 (z : Nat)] (0, 0) _ rfl HS.out Tryz.underlying44 rfl (by kernel_rfl)) rfl ⟨0, rfl, trivial, below_alloc w _⟩
end Go.Proofs.YtpdlapnliiengaaGreat.PlaceFlat
