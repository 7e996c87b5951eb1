/-
  mark (and Same) of api.Posting.
-/
import Derived.Test.YtpdlapnliiengaaGreatFlatPostingM
import Derived.Test.YtpdlapnliiengaaGreatMarkT
import Derived.Test.YtpdlapnliiengaaGreatAppendS
import Derived.Laws.ResultCell
import Derived.Laws.Tables
namespace Go.Proofs.YtpdlapnliiengaaGreat.PostingFlat
open Go.RowKit
set_option linter.unusedVariables false

set_option maxRecDepth 100000 in
set_option maxHeartbeats 1000000 in
theorem mark_any (k i : Nat) (w : World) (hk : k ≤ 1000000) (hi : i ≤ 281474976710656) :
    Calls Tryz.prog 76 #[.int .i64 k, .int .i64 i] w fun e w' => ∃ γ, e = .returned (.agg #[.string (markT k i), .slice none 0 0]) ∧ gd w' γ k i ∧ Below w.heap.size w w' := by
  have hm := fun W : World => markTextN k i W hk
  generalize markT k i = t at hm ⊢
  have hS : (w.alloc (.cells #[.string ⟨#[]⟩, .slice none 0 0] 42)).heap[w.heap.size]? = some (.cells #[.string ⟨#[]⟩, .slice none 0 0] 42 (0, 0)) := heap_alloc_new _ _
  have HS := hide hS
  have HB : Hid (Below w.heap.size w (w.alloc (.cells #[.string ⟨#[]⟩, .slice none 0 0] 42))) := below_alloc w _
  have hz : (Tryz.prog.info? 42).map (·.size) = some (#[.string t, .slice none 0 0] : Array Value).size := by kernel_rfl
  have HZ := hide hz
  clear hS hz
  go_enter Tryz.func76, Tryz.ntmps76
  go_wp2_with ((go_at_call 66; refine (hm _).mono ?_; rintro e w' ⟨rfl, hb⟩; have hT := (hb.block w.heap.size (by simp)).trans HS.out; have HBw := hide (HB.out.trans (hb.mono (by simp))); have c0 := cell_of_row _ w.heap.size 0 _ _ _ hT; have f0 := frozen_of_row _ w.heap.size 0 _ _ hT; have c1 := cell_of_row _ w.heap.size 1 _ _ _ hT; have f1 := frozen_of_row _ w.heap.size 1 _ _ hT))
  have hF := heap_setCell_same _ w.heap.size 1 _ _ (.slice none 0 0) (heap_setCell_same _ w.heap.size 0 _ _ (.string (t)) hT)
  refine bodyPost_ret_by (results_cell_row rfl _ _ w.heap.size 42 #[.string t, .slice none 0 0] (0, 0) _ rfl hF Tryz.underlying42 rfl HZ.out) rfl ⟨0, rfl, trivial, ((HBw.out.setCell (p := ⟨w.heap.size, 0, none⟩) (Nat.le_refl _) _).setCell (p := ⟨w.heap.size, 1, none⟩) (Nat.le_refl _) _)⟩
set_option maxRecDepth 100000 in
theorem nil_same (w : World) : Calls Tryz.prog 37 #[.slice none 0 0, .slice none 0 0] w fun e w' => e = .returned (.bool true) ∧ Below w.heap.size w w' := by
  go_enter Tryz.func37, Tryz.ntmps37
  go_wp2_with fail
  go_loopw [5] (fun s5 wr => s5 = .int .i64 0 ∧ Below w.heap.size w wr) (fun _ _ => 0)
  case atStart => exact ⟨rfl, Below.refl _ _⟩
  case round =>
    obtain ⟨rfl, hb⟩ := hrel
    go_wp2_with fail
    go_ret
    exact ⟨rfl, hb⟩
set_option maxRecDepth 100000 in
set_option maxHeartbeats 1000000 in
theorem same_z (t : ByteArray) (w : World) :
    Calls Tryz.prog 25 #[.agg #[.string t, .slice none 0 0], .agg #[.string t, .slice none 0 0]] w fun e w' => e = .returned (.bool true) ∧ Below w.heap.size w w' := by
  have hb2 : Below w.heap.size w ((w.alloc (.cells #[.string t, .slice none 0 0] 42)).alloc (.cells #[.string t, .slice none 0 0] 42)) := below_step (below_alloc w _) _
  have hn := nil_same ((w.alloc (.cells #[.string t, .slice none 0 0] 42)).alloc (.cells #[.string t, .slice none 0 0] 42))
  go_enter Tryz.func25, Tryz.ntmps25
  go_wp2_with fail
  refine hn.mono ?_
  rintro e w1 ⟨rfl, hb3⟩
  have c0 := fun j => cell_of_row _ w.heap.size j _ _ _ ((hb3.block w.heap.size (by simp; omega)).trans ((Below.heap_alloc _ (.cells #[.string t, .slice none 0 0] 42) w.heap.size (by simp)).trans (heap_alloc_new w (.cells #[.string t, .slice none 0 0] 42))))
  have c1 := fun j => cell_of_row _ (w.alloc (.cells #[.string t, .slice none 0 0] 42)).heap.size j _ _ _ ((hb3.block _ (by simp)).trans (heap_alloc_new (w.alloc (.cells #[.string t, .slice none 0 0] 42)) (.cells #[.string t, .slice none 0 0] 42)))
  rw [World.size_alloc] at c1
  go_wp2_with fail
  go_ret
  exact ⟨rfl, hb2.trans (hb3.mono hb2.size)⟩
theorem same_any (k i : Nat) (w : World) (hk : k ≤ 1000000) (hi : i ≤ 281474976710656) :
    Calls Tryz.prog 25 #[.agg #[.string (markT k i), .slice none 0 0], .agg #[.string (markT k i), .slice none 0 0]] w fun e w' => e = .returned (.bool true) ∧ Below w.heap.size w w' := same_z _ w
end Go.Proofs.YtpdlapnliiengaaGreat.PostingFlat
