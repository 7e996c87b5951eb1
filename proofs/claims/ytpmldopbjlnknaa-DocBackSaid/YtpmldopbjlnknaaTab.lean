/-
  Tables: crc.Table, the reference's Table, crc.orTable.
-/
import Derived.Test.YtpmldopbjlnknaaIter
import Derived.Laws.Rows
import Derived.Laws.Tables
import Derived.Laws.ResultCell
import Derived.Laws.NewBlocks
import Derived.Deep.WholeRow
import Derived.Deep.LoopGhost
namespace Go.Proofs.Ytpmldopbjlnknaa
open Go.RowKit

/-- The first k places of a table, zeros behind. -/
def tabArr (k : Nat) : Array Value := Array.ofFn (n := 256) fun i => .int .u32 ((if i.val < k then byteN 0 i.val else 0 : Nat) : Int)
theorem tabArr_size (k : Nat) : (tabArr k).size = 256 := by simp [tabArr]
theorem tabArr_get (k i : Nat) (hi : i < 256) : (tabArr k)[i]? = some (.int .u32 ((if i < k then byteN 0 i else 0 : Nat) : Int)) := by
  simp [tabArr, hi]
theorem tabArr_set (k : Nat) : (tabArr k).setIfInBounds k (.int .u32 (byteN 0 k : Nat)) = tabArr (k + 1) := by
  apply Array.ext_getElem?
  intro i
  by_cases hi : i < 256
  · rw [Array.getElem?_setIfInBounds, tabArr_get _ _ hi, tabArr_get _ _ hi]
    by_cases e : k = i
    · subst e
      simp [tabArr_size, hi]
    · have h1 : (i < k + 1) ↔ (i < k) := by omega
      simp [e, h1]
  · rw [Array.getElem?_eq_none (by simp [tabArr_size]; omega), Array.getElem?_eq_none (by simp [tabArr_size]; omega)]
theorem tabArr_one (k : Nat) : (tabArr k).all (·.oneCell') = true := by
  rw [Array.all_eq_true_iff_forall_mem]
  intro v hv
  simp only [tabArr, Array.mem_ofFn] at hv
  obtain ⟨i, rfl⟩ := hv
  rfl
theorem zero33' (w : World) : (zeroValue 134).run Try.prog w = .ok (.agg (Array.replicate 256 (.int .u32 0))) w := by kernel_rfl
theorem zero33 (w : World) : (zeroValue 134).run Try.prog w = .ok (.agg (tabArr 0)) w := by
  have h : tabArr 0 = Array.replicate 256 (.int .u32 0) := by
    apply Array.ext_getElem?
    intro i
    by_cases hi : i < 256
    · rw [tabArr_get _ _ hi]; simp [hi]
    · rw [Array.getElem?_eq_none (by simp [tabArr_size]; omega), Array.getElem?_eq_none (by simp; omega)]
  rw [h]
  exact zero33' w
theorem size33 (k : Nat) : (Try.prog.info? 134).map (·.size) = some (tabArr k).size := by
  rw [tabArr_size]; kernel_rfl
theorem tab_cell {w : World} {b k : Nat} (h : w.heap[b]? = some (.cells (tabArr k) 134 (0, 0))) {i : Nat} (hi : i < 256) : w.cell? ⟨b, i, none⟩ = some (.int .u32 ((if i < k then byteN 0 i else 0 : Nat) : Int)) := by
  rw [cell_of_row w b i _ _ _ h, tabArr_get _ _ hi]
theorem below_setRow {B : Nat} {a w : World} (h : Below B a w) {g : Nat} (hg : B ≤ g) (cs : Array Value) : Below B a (w.setRow g cs) :=
  ⟨h.os, h.tape, h.output, by simp; exact h.size, fun k hk => by
    rw [World.setRow, Array.getElem?_modify, if_neg (by omega)]
    exact h.block k hk⟩

set_option maxRecDepth 100000 in
set_option maxHeartbeats 400000 in
theorem table_any (w : World) :
    Calls Try.prog 91 #[] w fun e w' => e = .returned (.agg (tabArr 256)) ∧ Below w.heap.size w w' := by
  have hz := zero33
  go_enter Try.func91, Try.ntmps91
  go_wp2
  clear hz
  go_loopw [2] (fun i wr => ∃ k : Nat, k ≤ 256 ∧ i = .int .i64 k ∧ wr.heap[w.heap.size]? = some (.cells (tabArr k) 134 (0, 0)) ∧ Below w.heap.size w wr) (fun i _ => 256 - (intOf i).toNat)
  case atStart => exact ⟨0, by omega, rfl, heap_alloc_last _ _, (Below.refl _ _).alloc (Nat.le_refl _) _⟩
  case round =>
    obtain ⟨k, hk, rfl, hT, hB⟩ := hrel
    by_cases hlt : k < 256
    · go_wp2_with fail
      refine (takeByte_any 0 k wr (by omega) hlt).mono ?_
      rintro e w1 ⟨rfl, hb1⟩
      have hT1 : w1.heap[w.heap.size]? = some (.cells (tabArr k) 134 (0, 0)) := (hb1.block _ (block_lt hT)).trans hT
      have hc1 := tab_cell hT1 hlt
      have hf1 := frozen_of_row w1 w.heap.size k _ _ hT1
      go_wp2
      go_roundw
      case rel => exact ⟨k + 1, by omega, by go_num, by rw [← tabArr_set]; exact heap_setCell_same w1 _ k _ _ _ hT1, (hB.trans (hb1.mono (by have := block_lt hT; omega))).setCell (p := ⟨w.heap.size, k, none⟩) (Nat.le_refl _) _⟩
      case measure => simp [intOf]; omega
    · obtain rfl : k = 256 := by omega
      have hS : (wr.setRow w.heap.size (tabArr 256)).heap[w.heap.size]? = some (.cells (tabArr 256) 134 (0, 0)) := setRow_heap _ _ _ _ _ _ hT
      have hB2 : Below w.heap.size w (wr.setRow w.heap.size (tabArr 256)) := below_setRow hB (Nat.le_refl _) _
      go_wp2_with (first | (refine wpList_load_row rfl 134 _ rfl w.heap.size rfl 134 (tabArr 256) (0, 0) _ hT Try.underlying134 rfl (size33 256) ?_) | (refine wpList_store_row rfl 134 _ _ rfl w.heap.size (tabArr 256) rfl rfl 134 (tabArr 256) hT (size33 256) rfl (tabArr_one 256) ?_))
      refine bodyPost_ret_by (results_cell_row rfl _ _ w.heap.size 134 (tabArr 256) (0, 0) _ rfl hS Try.underlying134 rfl (size33 256)) rfl ⟨rfl, hB2⟩


set_option maxRecDepth 100000 in
set_option maxHeartbeats 400000 in
theorem orTable_nil (w : World) :
    Calls Try.prog 79 #[.pointer none] w fun e w' => ∃ b, e = .returned (.pointer (some ⟨b, 0, none⟩)) ∧ w.heap.size ≤ b ∧ w'.heap[b]? = some (.cells (tabArr 256) 134 (0, 0)) ∧ Below w.heap.size w w' := by
  go_enter Try.func79, Try.ntmps79
  go_wp2_with fail
  refine (table_any w).mono ?_
  rintro e w1 ⟨rfl, hb⟩
  have hz := zero33
  have hT : (w1.alloc (.cells (tabArr 0) 134)).heap[w1.heap.size]? = some (.cells (tabArr 0) 134 (0, 0)) := heap_alloc_last _ _
  go_wp2_with (refine wpList_store_row rfl 134 _ _ rfl w1.heap.size (tabArr 256) rfl rfl 134 (tabArr 0) hT (size33 256) (by simp [tabArr_size]) (tabArr_one 256) ?_)
  clear hz
  go_ret
  exact ⟨w1.heap.size, rfl, hb.size, setRow_heap _ _ _ _ _ _ hT, below_setRow (hb.alloc hb.size _) hb.size _⟩

set_option maxHeartbeats 400000 in
theorem orTable_some (b : Nat) (w : World) :
    Calls Try.prog 79 #[.pointer (some ⟨b, 0, none⟩)] w fun e w' => e = .returned (.pointer (some ⟨b, 0, none⟩)) ∧ w = w' := by
  go_enter Try.func79, Try.ntmps79
  go_wp2
  go_ret
  exact ⟨rfl, rfl⟩
end Go.Proofs.Ytpmldopbjlnknaa
