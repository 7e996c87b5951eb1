/-
  set.Bytes.
-/
import Derived.Test.YtmnjicpgdhnimaaDoorSCollect
namespace Go.Proofs.YtmnjicpgdhnimaaDoor
open Go.RowKit Go.Shelf

attribute [local go_sem] Oper.semAt_some

set_option maxRecDepth 100000 in
set_option maxHeartbeats 1000000 in
theorem bytes_in (n : Nat) (hn : 20 ≤ n) (H : Nat → Bool) (w : World) (hT : Tab w) :
    CallsIn Fence.wide n Tryd.prog 8 #[sv H] w fun e w' => ∃ v, e = .returned v ∧ w'.ownsRow w.heap.size 5 1 v (bl H 256).length (lc (bl H 256)) ∧ Below w.heap.size w w' := by
  obtain ⟨W1, hW1⟩ : ∃ W1, (w.alloc (.cells (st H) 24)).alloc (.cells (st H) 24) = W1 := ⟨_, rfl⟩
  have hB1 : Below w.heap.size w W1 := by rw [← hW1]; exact ((Below.refl _ _).alloc (Nat.le_refl _) _).alloc (by simp) _
  have hs1 : W1.heap.size = w.heap.size + 2 := by rw [← hW1]; simp
  have hbs : SBox W1 (w.heap.size + 1) H := by rw [← hW1]; exact SBox.new _ _ _ (by simp)
  have hbox := SBox.new w w.heap.size H rfl
  have b0 := hbox.cell 0 (by omega)
  have b1 := hbox.cell 1 (by omega)
  have b2 := hbox.cell 2 (by omega)
  have b3 := hbox.cell 3 (by omega)
  have hw0 : 0 < w.heap.size := by have := block_lt_of_cell (hT 0 (by decide)); simpa using this
  have hseq := bytes_seq (n - 1 - 1 - 1) (w.heap.size + 1) H W1 hbs (hT.below hB1)
  have hco := collectB_in (n - 1) (by omega) 43 #[.pointer (some ⟨w.heap.size + 1, 0, none⟩)] (enters_of Tryd.func43 (by kernel_rfl) rfl) _ _ _ _ W1 hseq 257 (by omega) (fun xs => xs = bl H 256)
    (fun N pre x A B h => ⟨h.1, by
      have h2 := h.2.1
      have h3 := h.2.2.2
      have h4 := bl_length_le H x
      rw [h2]; omega⟩) (fun N xs A B h => h) (fun N xs A B h => h.1) (fun k hk => by
      rcases hk with rfl | rfl
      · omega
      · omega)
  have HS := hide hs1
  have HB := hide hB1
  clear hseq hbs hs1 hB1 hbox hT
  unfold sv
  refine callsIn_of_wp Tryd.func8 rfl trivial ?_ rfl
  simp only [Tryd.ntmps8, List.size_toArray, List.length_cons, List.length_nil, Nat.reduceAdd, Nat.reduceSub, Array.replicate_succ, Array.replicate_zero, List.push_toArray, List.append_toArray, List.nil_append, List.cons_append]
  gi_wp2
  refine ⟨trivial, wide_deep, (bytesOf_in Fence.wide _ trivial rfl H _).mono ?_⟩
  rintro e w4 ⟨rfl, rfl⟩
  rw [hW1]
  simp only [World.size_alloc]
  gi_wp2
  refine ⟨trivial, wide_deep, hco.mono ?_⟩
  rintro e w1 ⟨v, xs, rfl, rfl, h2, h3⟩
  gi_wp2
  go_ret
  exact ⟨v, rfl, owns_lower h2 (by have := HS.out; omega), HB.out.trans (h3.mono (by have := HS.out; omega))⟩
theorem bytes_any (H : Nat → Bool) (w : World) (hT : Tab w) :
    Calls Tryd.prog 8 #[sv H] w fun e w' => ∃ v, e = .returned v ∧ w'.ownsRow w.heap.size 5 1 v (bl H 256).length (lc (bl H 256)) ∧ Below w.heap.size w w' :=
  callsIn_wide.1 (bytes_in 20 (by omega) H w hT)
end Go.Proofs.YtmnjicpgdhnimaaDoor
