/-
  Worlds that differ in new blocks, and in marks of blocks that were laid since (a constant's bytes are marked), for regions that draw their order.
-/
import Derived.Test.YtpdlapnliiengaaGreatKit
import Derived.Test.YtpdlapnliiengaaGreatRegionsA
import Derived.Laws.IdiomStrings
namespace Go.Proofs.YtpdlapnliiengaaGreat
open Go.RowKit

theorem get_someR {t : Array Value} {s : Nat} {v : Value} (h : t.getD s undef = v) (hv : v ≠ undef) : t[s]? = some v := by
  rw [Array.getD_eq_getD_getElem?] at h
  cases e : t[s]? with
  | none => rw [e] at h; exact absurd h.symm hv
  | some u => rw [e] at h; exact congrArg some h
structure MK (n0 : Nat) (w w' : World) : Prop where
  os : w'.os = w.os
  tape : w'.tape = w.tape
  output : w'.output = w.output
  size : w.heap.size ≤ w'.heap.size
  block : ∀ k, k < n0 → w'.heap[k]? = w.heap[k]?
  cells : ∀ (k : Nat) (c : Array Value) (t : TypeId) (f : Nat × Nat), w.heap[k]? = some (.cells c t f) → ∃ f', w'.heap[k]? = some (.cells c t f')
theorem MK.refl (n0 : Nat) (w : World) : MK n0 w w := ⟨rfl, rfl, rfl, Nat.le_refl _, fun _ _ => rfl, fun _ _ _ f h => ⟨f, h⟩⟩
theorem MK.trans {n0 : Nat} {a b c : World} (h : MK n0 a b) (k : MK n0 b c) : MK n0 a c :=
  ⟨k.os.trans h.os, k.tape.trans h.tape, k.output.trans h.output, Nat.le_trans h.size k.size, fun i hi => (k.block i hi).trans (h.block i hi), fun i c t f hx => by
    obtain ⟨f', h'⟩ := h.cells i c t f hx
    exact k.cells i c t f' h'⟩
theorem MK.drew (n0 : Nat) (w : World) : MK n0 w w.drew := ⟨rfl, rfl, rfl, Nat.le_refl _, fun _ _ => rfl, fun _ _ _ f h => ⟨f, h⟩⟩
theorem MK.of_below {n0 : Nat} {w w' : World} (h : Below w.heap.size w w') (hn : n0 ≤ w.heap.size) : MK n0 w w' :=
  ⟨h.os, h.tape, h.output, h.size, fun k hk => h.block k (by omega), fun k c t f hx => ⟨f, (h.block k (Array.getElem?_eq_some_iff.1 hx).1).trans hx⟩⟩
theorem MK.below {n0 : Nat} {w w' : World} (h : MK n0 w w') : Below n0 w w' := ⟨h.os, h.tape, h.output, h.size, h.block⟩
/-- A conversion of a constant's bytes to their own type marks them. -/
theorem conv_mark {w : World} {n0 g n c : Nat} {C : Array Value} {e : TypeId} {fr : Nat × Nat} (h : w.heap[g]? = some (.cells C e fr)) (hn : n0 ≤ g) :
    ∃ w', (convert 22 22 (.slice (some ⟨g, 0, none⟩) n c)).run Tryz.prog w = .ok (.slice (some ⟨g, 0, none⟩) n c) w' ∧ MK n0 w w' := by
  have hsh : w.shape? g = some (e, C.size) := by unfold World.shape?; rw [h]
  refine ⟨w.freeze ⟨g, C.size, none⟩ 1, ?_, ?_⟩
  · simp [convert, run_underlying Tryz.underlying22, run_underlying Tryz.underlying5, markStringish, hsh]
  · have hf : ∀ k, k ≠ g → (w.freeze ⟨g, C.size, none⟩ 1).heap[k]? = w.heap[k]? := fun k hk => by
      unfold World.freeze
      rw [if_neg (by decide)]
      simp only [Array.getElem?_modify]
      rw [if_neg (fun e => hk e.symm)]
    refine ⟨rfl, rfl, rfl, ?_, fun k hk => hf k (by omega), fun k c t f hx => ?_⟩
    · unfold World.freeze; rw [if_neg (by decide)]; simp
    · by_cases hk : k = g
      · subst hk
        rw [h] at hx
        cases hx
        obtain ⟨lo, hi⟩ := fr
        refine ⟨if lo == hi then (C.size, C.size + 1) else (min lo C.size, max hi (C.size + 1)), ?_⟩
        unfold World.freeze
        rw [if_neg (by decide)]
        simp only [Array.getElem?_modify, if_true, h, Option.map_some]
      · exact ⟨f, (hf k hk).trans hx⟩
end Go.Proofs.YtpdlapnliiengaaGreat
