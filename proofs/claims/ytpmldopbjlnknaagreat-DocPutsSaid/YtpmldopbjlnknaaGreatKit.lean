/-
  What slices of bytes hold, blocks of the call's own, worlds that are kept: what the proofs of all layers share.
-/
import Derived.Test.YtpmldopbjlnknaaGreatProg
import Derived.WalkKit
import Derived.WalkSpells
import Derived.WalkLawsBesides
import Derived.OpenShut
import Derived.ProofKit
import Derived.RangeFuncFrom
import Derived.RangeFuncCalls
import Derived.RangeFuncLeaves
import Derived.RangeFuncBound
import Derived.OwnWalkIn
import Derived.Laws.MakeOwn
import Derived.Laws.OwnMore
import Derived.Laws.NewBlocks
import Derived.Laws.ResultCell
import Derived.Deep.WholeRow
set_option linter.unusedVariables false
set_option linter.unusedSimpArgs false
namespace Go.Proofs.YtpmldopbjlnknaaGreat
open Go.RowKit
theorem ret_int {k : IntKind} {a b : Int} (h : a = b) : Ending.returned (.int k a) = .returned (.int k b) := by rw [h]
theorem cell_new_l (W : World) (v : Value) (t : TypeId) : (W.alloc (.cells #[v] t)).cell? ⟨W.heap.size, 0, none⟩ = some v ∧ (W.alloc (.cells #[v] t)).frozen? ⟨W.heap.size, 0, none⟩ = false :=
 ⟨by simp, by simp⟩
theorem cell_alloc_l {W : World} {a : Addr} {v : Value} (o : Obj) (h : W.cell? a = some v) : (W.alloc o).cell? a = some v :=
 cell_kept h (World.grownBy_alloc W o none) (fun _ e => by cases e)
theorem frozen_alloc_l {W : World} {a : Addr} {v : Value} (o : Obj) (h : W.cell? a = some v) (hf : W.frozen? a = false) : (W.alloc o).frozen? a = false :=
 (frozen_kept h (World.grownBy_alloc W o none) (fun _ e => by cases e)).trans hf
def upto {α : Type} (f : Nat → α) (k : Nat) : List α := (List.range k).map f
theorem upto_succ {α : Type} (f : Nat → α) (k : Nat) : upto f (k + 1) = upto f k ++ [f k] := by simp [upto, List.range_succ]
theorem upto_length {α : Type} (f : Nat → α) (k : Nat) : (upto f k).length = k := by simp [upto]
theorem block_lt {w : World} {b : Nat} {o : Obj} (h : w.heap[b]? = some o) : b < w.heap.size := (Array.getElem?_eq_some_iff.1 h).1
def Byt (w : World) (a : Option Addr) (len : Nat) (z : Nat → Nat) : Prop :=
 (∀ i, z i < 256) ∧ (len = 0 ∨ ∃ b off, a = some ⟨b, off, none⟩ ∧ ∀ i, i < len → w.cell? ⟨b, off + i, none⟩ = some (.int .u8 (z i : Nat)))
theorem Byt.below {w w' : World} {a : Option Addr} {len : Nat} {z : Nat → Nat} (h : Byt w a len z) (hb : Below w.heap.size w w') : Byt w' a len z := by
 obtain ⟨hz, h | ⟨b, off, rfl, hc⟩⟩ := h
 ·exact ⟨hz, .inl h⟩
 ·exact ⟨hz, .inr ⟨b, off, rfl, fun i hi => (hb.cell (p := ⟨b, off + i, none⟩) (block_lt_of_cell (hc i hi))).trans (hc i hi)⟩⟩
theorem Byt.drop {w : World} {b off len : Nat} {z : Nat → Nat} (hz : ∀ i, z i < 256) (hc : ∀ i, i < len → w.cell? ⟨b, off + i, none⟩ = some (.int .u8 (z i : Nat))) (k : Nat) : Byt w (some ⟨b, off + k, none⟩) (len - k) (fun i => z (k + i)) :=
 ⟨fun i => hz _, .inr ⟨b, off + k, rfl, fun i hi => by rw [Nat.add_assoc]; exact hc (k + i) (by omega)⟩⟩
theorem below_alloc (w : World) (o : Obj) : Below w.heap.size w (w.alloc o) := (Below.refl _ _).alloc (Nat.le_refl _) _
theorem u32_bounds {n : Int} (h : (Lit.int .u32 n).wf = true) : 0 ≤ n ∧ n < 4294967296 := by
 have := bounds_u32 h
 omega
def Blk (w : World) (g len : Nat) (z : Nat → Nat) : Prop := (∀ i, z i < 256) ∧ ∃ cur : Array Value, w.heap[g]? = some (.cells cur 5 (0, 0)) ∧ ∀ i, i < len → cur[i]? = some (.int .u8 (z i : Nat))
theorem Blk.cell {w : World} {g len : Nat} {z : Nat → Nat} (h : Blk w g len z) {i : Nat} (hi : i < len) : w.cell? ⟨g, i, none⟩ = some (.int .u8 (z i : Nat)) := by
 obtain ⟨hz, cur, hg, hc⟩ := h
 rw [cell_of_row _ _ _ _ _ _ hg, hc i hi]
theorem Blk.frozen {w : World} {g len : Nat} {z : Nat → Nat} (h : Blk w g len z) (i : Nat) : w.frozen? ⟨g, i, none⟩ = false := by
 obtain ⟨hz, cur, hg, hc⟩ := h
 exact frozen_of_row _ _ _ _ _ hg
theorem Blk.lt {w : World} {g len : Nat} {z : Nat → Nat} (h : Blk w g len z) : g < w.heap.size := by
 obtain ⟨hz, cur, hg, hc⟩ := h
 exact block_lt hg
theorem Blk.below {w w' : World} {g len : Nat} {z : Nat → Nat} (h : Blk w g len z) (hb : Below w.heap.size w w') : Blk w' g len z := by
 have hl := h.lt
 obtain ⟨hz, cur, hg, hc⟩ := h
 exact ⟨hz, cur, (hb.block g hl).trans hg, hc⟩
theorem Blk.set {w : World} {g len : Nat} {z y : Nat → Nat} (h : Blk w g len z) (i x : Nat) (hy : ∀ j, y j < 256) (hx : y i = x) (ho : ∀ j, j ≠ i → y j = z j) : Blk (w.setCell ⟨g, i, none⟩ (.int .u8 x)) g len y := by
 obtain ⟨hz, cur, hg, hc⟩ := h
 refine ⟨hy, cur.setIfInBounds i (.int .u8 x), heap_setCell_same w g i cur _ _ hg, fun j hj => ?_⟩
 rw [Array.getElem?_setIfInBounds]
 by_cases e : i = j
 ·subst e
  have : i < cur.size := by
   rcases Nat.lt_or_ge i cur.size with h' | h'
   ·exact h'
   ·have := hc i hj
    rw [Array.getElem?_eq_none h'] at this
    cases this
  simp [this, hx]
 ·rw [if_neg e, hc j hj, ho j (fun h => e h.symm)]
theorem Blk.drew {w : World} {g len : Nat} {z : Nat → Nat} (h : Blk w g len z) : Blk w.drew g len z := h
theorem Byt.drew {w : World} {a : Option Addr} {len : Nat} {z : Nat → Nat} (h : Byt w a len z) : Byt w.drew a len z := h
theorem Byt.alloc {w : World} {a : Option Addr} {len : Nat} {z : Nat → Nat} (h : Byt w a len z) (o : Obj) : Byt (w.alloc o) a len z := h.below (below_alloc w o)
theorem cell_thru {w w' : World} {p : Addr} {v : Value} (h : w.cell? p = some v) (hb : Below w.heap.size w w') : w'.cell? p = some v := (hb.cell (block_lt_of_cell h)).trans h
theorem below_thru {w W W' : World} (h : Below w.heap.size w W) (hb : Below W.heap.size W W') : Below w.heap.size w W' := h.trans (hb.mono h.size)
theorem below_step {w W : World} (h : Below w.heap.size w W) (o : Obj) : Below w.heap.size w (W.alloc o) := h.alloc h.size o
theorem info_u8 : (Tryz.prog.info? 5).map (fun i => (i.zero, i.size, i.bytes)) = some (some (.int .u8 0), 1, 1) := by kernel_rfl
def cellsOf (z : Nat → Nat) (len : Nat) : List Value := (List.range len).map fun i => .int .u8 (z i : Nat)
theorem cellsOf_length (z : Nat → Nat) (len : Nat) : (cellsOf z len).length = len := by simp [cellsOf]
theorem cellsOf_get (z : Nat → Nat) (len i : Nat) (h : i < len) : (cellsOf z len)[i]? = some (.int .u8 (z i : Nat)) := by
 simp [cellsOf, h]
theorem cellsOf_news {w : World} {b off len : Nat} {z : Nat → Nat} (hc : ∀ i, i < len → w.cell? ⟨b, off + i, none⟩ = some (.int .u8 (z i : Nat))) : ∀ j u, (cellsOf z len)[j]? = some u → w.cell? ((⟨b, off, none⟩ : Addr).add j) = some u := by
 intro j u h
 have hj : j < len := by
  have := (List.getElem?_eq_some_iff.1 h).1
  rwa [cellsOf_length] at this
 rw [cellsOf_get z len j hj] at h
 have e : (⟨b, off, none⟩ : Addr).add j = ⟨b, off + j, none⟩ := by
  unfold Addr.add
  split
  ·rename_i e; rw [e, Nat.add_zero]
  ·rfl
 rw [e, hc j hj, h]
theorem owns_thru {w w' : World} {B n : Nat} {v : Value} {xs : List Value} {e : TypeId} (h : w.ownsRow B e 1 v n xs) (hb : Below w.heap.size w w') : w'.ownsRow B e 1 v n xs := by
 obtain ⟨hl, ⟨hv, h0⟩ | ⟨g, cap, cur, hv, hB, hg, hr⟩⟩ := h
 ·exact ⟨hl, .inl ⟨hv, h0⟩⟩
 ·exact ⟨hl, .inr ⟨g, cap, cur, hv, hB, (hb.block g (block_lt hg)).trans hg, hr⟩⟩
theorem Byt.take {w : World} {a : Option Addr} {len k : Nat} {z : Nat → Nat} (h : Byt w a len z) (hk : k ≤ len) : Byt w a k z := by
 obtain ⟨hz, h | ⟨b, off, h, hc⟩⟩ := h
 ·exact ⟨hz, .inl (by omega)⟩
 ·exact ⟨hz, .inr ⟨b, off, h, fun i hi => hc i (by omega)⟩⟩
theorem Blk.other {w : World} {g h len i : Nat} {z : Nat → Nat} {v : Value} (hb : Blk w g len z) (hne : g ≠ h) : Blk (w.setCell ⟨h, i, none⟩ v) g len z := by
 obtain ⟨hz, cur, hg, hc⟩ := hb
 exact ⟨hz, cur, (heap_setCell_other w ⟨h, i, none⟩ g v hne).trans hg, hc⟩
theorem below_grown {w w' : World} (h : w.grownBy w' none) : Below w.heap.size w w' := ⟨h.os, h.tape, h.output, h.size, fun k hk => h.block k hk (by simp)⟩
end Go.Proofs.YtpmldopbjlnknaaGreat
