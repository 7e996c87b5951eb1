/-
  What slices of bytes hold, blocks of the call's own, worlds that are kept: what the proofs of all layers share.
-/
import Derived.Test.YtpdlapnliiengaaGreatProg
import Derived.WalkKit
import Derived.WalkSpells
import Derived.WalkLawsBesides
import Derived.OpenShut
import Derived.ProofKit
import Derived.RangeFuncFrom
import Derived.RangeFuncCalls
import Derived.RangeFuncLeaves
import Derived.RangeFuncBound
import Derived.OwnWalkIn
import Derived.Laws.MakeOwn
import Derived.Laws.OwnMore
import Derived.Laws.NewBlocks
import Derived.Laws.ResultCell
import Derived.Deep.WholeRow
namespace Go.Proofs.YtpdlapnliiengaaGreat
open Go.RowKit

theorem ret_int {k : IntKind} {a b : Int} (h : a = b) : Ending.returned (.int k a) = .returned (.int k b) := by rw [h]
theorem cell_new_l (W : World) (v : Value) (t : TypeId) : (W.alloc (.cells #[v] t)).cell? ⟨W.heap.size, 0, none⟩ = some v ∧ (W.alloc (.cells #[v] t)).frozen? ⟨W.heap.size, 0, none⟩ = false :=
  ⟨by simp, by simp⟩
theorem cell_alloc_l {W : World} {a : Addr} {v : Value} (o : Obj) (h : W.cell? a = some v) : (W.alloc o).cell? a = some v :=
  cell_kept h (World.grownBy_alloc W o none) (fun _ e => by cases e)
theorem frozen_alloc_l {W : World} {a : Addr} {v : Value} (o : Obj) (h : W.cell? a = some v) (hf : W.frozen? a = false) : (W.alloc o).frozen? a = false :=
  (frozen_kept h (World.grownBy_alloc W o none) (fun _ e => by cases e)).trans hf
def upto {α : Type} (f : Nat → α) (k : Nat) : List α := (List.range k).map f
theorem upto_succ {α : Type} (f : Nat → α) (k : Nat) : upto f (k + 1) = upto f k ++ [f k] := by simp [upto, List.range_succ]
theorem upto_length {α : Type} (f : Nat → α) (k : Nat) : (upto f k).length = k := by simp [upto]
theorem block_lt {w : World} {b : Nat} {o : Obj} (h : w.heap[b]? = some o) : b < w.heap.size := (Array.getElem?_eq_some_iff.1 h).1
/-- A slice at a of len elements holds the bytes z. -/
def Byt (w : World) (a : Option Addr) (len : Nat) (z : Nat → Nat) : Prop :=
  (∀ i, z i < 256) ∧ (len = 0 ∨ ∃ b off, a = some ⟨b, off, none⟩ ∧ ∀ i, i < len → w.cell? ⟨b, off + i, none⟩ = some (.int .u8 (z i : Nat)))
theorem Byt.below {w w' : World} {a : Option Addr} {len : Nat} {z : Nat → Nat} (h : Byt w a len z) (hb : Below w.heap.size w w') : Byt w' a len z := by
  obtain ⟨hz, h | ⟨b, off, rfl, hc⟩⟩ := h
  · exact ⟨hz, .inl h⟩
  · exact ⟨hz, .inr ⟨b, off, rfl, fun i hi => (hb.cell (p := ⟨b, off + i, none⟩) (block_lt_of_cell (hc i hi))).trans (hc i hi)⟩⟩
theorem Byt.drop {w : World} {b off len : Nat} {z : Nat → Nat} (hz : ∀ i, z i < 256) (hc : ∀ i, i < len → w.cell? ⟨b, off + i, none⟩ = some (.int .u8 (z i : Nat))) (k : Nat) : Byt w (some ⟨b, off + k, none⟩) (len - k) (fun i => z (k + i)) :=
  ⟨fun i => hz _, .inr ⟨b, off + k, rfl, fun i hi => by rw [Nat.add_assoc]; exact hc (k + i) (by omega)⟩⟩
theorem one_byt (w : World) (x : Nat) (hx : x < 256) (fr : Nat × Nat) : Byt (w.alloc (.cells #[.int .u8 x] 5 fr)) (some ⟨w.heap.size, 0, none⟩) 1 (fun _ => x) := by
  refine ⟨fun _ => hx, .inr ⟨_, _, rfl, fun i hi => ?_⟩⟩
  obtain rfl : i = 0 := by omega
  rw [cell_of_row _ _ _ _ _ _ (heap_alloc_new _ _)]
  rfl
theorem below_alloc (w : World) (o : Obj) : Below w.heap.size w (w.alloc o) := (Below.refl _ _).alloc (Nat.le_refl _) _
/-- What is told of a slice of integers that came in: it is nil, or it leads to a row of 'cap' cells, the numbers 'zs' (the first 'len' are its elements), each fitting its kind. -/
def IsRow (k : IntKind) (w : World) (a : Option Addr) (len cap : Nat) (zs : List Int) : Prop :=
  (a = none ∧ len = 0 ∧ cap = 0 ∧ zs = []) ∨
  ∃ x, a = some x ∧ len ≤ cap ∧ cap ≤ maxLen ∧ zs.length = cap ∧ (∀ i, i < zs.length → w.cell? (x.add i) = some (.int k (zs.getD i 0))) ∧ ∀ n ∈ zs, (Lit.int k n).wf = true
theorem u8_bounds {n : Int} (h : (Lit.int .u8 n).wf = true) : 0 ≤ n ∧ n < 256 := by
  have := bounds_u8 h
  omega
theorem u32_bounds {n : Int} (h : (Lit.int .u32 n).wf = true) : 0 ≤ n ∧ n < 4294967296 := by
  have := bounds_u32 h
  omega
theorem IsRow.byt {w : World} {a : Option Addr} {len cap : Nat} {zs : List Int} (h : IsRow .u8 w a len cap zs) : len ≤ cap ∧ cap ≤ 9223372036854775807 ∧ (a = none → cap = 0) ∧ ∃ z, Byt w a len z := by
  rcases h with ⟨rfl, rfl, rfl, rfl⟩ | ⟨⟨b, off, spot⟩, rfl, hl, hm, hz, hc, hw⟩
  · exact ⟨by omega, by omega, (fun _ => rfl), (fun _ => 0), (fun _ => by show 0 < 256; omega), .inl rfl⟩
  · unfold maxLen at hm
    refine ⟨hl, hm, (fun h => by cases h), (fun i => (zs.getD i 0).toNat), (fun i => ?_), ?_⟩
    · show (zs.getD i 0).toNat < 256
      by_cases hi : i < zs.length
      · have := u8_bounds (hw (zs.getD i 0) (by rw [List.getD_eq_getElem?_getD, List.getElem?_eq_getElem hi]; exact List.getElem_mem hi))
        omega
      · rw [List.getD_eq_getElem?_getD, List.getElem?_eq_none (by omega)]; simp
    · rcases Nat.eq_zero_or_pos len with h0 | h0
      · exact .inl h0
      · have hs := World.cell?_spot (hc 0 (by omega))
        have hsp : spot = none := by simpa [Addr.add] using hs
        subst hsp
        refine .inr ⟨b, off, rfl, fun i hi => ?_⟩
        have h := hc i (by omega)
        have hb := u8_bounds (hw (zs.getD i 0) (by rw [List.getD_eq_getElem?_getD, List.getElem?_eq_getElem (by omega)]; exact List.getElem_mem (by omega)))
        rw [Int.toNat_of_nonneg hb.1, ← h]
        unfold Addr.add
        split
        · rename_i e; rw [e, Nat.add_zero]
        · rfl
theorem IsRow.addr {w : World} {a : Option Addr} {len cap : Nat} {zs : List Int} (h : IsRow .u8 w a len cap zs) : cap = 0 ∨ ∃ b off, a = some ⟨b, off, none⟩ := by
  rcases h with ⟨rfl, rfl, rfl, rfl⟩ | ⟨⟨b, off, spot⟩, rfl, hl, hm, hz, hc, hw⟩
  · exact .inl rfl
  · rcases Nat.eq_zero_or_pos cap with h0 | h0
    · exact .inl h0
    · have hs := World.cell?_spot (hc 0 (by omega))
      have hsp : spot = none := by simpa [Addr.add] using hs
      subst hsp
      exact .inr ⟨b, off, rfl⟩
/-- A block of the call's own, whose first len cells are the bytes z. -/
def Blk (w : World) (g len : Nat) (z : Nat → Nat) : Prop := (∀ i, z i < 256) ∧ ∃ cur : Array Value, w.heap[g]? = some (.cells cur 5 (0, 0)) ∧ ∀ i, i < len → cur[i]? = some (.int .u8 (z i : Nat))
theorem Blk.byt {w : World} {g len : Nat} {z : Nat → Nat} (h : Blk w g len z) : Byt w (some ⟨g, 0, none⟩) len z := by
  obtain ⟨hz, cur, hg, hc⟩ := h
  exact ⟨hz, .inr ⟨g, 0, rfl, fun i hi => by rw [Nat.zero_add, cell_of_row _ _ _ _ _ _ hg, hc i hi]⟩⟩
theorem Blk.cell {w : World} {g len : Nat} {z : Nat → Nat} (h : Blk w g len z) {i : Nat} (hi : i < len) : w.cell? ⟨g, i, none⟩ = some (.int .u8 (z i : Nat)) := by
  obtain ⟨hz, cur, hg, hc⟩ := h
  rw [cell_of_row _ _ _ _ _ _ hg, hc i hi]
theorem Blk.frozen {w : World} {g len : Nat} {z : Nat → Nat} (h : Blk w g len z) (i : Nat) : w.frozen? ⟨g, i, none⟩ = false := by
  obtain ⟨hz, cur, hg, hc⟩ := h
  exact frozen_of_row _ _ _ _ _ hg
theorem Blk.lt {w : World} {g len : Nat} {z : Nat → Nat} (h : Blk w g len z) : g < w.heap.size := by
  obtain ⟨hz, cur, hg, hc⟩ := h
  exact block_lt hg
theorem Blk.below {w w' : World} {g len : Nat} {z : Nat → Nat} (h : Blk w g len z) (hb : Below w.heap.size w w') : Blk w' g len z := by
  have hl := h.lt
  obtain ⟨hz, cur, hg, hc⟩ := h
  exact ⟨hz, cur, (hb.block g hl).trans hg, hc⟩
theorem Blk.set {w : World} {g len : Nat} {z y : Nat → Nat} (h : Blk w g len z) (i x : Nat) (hy : ∀ j, y j < 256) (hx : y i = x) (ho : ∀ j, j ≠ i → y j = z j) : Blk (w.setCell ⟨g, i, none⟩ (.int .u8 x)) g len y := by
  obtain ⟨hz, cur, hg, hc⟩ := h
  refine ⟨hy, cur.setIfInBounds i (.int .u8 x), heap_setCell_same w g i cur _ _ hg, fun j hj => ?_⟩
  rw [Array.getElem?_setIfInBounds]
  by_cases e : i = j
  · subst e
    have : i < cur.size := by
      rcases Nat.lt_or_ge i cur.size with h' | h'
      · exact h'
      · have := hc i hj
        rw [Array.getElem?_eq_none h'] at this
        cases this
    simp [this, hx]
  · rw [if_neg e, hc j hj, ho j (fun h => e h.symm)]
theorem Blk.drew {w : World} {g len : Nat} {z : Nat → Nat} (h : Blk w g len z) : Blk w.drew g len z := h
theorem Byt.drew {w : World} {a : Option Addr} {len : Nat} {z : Nat → Nat} (h : Byt w a len z) : Byt w.drew a len z := h
theorem Byt.alloc {w : World} {a : Option Addr} {len : Nat} {z : Nat → Nat} (h : Byt w a len z) (o : Obj) : Byt (w.alloc o) a len z := h.below (below_alloc w o)
/-- What Pick tells for n above 0. -/
def pickN (x : Int) (n : Nat) : Nat := (x % (n : Int)).toNat
theorem pickN_lt (x : Int) (n : Nat) (h : 0 < n) : pickN x n < n := by
  have := Int.emod_lt_of_pos x (by omega : (0 : Int) < (n : Int))
  have := Int.emod_nonneg x (by omega : (n : Int) ≠ 0)
  unfold pickN; omega
theorem tmod_low (x : Int) (n : Nat) (h0 : 0 < n) (h : x.tmod n < 0) : x.tmod n = x % (n : Int) - n := by
  have hd := Int.emod_lt_of_pos x (by omega : (0 : Int) < (n : Int))
  have hm := Int.emod_nonneg x (by omega : (n : Int) ≠ 0)
  have e := @Int.tmod_eq_emod x n
  split at e <;> simp at e <;> omega
theorem tmod_high (x : Int) (n : Nat) (h0 : 0 < n) (h : 0 ≤ x.tmod n) : x.tmod n = x % (n : Int) := by
  have hd := Int.emod_lt_of_pos x (by omega : (0 : Int) < (n : Int))
  have hm := Int.emod_nonneg x (by omega : (n : Int) ≠ 0)
  have e := @Int.tmod_eq_emod x n
  split at e <;> simp at e <;> omega
theorem cell_thru {w w' : World} {p : Addr} {v : Value} (h : w.cell? p = some v) (hb : Below w.heap.size w w') : w'.cell? p = some v := (hb.cell (block_lt_of_cell h)).trans h
theorem cell_drew {w : World} {p : Addr} {v : Value} (h : w.cell? p = some v) : w.drew.cell? p = some v := h
theorem cell_at1 {w : World} {g : Nat} {v : Value} {t : TypeId} (hg : g = w.heap.size) : (w.alloc (.cells #[v] t)).cell? ⟨g, 0, none⟩ = some v := by
  subst hg; exact (cell_new_l w v t).1
theorem cell_at20 {w : World} {g : Nat} {v u : Value} {t : TypeId} (hg : g = w.heap.size) : (w.alloc (.cells #[v, u] t)).cell? ⟨g, 0, none⟩ = some v := by
  subst hg; rw [cell_of_row _ _ _ _ _ _ (heap_alloc_new _ _)]; rfl
theorem cell_at21 {w : World} {g : Nat} {v u : Value} {t : TypeId} (hg : g = w.heap.size) : (w.alloc (.cells #[v, u] t)).cell? ⟨g, 1, none⟩ = some u := by
  subst hg; rw [cell_of_row _ _ _ _ _ _ (heap_alloc_new _ _)]; rfl
theorem below_thru {w W W' : World} (h : Below w.heap.size w W) (hb : Below W.heap.size W W') : Below w.heap.size w W' := h.trans (hb.mono h.size)
theorem below_step {w W : World} (h : Below w.heap.size w W) (o : Obj) : Below w.heap.size w (W.alloc o) := h.alloc h.size o
theorem info_u8 : (Tryz.prog.info? 5).map (fun i => (i.zero, i.size, i.bytes)) = some (some (.int .u8 0), 1, 1) := by kernel_rfl
/-- The cells of the bytes z. -/
def cellsOf (z : Nat → Nat) (len : Nat) : List Value := (List.range len).map fun i => .int .u8 (z i : Nat)
theorem cellsOf_length (z : Nat → Nat) (len : Nat) : (cellsOf z len).length = len := by simp [cellsOf]
theorem cellsOf_get (z : Nat → Nat) (len i : Nat) (h : i < len) : (cellsOf z len)[i]? = some (.int .u8 (z i : Nat)) := by
  simp [cellsOf, h]
theorem cellsOf_news {w : World} {b off len : Nat} {z : Nat → Nat} (hc : ∀ i, i < len → w.cell? ⟨b, off + i, none⟩ = some (.int .u8 (z i : Nat))) : ∀ j u, (cellsOf z len)[j]? = some u → w.cell? ((⟨b, off, none⟩ : Addr).add j) = some u := by
  intro j u h
  have hj : j < len := by
    have := (List.getElem?_eq_some_iff.1 h).1
    rwa [cellsOf_length] at this
  rw [cellsOf_get z len j hj] at h
  have e : (⟨b, off, none⟩ : Addr).add j = ⟨b, off + j, none⟩ := by
    unfold Addr.add
    split
    · rename_i e; rw [e, Nat.add_zero]
    · rfl
  rw [e, hc j hj, h]
theorem cellsOf_one (z : Nat → Nat) (len : Nat) : ∀ u ∈ cellsOf z len, u.oneCell' = true := by
  intro u hu
  simp only [cellsOf, List.mem_map] at hu
  obtain ⟨i, _, rfl⟩ := hu
  rfl
/-- What an append of bytes to a fresh slice leaves. -/
theorem Blk.of_owns {w : World} {B n : Nat} {v : Value} {z : Nat → Nat} (h : w.ownsRow B 5 1 v n (cellsOf z n)) (hz : ∀ i, z i < 256) (hn : 0 < n) : ∃ g cap, v = .slice (some ⟨g, 0, none⟩) n cap ∧ B ≤ g ∧ n ≤ cap ∧ cap ≤ 9223372036854775807 ∧ Blk w g n z := by
  obtain ⟨hl, ⟨_, h0⟩ | ⟨g, cap, cur, hv, hB, hg, hnc, hcm, hcs, hx⟩⟩ := h
  · omega
  · unfold maxLen at hcm
    refine ⟨g, cap, hv, hB, hnc, hcm, hz, cur, hg, fun i hi => ?_⟩
    have h1 := cellsOf_get z n i hi
    rw [← hx, List.getElem?_take_of_lt (by omega)] at h1
    simpa using h1
theorem owns_byt {w : World} {B n : Nat} {v : Value} {z : Nat → Nat} (h : w.ownsRow B 5 1 v n (cellsOf z n)) (hz : ∀ i, z i < 256) : ∃ a cap, v = .slice a n cap ∧ n ≤ cap ∧ cap ≤ 9223372036854775807 ∧ (cap = 0 ∨ ∃ b off, a = some ⟨b, off, none⟩) ∧ Byt w a n z := by
  rcases Nat.eq_zero_or_pos n with h0 | h0
  · subst h0
    obtain ⟨hl, ⟨hv, _⟩ | ⟨g, cap, cur, hv, hB, hg, hnc, hcm, hcs, hx⟩⟩ := h
    · exact ⟨none, 0, hv, by omega, by omega, .inl rfl, hz, .inl rfl⟩
    · unfold maxLen at hcm
      exact ⟨_, cap, hv, hnc, hcm, .inr ⟨_, _, rfl⟩, hz, .inl rfl⟩
  · obtain ⟨g, cap, hv, hB, hnc, hcm, hb⟩ := Blk.of_owns h hz h0
    exact ⟨_, cap, hv, hnc, hcm, .inr ⟨_, _, rfl⟩, hb.byt⟩
theorem one_byt' (g : Nat) (w : World) (x : Nat) (hx : x < 256) (hg : g = w.heap.size) (fr : Nat × Nat) : Byt (w.alloc (.cells #[.int .u8 x] 5 fr)) (some ⟨g, 0, none⟩) 1 (fun _ => x) := by
  subst hg; exact one_byt w x hx fr
theorem owns_thru {w w' : World} {B n : Nat} {v : Value} {xs : List Value} {e : TypeId} (h : w.ownsRow B e 1 v n xs) (hb : Below w.heap.size w w') : w'.ownsRow B e 1 v n xs := by
  obtain ⟨hl, ⟨hv, h0⟩ | ⟨g, cap, cur, hv, hB, hg, hr⟩⟩ := h
  · exact ⟨hl, .inl ⟨hv, h0⟩⟩
  · exact ⟨hl, .inr ⟨g, cap, cur, hv, hB, (hb.block g (block_lt hg)).trans hg, hr⟩⟩
theorem Byt.take {w : World} {a : Option Addr} {len k : Nat} {z : Nat → Nat} (h : Byt w a len z) (hk : k ≤ len) : Byt w a k z := by
  obtain ⟨hz, h | ⟨b, off, h, hc⟩⟩ := h
  · exact ⟨hz, .inl (by omega)⟩
  · exact ⟨hz, .inr ⟨b, off, h, fun i hi => hc i (by omega)⟩⟩
theorem slices_at (a : Option Addr) (n h cap : Nat) (z : Nat → Nat) (w : World) (hk : h ≤ n) (hc : n ≤ cap) (ha : cap = 0 ∨ ∃ b off, a = some ⟨b, off, none⟩) (hz : Byt w a n z) :
    ∃ A1 A2 : Option Addr, (∀ wx, (Instr.slice 22 (.slice a n cap) none (some (.int .i64 (h : Int))) none).run Tryz.prog wx = .ok (.slice A1 h cap) wx) ∧
      (∀ wx, (Instr.slice 22 (.slice a n cap) (some (.int .i64 (h : Int))) none none).run Tryz.prog wx = .ok (.slice A2 (n - h) (cap - h)) wx) ∧ Byt w A1 h z ∧ Byt w A2 (n - h) (fun i => z (h + i)) := by
  have ht : Tryz.prog.underlying 22 = some (.slice (Tryz.prog.elem 22)) := by kernel_rfl
  have hs : ∀ wx, (sizeOf (Tryz.prog.elem 22)).run Tryz.prog wx = .ok 1 wx := fun wx => by kernel_rfl
  refine ⟨if cap = 0 then a else a.map (·.add (0 * 1)), if cap = h then a else a.map (·.add (h * 1)), fun wx => ?_, fun wx => ?_, ?_, ?_⟩
  · rw [run_slice_h wx _ a n cap ht .i64 (h : Int) (by omega) (by omega), hs]
    simp [Result.andThen, sliced]
  · rw [run_slice_l wx _ a n cap ht .i64 (h : Int) (by omega) (by omega), hs]
    simp [Result.andThen, sliced]
  · rcases ha with h0 | ⟨b, off, rfl⟩
    · exact ⟨hz.1, .inl (by omega)⟩
    · have e : (if cap = 0 then some (⟨b, off, none⟩ : Addr) else (some ⟨b, off, none⟩ : Option Addr).map (·.add (0 * 1))) = some ⟨b, off, none⟩ := by
        split
        · rfl
        · simp [Addr.add]
      rw [e]
      exact hz.take hk
  · rcases ha with h0 | ⟨b, off, rfl⟩
    · exact ⟨fun i => hz.1 _, .inl (by omega)⟩
    · by_cases hck : cap = h
      · exact ⟨fun i => hz.1 _, .inl (by omega)⟩
      · rw [if_neg hck]
        rcases hz.2 with h0 | ⟨b', off', hb, hcell⟩
        · exact ⟨fun i => hz.1 _, .inl (by omega)⟩
        · cases hb
          have e : (some (⟨b, off, none⟩ : Addr)).map (·.add (h * 1)) = some ⟨b, off + h, none⟩ := by
            simp only [Option.map_some, Nat.mul_one]
            unfold Addr.add
            split
            · rename_i e; rw [e, Nat.add_zero]
            · rfl
          rw [e]
          exact Byt.drop hz.1 hcell h
theorem cellsOf_succ (z : Nat → Nat) (n : Nat) : cellsOf z (n + 1) = cellsOf z n ++ [.int .u8 (z n : Nat)] := by simp [cellsOf, List.range_succ]
theorem made_blk (g len : Nat) (w : World) (hg : g = w.heap.size) : Blk (w.alloc (.cells (madeCells #[.int .u8 0] len) 5)) g len (fun _ => 0) := by
  subst hg
  refine ⟨fun i => by show 0 < 256; omega, _, heap_alloc_new _ _, fun i hi => ?_⟩
  rw [← Array.getElem?_toList, toList_madeCells_one, List.getElem?_replicate, if_pos hi]
  rfl
theorem Blk.other {w : World} {g h len i : Nat} {z : Nat → Nat} {v : Value} (hb : Blk w g len z) (hne : g ≠ h) : Blk (w.setCell ⟨h, i, none⟩ v) g len z := by
  obtain ⟨hz, cur, hg, hc⟩ := hb
  exact ⟨hz, cur, (heap_setCell_other w ⟨h, i, none⟩ g v hne).trans hg, hc⟩
theorem row_cells (g : Nat) (C : Array Value) (t : TypeId) (w : World) (hg : g = w.heap.size) (n : Nat) : ∀ i, i < n → (w.alloc (.cells C t)).cell? ⟨g, i, none⟩ = C[i]? := fun i _ => by
  subst hg; exact cell_of_row _ _ _ _ _ _ (heap_alloc_new _ _)
theorem below_grown {w w' : World} (h : w.grownBy w' none) : Below w.heap.size w w' := ⟨h.os, h.tape, h.output, h.size, fun k hk => h.block k hk (by simp)⟩
end Go.Proofs.YtpdlapnliiengaaGreat
