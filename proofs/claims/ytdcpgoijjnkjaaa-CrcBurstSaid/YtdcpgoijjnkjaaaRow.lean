/-
  Slices of bytes that came in; blocks of bytes that are the call's own; Pick.
-/
import Derived.Test.YtdcpgoijjnkjaaaSum
import Derived.OpenShut
import Derived.ProofKit
namespace Go.Proofs.Ytdcpgoijjnkjaaa
open Go.RowKit

/-- What is told of a slice of integers that came in: it is nil, or it leads to a row of 'cap' cells, the numbers 'zs' (the first 'len' are its elements), each fitting its kind. -/
def IsRow (k : IntKind) (w : World) (a : Option Addr) (len cap : Nat) (zs : List Int) : Prop :=
  (a = none ∧ len = 0 ∧ cap = 0 ∧ zs = []) ∨
  ∃ x, a = some x ∧ len ≤ cap ∧ cap ≤ maxLen ∧ zs.length = cap ∧ (∀ i, i < zs.length → w.cell? (x.add i) = some (.int k (zs.getD i 0))) ∧ ∀ n ∈ zs, (Lit.int k n).wf = true

theorem u8_bounds {n : Int} (h : (Lit.int .u8 n).wf = true) : 0 ≤ n ∧ n < 256 := by
  have := bounds_u8 h
  omega
theorem u32_bounds {n : Int} (h : (Lit.int .u32 n).wf = true) : 0 ≤ n ∧ n < 4294967296 := by
  have := bounds_u32 h
  omega
theorem IsRow.byt {w : World} {a : Option Addr} {len cap : Nat} {zs : List Int} (h : IsRow .u8 w a len cap zs) : len ≤ cap ∧ cap ≤ 9223372036854775807 ∧ (a = none → cap = 0) ∧ ∃ z, Byt w a len z := by
  rcases h with ⟨rfl, rfl, rfl, rfl⟩ | ⟨⟨b, off, spot⟩, rfl, hl, hm, hz, hc, hw⟩
  · exact ⟨by omega, by omega, (fun _ => rfl), (fun _ => 0), (fun _ => by show 0 < 256; omega), .inl rfl⟩
  · unfold maxLen at hm
    refine ⟨hl, hm, (fun h => by cases h), (fun i => (zs.getD i 0).toNat), (fun i => ?_), ?_⟩
    · show (zs.getD i 0).toNat < 256
      by_cases hi : i < zs.length
      · have := u8_bounds (hw (zs.getD i 0) (by rw [List.getD_eq_getElem?_getD, List.getElem?_eq_getElem hi]; exact List.getElem_mem hi))
        omega
      · rw [List.getD_eq_getElem?_getD, List.getElem?_eq_none (by omega)]; simp
    · rcases Nat.eq_zero_or_pos len with h0 | h0
      · exact .inl h0
      · have hs := World.cell?_spot (hc 0 (by omega))
        have hsp : spot = none := by simpa [Addr.add] using hs
        subst hsp
        refine .inr ⟨b, off, rfl, fun i hi => ?_⟩
        have h := hc i (by omega)
        have hb := u8_bounds (hw (zs.getD i 0) (by rw [List.getD_eq_getElem?_getD, List.getElem?_eq_getElem (by omega)]; exact List.getElem_mem (by omega)))
        rw [Int.toNat_of_nonneg hb.1, ← h]
        unfold Addr.add
        split
        · rename_i e; rw [e, Nat.add_zero]
        · rfl

theorem IsRow.addr {w : World} {a : Option Addr} {len cap : Nat} {zs : List Int} (h : IsRow .u8 w a len cap zs) : cap = 0 ∨ ∃ b off, a = some ⟨b, off, none⟩ := by
  rcases h with ⟨rfl, rfl, rfl, rfl⟩ | ⟨⟨b, off, spot⟩, rfl, hl, hm, hz, hc, hw⟩
  · exact .inl rfl
  · rcases Nat.eq_zero_or_pos cap with h0 | h0
    · exact .inl h0
    · have hs := World.cell?_spot (hc 0 (by omega))
      have hsp : spot = none := by simpa [Addr.add] using hs
      subst hsp
      exact .inr ⟨b, off, rfl⟩

/-- A block of the call's own, whose first len cells are the bytes z. -/
def Blk (w : World) (g len : Nat) (z : Nat → Nat) : Prop := (∀ i, z i < 256) ∧ ∃ cur : Array Value, w.heap[g]? = some (.cells cur 5 (0, 0)) ∧ ∀ i, i < len → cur[i]? = some (.int .u8 (z i : Nat))
theorem Blk.byt {w : World} {g len : Nat} {z : Nat → Nat} (h : Blk w g len z) : Byt w (some ⟨g, 0, none⟩) len z := by
  obtain ⟨hz, cur, hg, hc⟩ := h
  exact ⟨hz, .inr ⟨g, 0, rfl, fun i hi => by rw [Nat.zero_add, cell_of_row _ _ _ _ _ _ hg, hc i hi]⟩⟩
theorem Blk.cell {w : World} {g len : Nat} {z : Nat → Nat} (h : Blk w g len z) {i : Nat} (hi : i < len) : w.cell? ⟨g, i, none⟩ = some (.int .u8 (z i : Nat)) := by
  obtain ⟨hz, cur, hg, hc⟩ := h
  rw [cell_of_row _ _ _ _ _ _ hg, hc i hi]
theorem Blk.frozen {w : World} {g len : Nat} {z : Nat → Nat} (h : Blk w g len z) (i : Nat) : w.frozen? ⟨g, i, none⟩ = false := by
  obtain ⟨hz, cur, hg, hc⟩ := h
  exact frozen_of_row _ _ _ _ _ hg
theorem Blk.lt {w : World} {g len : Nat} {z : Nat → Nat} (h : Blk w g len z) : g < w.heap.size := by
  obtain ⟨hz, cur, hg, hc⟩ := h
  exact block_lt hg
theorem Blk.below {w w' : World} {g len : Nat} {z : Nat → Nat} (h : Blk w g len z) (hb : Below w.heap.size w w') : Blk w' g len z := by
  have hl := h.lt
  obtain ⟨hz, cur, hg, hc⟩ := h
  exact ⟨hz, cur, (hb.block g hl).trans hg, hc⟩
theorem Blk.set {w : World} {g len : Nat} {z y : Nat → Nat} (h : Blk w g len z) (i x : Nat) (hy : ∀ j, y j < 256) (hx : y i = x) (ho : ∀ j, j ≠ i → y j = z j) : Blk (w.setCell ⟨g, i, none⟩ (.int .u8 x)) g len y := by
  obtain ⟨hz, cur, hg, hc⟩ := h
  refine ⟨hy, cur.setIfInBounds i (.int .u8 x), heap_setCell_same w g i cur _ _ hg, fun j hj => ?_⟩
  rw [Array.getElem?_setIfInBounds]
  by_cases e : i = j
  · subst e
    have : i < cur.size := by
      rcases Nat.lt_or_ge i cur.size with h' | h'
      · exact h'
      · have := hc i hj
        rw [Array.getElem?_eq_none h'] at this
        cases this
    simp [this, hx]
  · rw [if_neg e, hc j hj, ho j (fun h => e h.symm)]
theorem Blk.drew {w : World} {g len : Nat} {z : Nat → Nat} (h : Blk w g len z) : Blk w.drew g len z := h
theorem Byt.drew {w : World} {a : Option Addr} {len : Nat} {z : Nat → Nat} (h : Byt w a len z) : Byt w.drew a len z := h
theorem Byt.alloc {w : World} {a : Option Addr} {len : Nat} {z : Nat → Nat} (h : Byt w a len z) (o : Obj) : Byt (w.alloc o) a len z := h.below (below_alloc w o)

/-- What Pick tells for n above 0. -/
def pickN (x : Int) (n : Nat) : Nat := (x % (n : Int)).toNat
theorem pickN_lt (x : Int) (n : Nat) (h : 0 < n) : pickN x n < n := by
  have := Int.emod_lt_of_pos x (by omega : (0 : Int) < (n : Int))
  have := Int.emod_nonneg x (by omega : (n : Int) ≠ 0)
  unfold pickN; omega
theorem tmod_low (x : Int) (n : Nat) (h0 : 0 < n) (h : x.tmod n < 0) : x.tmod n = x % (n : Int) - n := by
  have hd := Int.emod_lt_of_pos x (by omega : (0 : Int) < (n : Int))
  have hm := Int.emod_nonneg x (by omega : (n : Int) ≠ 0)
  have e := @Int.tmod_eq_emod x n
  split at e <;> simp at e <;> omega
theorem tmod_high (x : Int) (n : Nat) (h0 : 0 < n) (h : 0 ≤ x.tmod n) : x.tmod n = x % (n : Int) := by
  have hd := Int.emod_lt_of_pos x (by omega : (0 : Int) < (n : Int))
  have hm := Int.emod_nonneg x (by omega : (n : Int) ≠ 0)
  have e := @Int.tmod_eq_emod x n
  split at e <;> simp at e <;> omega
set_option maxHeartbeats 400000 in
theorem pick_any (x : Int) (n : Nat) (w : World) (hx : (Lit.int .i64 x).wf = true) (h0 : 0 < n) (hn : n ≤ 4611686018427387904) :
    Calls Try.prog 19 #[.int .i64 x, .int .i64 n] w fun e w' => e = .returned (.int .i64 (pickN x n : Nat)) ∧ w = w' := by
  have hb := bounds_i64 hx
  by_cases h : 0 ≤ x
  · have hm := Int.emod_nonneg x (by omega : (n : Int) ≠ 0)
    have he : ((pickN x n : Nat) : Int) = x % (n : Int) := by unfold pickN; omega
    go_enter Try.func19, Try.ntmps19
    go_wp2
    go_ret
    exact ⟨ret_int he.symm, rfl⟩
  · have hm := Int.emod_nonneg x (by omega : (n : Int) ≠ 0)
    go_enter Try.func19, Try.ntmps19
    go_wp2_with fail
    · go_ret
      have hd := Int.emod_lt_of_pos x (by omega : (0 : Int) < (n : Int))
      refine ⟨ret_int ?_, rfl⟩
      have ht : x.tmod n < 0 := by assumption
      have hlo := tmod_low x n h0 ht
      rw [IntWalk.wrap64_in _ ⟨by omega, by omega⟩, hlo]
      unfold pickN; omega
    · go_ret
      refine ⟨ret_int ?_, rfl⟩
      have ht : 0 ≤ x.tmod n := by assumption
      rw [tmod_high x n h0 ht]
      unfold pickN; omega
end Go.Proofs.Ytdcpgoijjnkjaaa
