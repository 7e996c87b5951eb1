/-
  Laws for CrcEnds's walk.
-/
import Derived.Test.YtdcpgoijjnkjaaaPartsM
import Derived.Test.YtdcpgoijjnkjaaaBurstW
import Derived.Deep.RegionWith
import Derived.Deep.DeepCutAuto
import Derived.Laws.StructEq
import Derived.Laws.MakeOwn
import Derived.Laws.OwnMore
import Derived.Deep.LoopGhost
import Derived.Deep.DeepMust
namespace Go.Proofs.Ytdcpgoijjnkjaaa
open Go.RowKit

/-- What CrcEnds's row holds. -/
def mul37 (i : Nat) : Nat := i * 37 % 256
theorem mul37_lt (i : Nat) : mul37 i < 256 := Nat.mod_lt _ (by omega)
theorem owns_byt {w : World} {B n : Nat} {v : Value} {z : Nat → Nat} (h : w.ownsRow B 5 1 v n (cellsOf z n)) (hz : ∀ i, z i < 256) : ∃ a cap, v = .slice a n cap ∧ n ≤ cap ∧ cap ≤ 9223372036854775807 ∧ (cap = 0 ∨ ∃ b off, a = some ⟨b, off, none⟩) ∧ Byt w a n z := by
  rcases Nat.eq_zero_or_pos n with h0 | h0
  · subst h0
    obtain ⟨hl, ⟨hv, _⟩ | ⟨g, cap, cur, hv, hB, hg, hnc, hcm, hcs, hx⟩⟩ := h
    · exact ⟨none, 0, hv, by omega, by omega, .inl rfl, hz, .inl rfl⟩
    · unfold maxLen at hcm
      exact ⟨_, cap, hv, hnc, hcm, .inr ⟨_, _, rfl⟩, hz, .inl rfl⟩
  · obtain ⟨g, cap, hv, hB, hnc, hcm, hb⟩ := Blk.of_owns h hz h0
    exact ⟨_, cap, hv, hnc, hcm, .inr ⟨_, _, rfl⟩, hb.byt⟩
theorem not_u8 (k : Nat) (hk : k < 256) : bits BinOp.xor IntKind.u8 IntKind.u8.max (k : Int) = ((255 - k : Nat) : Int) := by
  have h := u8_xor_nat 255 k (by omega) hk
  have e : 255 ^^^ k = 255 - k := by
    have h1 := (BitVec.ofNat 8 k).toNat_not
    have h2 : (255 : Nat) ^^^ k = (BitVec.allOnes 8 ^^^ BitVec.ofNat 8 k).toNat := by
      rw [BitVec.toNat_xor]; simp [Nat.mod_eq_of_lt hk]
    rw [h2, BitVec.allOnes_xor, h1]
    simp [Nat.mod_eq_of_lt hk]
  rw [e] at h
  exact h

theorem one_byt' (g : Nat) (w : World) (x : Nat) (hx : x < 256) (hg : g = w.heap.size) (fr : Nat × Nat) : Byt (w.alloc (.cells #[.int .u8 x] 5 fr)) (some ⟨g, 0, none⟩) 1 (fun _ => x) := by
  subst hg; exact one_byt w x hx fr
def two (x y : Nat) (i : Nat) : Nat := if i = 0 then x else y
theorem two_byt (g : Nat) (w : World) (x y : Nat) (hx : x < 256) (hy : y < 256) (hg : g = w.heap.size) (fr : Nat × Nat) : Byt (w.alloc (.cells #[.int .u8 x, .int .u8 y] 5 fr)) (some ⟨g, 0, none⟩) 2 (two x y) := by
  subst hg
  refine ⟨fun i => by unfold two; split <;> assumption, .inr ⟨_, _, rfl, fun i hi => ?_⟩⟩
  rw [cell_of_row _ _ _ _ _ _ (heap_alloc_new _ _)]
  match i, hi with
  | 0, _ => rfl
  | 1, _ => rfl
theorem sum_three (g : Nat) (a1 a2 : Option Addr) (x y : Nat) (w : World) (hg : g = w.heap.size) (h1 : Byt w a1 1 (fun _ => x)) (h2 : Byt w a2 1 (fun _ => y)) :
    Calls Try.prog 11 #[.slice (some ⟨g, 0, none⟩) 3 3] (w.alloc (.cells #[.slice a1 1 1, .slice none 0 0, .slice a2 1 1] 24)) fun e w' => e = .returned (.int .u32 (sumN (two x y) 2 : Nat)) ∧ Below w.heap.size w w' := by
  subst hg
  have hb := below_alloc w (.cells #[.slice a1 1 1, .slice none 0 0, .slice a2 1 1] 24)
  have hr := fun i => cell_of_row (w.alloc (.cells #[.slice a1 1 1, .slice none 0 0, .slice a2 1 1] 24)) w.heap.size i _ _ _ (heap_alloc_new _ _)
  have h := sum_any (some ⟨w.heap.size, 0, none⟩) 3 3 (fun j => if j = 0 then a1 else if j = 1 then none else a2) (fun j => if j = 1 then 0 else 1) (fun j => if j = 1 then 0 else 1) (fun j => if j = 0 then fun _ => x else if j = 1 then fun _ => 0 else fun _ => y) (w.alloc (.cells #[.slice a1 1 1, .slice none 0 0, .slice a2 1 1] 24)) (by omega)
    (.inr ⟨w.heap.size, 0, rfl, fun j hj => by
      match j, hj with
      | 0, _ => exact ⟨hr 0, Nat.le_refl _, (by show 1 ≤ _; omega), h1.below hb⟩
      | 1, _ => exact ⟨hr 1, Nat.le_refl _, (by show 0 ≤ _; omega), ⟨fun i => by show 0 < 256; omega, .inl rfl⟩⟩
      | 2, _ => exact ⟨hr 2, Nat.le_refl _, (by show 1 ≤ _; omega), h2.below hb⟩⟩)
  exact h.mono fun e w' ⟨he, hb'⟩ => ⟨he, hb.trans (hb'.mono (by simp))⟩

theorem sum_six (g : Nat) (a1 a2 : Option Addr) (h k c1 c2 : Nat) (z : Nat → Nat) (w : World) (hk : h ≤ k) (l1 : h ≤ c1) (m1 : c1 ≤ 9223372036854775807) (l2 : k - h ≤ c2) (m2 : c2 ≤ 9223372036854775807)
    (hc : ∀ i, i < 6 → w.cell? ⟨g, i, none⟩ = (#[Value.slice none 0 0, .slice a1 h c1, .slice none 0 0, .slice none 0 0, .slice a2 (k - h) c2, .slice none 0 0] : Array Value)[i]?) (h1 : Byt w a1 h z) (h2 : Byt w a2 (k - h) (fun i => z (h + i))) :
    Calls Try.prog 11 #[.slice (some ⟨g, 0, none⟩) 6 6] w fun e w' => e = .returned (.int .u32 (sumN z k : Nat)) ∧ Below w.heap.size w w' := by
  have hr : ∀ i, i < 6 → w.cell? ⟨g, 0 + i, none⟩ = (#[Value.slice none 0 0, .slice a1 h c1, .slice none 0 0, .slice none 0 0, .slice a2 (k - h) c2, .slice none 0 0] : Array Value)[i]? := fun i hi => by rw [Nat.zero_add]; exact hc i hi
  have hn : Byt w none 0 (fun _ => 0) := ⟨fun i => by show 0 < 256; omega, .inl rfl⟩
  have H := sum_any (some ⟨g, 0, none⟩) 6 6 (fun j => if j = 1 then a1 else if j = 4 then a2 else none) (fun j => if j = 1 then h else if j = 4 then k - h else 0) (fun j => if j = 1 then c1 else if j = 4 then c2 else 0) (fun j => if j = 1 then z else if j = 4 then fun i => z (h + i) else fun _ => 0) w (by omega)
    (.inr ⟨g, 0, rfl, fun j hj => by
      match j, hj with
      | 0, hj => exact ⟨hr 0 hj, Nat.le_refl _, (by show 0 ≤ _; omega), hn⟩
      | 1, hj => exact ⟨hr 1 hj, l1, m1, h1⟩
      | 2, hj => exact ⟨hr 2 hj, Nat.le_refl _, (by show 0 ≤ _; omega), hn⟩
      | 3, hj => exact ⟨hr 3 hj, Nat.le_refl _, (by show 0 ≤ _; omega), hn⟩
      | 4, hj => exact ⟨hr 4 hj, l2, m2, h2⟩
      | 5, hj => exact ⟨hr 5 hj, Nat.le_refl _, (by show 0 ≤ _; omega), hn⟩⟩)
  have e : sumAll (fun j => if j = 1 then h else if j = 4 then k - h else 0) (fun j => if j = 1 then z else if j = 4 then fun i => z (h + i) else fun _ => 0) 6 = sumN z k := by
    show notN (updN (updN (notN 0) z h) (fun i => z (h + i)) (k - h)) = notN (updN (notN 0) z k)
    rw [← updN_add, show h + (k - h) = k from by omega]
  rw [e] at H
  exact H
theorem owns_thru {w w' : World} {B n : Nat} {v : Value} {xs : List Value} {e : TypeId} (h : w.ownsRow B e 1 v n xs) (hb : Below w.heap.size w w') : w'.ownsRow B e 1 v n xs := by
  obtain ⟨hl, ⟨hv, h0⟩ | ⟨g, cap, cur, hv, hB, hg, hr⟩⟩ := h
  · exact ⟨hl, .inl ⟨hv, h0⟩⟩
  · exact ⟨hl, .inr ⟨g, cap, cur, hv, hB, (hb.block g (block_lt hg)).trans hg, hr⟩⟩

theorem Byt.take {w : World} {a : Option Addr} {len k : Nat} {z : Nat → Nat} (h : Byt w a len z) (hk : k ≤ len) : Byt w a k z := by
  obtain ⟨hz, h | ⟨b, off, h, hc⟩⟩ := h
  · exact ⟨hz, .inl (by omega)⟩
  · exact ⟨hz, .inr ⟨b, off, h, fun i hi => hc i (by omega)⟩⟩
theorem slices_at (a : Option Addr) (n h cap : Nat) (z : Nat → Nat) (w : World) (hk : h ≤ n) (hc : n ≤ cap) (ha : cap = 0 ∨ ∃ b off, a = some ⟨b, off, none⟩) (hz : Byt w a n z) :
    ∃ A1 A2 : Option Addr, (∀ wx, (Instr.slice 24 (.slice a n cap) none (some (.int .i64 (h : Int))) none).run Try.prog wx = .ok (.slice A1 h cap) wx) ∧
      (∀ wx, (Instr.slice 24 (.slice a n cap) (some (.int .i64 (h : Int))) none none).run Try.prog wx = .ok (.slice A2 (n - h) (cap - h)) wx) ∧ Byt w A1 h z ∧ Byt w A2 (n - h) (fun i => z (h + i)) := by
  have ht : Try.prog.underlying 24 = some (.slice (Try.prog.elem 24)) := by kernel_rfl
  have hs : ∀ wx, (sizeOf (Try.prog.elem 24)).run Try.prog wx = .ok 1 wx := fun wx => by kernel_rfl
  refine ⟨if cap = 0 then a else a.map (·.add (0 * 1)), if cap = h then a else a.map (·.add (h * 1)), fun wx => ?_, fun wx => ?_, ?_, ?_⟩
  · rw [run_slice_h wx _ a n cap ht .i64 (h : Int) (by omega) (by omega), hs]
    simp [Result.andThen, sliced]
  · rw [run_slice_l wx _ a n cap ht .i64 (h : Int) (by omega) (by omega), hs]
    simp [Result.andThen, sliced]
  · rcases ha with h0 | ⟨b, off, rfl⟩
    · exact ⟨hz.1, .inl (by omega)⟩
    · have e : (if cap = 0 then some (⟨b, off, none⟩ : Addr) else (some ⟨b, off, none⟩ : Option Addr).map (·.add (0 * 1))) = some ⟨b, off, none⟩ := by
        split
        · rfl
        · simp [Addr.add]
      rw [e]
      exact hz.take hk
  · rcases ha with h0 | ⟨b, off, rfl⟩
    · exact ⟨fun i => hz.1 _, .inl (by omega)⟩
    · by_cases hck : cap = h
      · exact ⟨fun i => hz.1 _, .inl (by omega)⟩
      · rw [if_neg hck]
        rcases hz.2 with h0 | ⟨b', off', hb, hcell⟩
        · exact ⟨fun i => hz.1 _, .inl (by omega)⟩
        · cases hb
          have e : (some (⟨b, off, none⟩ : Addr)).map (·.add (h * 1)) = some ⟨b, off + h, none⟩ := by
            simp only [Option.map_some, Nat.mul_one]
            unfold Addr.add
            split
            · rename_i e; rw [e, Nat.add_zero]
            · rfl
          rw [e]
          exact Byt.drop hz.1 hcell h
theorem cellsOf_succ (z : Nat → Nat) (n : Nat) : cellsOf z (n + 1) = cellsOf z n ++ [.int .u8 (z n : Nat)] := by simp [cellsOf, List.range_succ]
theorem sum_nils (g : Nat) (w : World) (hg : g = w.heap.size) :
    Calls Try.prog 11 #[.slice (some ⟨g, 0, none⟩) 2 2] (w.alloc (.cells #[.slice none 0 0, .slice none 0 0] 24)) fun e w' => e = .returned (.int .u32 0) ∧ Below w.heap.size w w' := by
  subst hg
  have hr := fun i => cell_of_row (w.alloc (.cells #[.slice none 0 0, .slice none 0 0] 24)) w.heap.size i _ _ _ (heap_alloc_new _ _)
  have hn : ∀ W, Byt W none 0 (fun _ => 0) := fun _ => ⟨fun i => by show 0 < 256; omega, .inl rfl⟩
  have H := sum_any (some ⟨w.heap.size, 0, none⟩) 2 2 (fun _ => none) (fun _ => 0) (fun _ => 0) (fun _ _ => 0) (w.alloc (.cells #[.slice none 0 0, .slice none 0 0] 24)) (by omega)
    (.inr ⟨w.heap.size, 0, rfl, fun j hj => by
      match j, hj with
      | 0, _ => exact ⟨hr 0, Nat.le_refl _, (by show 0 ≤ _; omega), hn _⟩
      | 1, _ => exact ⟨hr 1, Nat.le_refl _, (by show 0 ≤ _; omega), hn _⟩⟩)
  exact H.mono fun e w' ⟨he, hb⟩ => ⟨he, (below_alloc _ _).trans (hb.mono (by simp))⟩
theorem update_nil (w : World) : Calls Try.prog 9 #[.int .u32 7, .slice none 0 0] w fun e w' => e = .returned (.int .u32 7) ∧ Below w.heap.size w w' :=
  update_any 7 none 0 0 (fun _ => 0) w (by omega) (by omega) (by omega) ⟨fun i => by show 0 < 256; omega, .inl rfl⟩
theorem made_blk (g len : Nat) (w : World) (hg : g = w.heap.size) : Blk (w.alloc (.cells (madeCells #[.int .u8 0] len) 5)) g len (fun _ => 0) := by
  subst hg
  refine ⟨fun i => by show 0 < 256; omega, _, heap_alloc_new _ _, fun i hi => ?_⟩
  rw [← Array.getElem?_toList, toList_madeCells_one, List.getElem?_replicate, if_pos hi]
  rfl
theorem Blk.other {w : World} {g h len i : Nat} {z : Nat → Nat} {v : Value} (hb : Blk w g len z) (hne : g ≠ h) : Blk (w.setCell ⟨h, i, none⟩ v) g len z := by
  obtain ⟨hz, cur, hg, hc⟩ := hb
  exact ⟨hz, cur, (heap_setCell_other w ⟨h, i, none⟩ g v hne).trans hg, hc⟩
/-- The first k bytes turned by each other. -/
def xorTo (z y : Nat → Nat) (k : Nat) (j : Nat) : Nat := if j < k then z j ^^^ y j else 0
theorem xorTo_lt (z y : Nat → Nat) (k j : Nat) (hz : ∀ j, z j < 256) (hy : ∀ j, y j < 256) : xorTo z y k j < 256 := by
  unfold xorTo
  split
  · exact Nat.xor_lt_two_pow (n := 8) (hz j) (hy j)
  · omega
theorem xorTo_sum (z y : Nat → Nat) (n : Nat) : sumN (xorTo z y n) n = sumN (fun i => z i ^^^ y i) n :=
  sumN_congr _ _ _ (fun i hi => by unfold xorTo; rw [if_pos hi])
theorem row_cells (g : Nat) (C : Array Value) (t : TypeId) (w : World) (hg : g = w.heap.size) (n : Nat) : ∀ i, i < n → (w.alloc (.cells C t)).cell? ⟨g, i, none⟩ = C[i]? := fun i _ => by
  subst hg; exact cell_of_row _ _ _ _ _ _ (heap_alloc_new _ _)

theorem tabs_equal (w : World) : (Op.equalIn 10000 33 (.agg (tabArr 256)) (.agg (tabArr 256))).run Try.prog w = .ok true w := by kernel_rfl

end Go.Proofs.Ytdcpgoijjnkjaaa
