/-
  The lines' texts, parted by line feeds, are the bytes again.
-/
import Derived.Test.YteanibapabafnaaTRef
import Derived.Test.YteanibapabafnaaAppend
import Derived.Lib.Join
import Derived.Lib.Bytealg
namespace Go.Proofs.Yteanibapabafnaa
open Go.RowKit

theorem getD_left {α : Type} (l r : List α) (d : α) (i : Nat) (h : i < l.length) : (l ++ r).getD i d = l.getD i d := by
  rw [List.getD_eq_getElem?_getD, List.getElem?_append_left h, ← List.getD_eq_getElem?_getD]
theorem getD_last {α : Type} (l : List α) (x d : α) : (l ++ [x]).getD l.length d = x := by
  rw [List.getD_eq_getElem?_getD, List.getElem?_append_right (Nat.le_refl _)]
  simp
/-- Where line i begins, where it ends. -/
abbrev bgi (z : Nat → Nat) (len i : Nat) : Nat := (bg z len).getD i 0
def endI (z : Nat → Nat) (len i : Nat) : Nat := if i + 1 < (bg z len).length then bgi z len (i + 1) - 1 else len
theorem bgi_le (z : Nat → Nat) (len i : Nat) (h : i < (bg z len).length) : bgi z len i ≤ len := by
  apply bg_le (z := z)
  unfold bgi
  rw [List.getD_eq_getElem?_getD, List.getElem?_eq_getElem h]
  exact List.getElem_mem h
theorem bgi_pos (z : Nat → Nat) (len i : Nat) (h : i + 1 < (bg z len).length) : 1 ≤ bgi z len (i + 1) := by
  unfold bgi bg
  rw [List.getD_cons_succ, List.getD_eq_getElem?_getD, List.getElem?_map]
  have h' : i < (fd (isF z) len).length := by simpa [bg] using h
  rw [List.getElem?_eq_getElem h']
  simp
theorem bgi_zero (z : Nat → Nat) (len : Nat) : bgi z len 0 = 0 := rfl
theorem EndAt.more {z : Nat → Nat} {len i k : Nat} (h : EndAt z len i k) (hk : k < len) : EndAt z (len + 1) i k := ⟨h.1, by omega, h.2.2.1, .inr (by
  rcases h.2.2.2 with h4 | h4
  · omega
  · exact h4)⟩
theorem endI_lt (z : Nat → Nat) (len i : Nat) (h : i + 1 < (bg z len).length) : endI z len i < len ∧ bgi z len (i + 1) = endI z len i + 1 := by
  have h1 := bgi_pos z len i h
  have h2 := bgi_le z len (i + 1) h
  unfold endI
  rw [if_pos h]
  omega
theorem endI_at (z : Nat → Nat) : ∀ len i, i < (bg z len).length → EndAt z len (bgi z len i) (endI z len i)
  | 0, i, h => by
    have h1 : (bg z 0).length = 1 := rfl
    rw [h1] at h
    obtain rfl : i = 0 := by omega
    exact ⟨Nat.le_refl _, Nat.le_refl _, fun j _ hj => by exact absurd hj (Nat.not_lt_zero _), .inl rfl⟩
  | len + 1, i, h => by
    by_cases hz : z len = 10
    · have hb := bg_yes hz
      have hlen : (bg z (len + 1)).length = (bg z len).length + 1 := by rw [hb, List.length_append]; rfl
      rw [hlen] at h
      rcases Nat.lt_or_ge i (bg z len).length with hi | hi
      · have ih := endI_at z len i hi
        have e1 : bgi z (len + 1) i = bgi z len i := by unfold bgi; rw [hb, getD_left _ _ _ _ hi]
        rcases Nat.lt_or_ge (i + 1) (bg z len).length with hi2 | hi2
        · have e2 : endI z (len + 1) i = endI z len i := by
            unfold endI
            rw [if_pos (by omega), if_pos hi2]
            unfold bgi
            rw [hb, getD_left _ _ _ _ hi2]
          rw [e1, e2]
          exact ih.more (endI_lt z len i hi2).1
        · have e2 : endI z (len + 1) i = len := by
            unfold endI
            rw [if_pos (by omega)]
            unfold bgi
            rw [hb, show i + 1 = (bg z len).length by omega, getD_last]
            rfl
          have e3 : endI z len i = len := by unfold endI; rw [if_neg (by omega)]
          rw [e3] at ih
          rw [e1, e2]
          exact ⟨ih.1, by omega, ih.2.2.1, .inr hz⟩
      · obtain rfl : i = (bg z len).length := by omega
        have e1 : bgi z (len + 1) (bg z len).length = len + 1 := by unfold bgi; rw [hb, getD_last]
        have e2 : endI z (len + 1) (bg z len).length = len + 1 := by unfold endI; rw [if_neg (by omega)]
        rw [e1, e2]
        exact ⟨Nat.le_refl _, Nat.le_refl _, fun j h1 h2 => by omega, .inl rfl⟩
    · have hb := bg_no hz
      rw [hb] at h
      have ih := endI_at z len i h
      have e1 : bgi z (len + 1) i = bgi z len i := by unfold bgi; rw [hb]
      rcases Nat.lt_or_ge (i + 1) (bg z len).length with hi2 | hi2
      · have e2 : endI z (len + 1) i = endI z len i := by
          unfold endI
          rw [hb, if_pos hi2, if_pos hi2]
          unfold bgi
          rw [hb]
        rw [e1, e2]
        exact ih.more (endI_lt z len i hi2).1
      · have e2 : endI z (len + 1) i = len + 1 := by unfold endI; rw [hb, if_neg (by omega)]
        have e3 : endI z len i = len := by unfold endI; rw [if_neg (by omega)]
        rw [e3] at ih
        rw [e1, e2]
        refine ⟨by have := ih.1; omega, Nat.le_refl _, fun j h1 h2 => ?_, .inl rfl⟩
        rcases Nat.lt_or_ge j len with hj | hj
        · exact ih.2.2.1 j h1 hj
        · obtain rfl : j = len := by omega
          exact hz
/-- A line's bytes. -/
def lineL (z : Nat → Nat) (len i : Nat) : List Nat := cut z (bgi z len i) (endI z len i)
/-- Numbers as bytes. -/
def u8 (L : List Nat) : List UInt8 := L.map fun n => UInt8.ofNat n
theorem txt_data (L : List Nat) : (strOfNums (L.map fun x : Nat => (x : Int))).data.toList = u8 L := by
  rw [strOfNums_data, List.map_map]
  unfold u8
  apply List.map_congr_left
  intro a _
  simp
theorem joinTail_snoc (sep : List UInt8) (r : List (List UInt8)) (y : List UInt8) : Lib.joinTail sep (r ++ [y]) = Lib.joinTail sep r ++ (sep ++ y) := by
  simp [Lib.joinTail]
theorem join_snoc (xs : List (List UInt8)) (y sep : List UInt8) (h : xs ≠ []) : Lib.join (xs ++ [y]) sep = Lib.join xs sep ++ (sep ++ y) := by
  cases xs with
  | nil => exact absurd rfl h
  | cons x r => rw [List.cons_append, Lib.join_cons, Lib.join_cons, joinTail_snoc, List.append_assoc]
theorem tx_split (z : Nat → Nat) (a e : Nat) (h : a ≤ e) : tx z e = tx z a ++ cut z a e := by
  obtain ⟨d, rfl⟩ : ∃ d, e = a + d := ⟨e - a, by omega⟩
  unfold cut tx
  rw [Nat.add_sub_cancel_left]
  induction d with
  | zero => simp
  | succ d ih => rw [← Nat.add_assoc, List.range_succ, List.map_append, ih (by omega), List.range_succ, List.map_append, List.append_assoc]; rfl
theorem tx_succ (z : Nat → Nat) (a : Nat) : tx z (a + 1) = tx z a ++ [z a] := by simp [tx, List.range_succ]
/-- The first lines, parted by line feeds. -/
theorem joined (z : Nat → Nat) (len : Nat) : ∀ j, j < (bg z len).length → Lib.join ((List.range (j + 1)).map fun i => u8 (lineL z len i)) [10] = u8 (tx z (endI z len j))
  | 0, h => by
    have h1 := (endI_at z len 0 h).1
    simp only [Nat.zero_add, List.range_one, List.map_cons, List.map_nil, Lib.join_one]
    rw [tx_split z 0 (endI z len 0) (Nat.zero_le _)]
    unfold lineL
    rw [bgi_zero]
    simp [tx]
  | j + 1, h => by
    have ih := joined z len j (by omega)
    obtain ⟨h1, h2⟩ := endI_lt z len j h
    have h3 := endI_at z len j (by omega)
    have h4 := endI_at z len (j + 1) h
    have hz : z (endI z len j) = 10 := by
      rcases h3.2.2.2 with h5 | h5
      · omega
      · exact h5
    rw [List.range_succ, List.map_append, List.map_cons, List.map_nil, join_snoc _ _ _ (by simp), ih, tx_split z (endI z len j + 1) (endI z len (j + 1)) (by have := h4.1; omega), tx_succ, hz]
    unfold lineL
    rw [h2]
    unfold u8
    simp
theorem joined_all (z : Nat → Nat) (len : Nat) : Lib.join ((List.range (bg z len).length).map fun i => u8 (lineL z len i)) [10] = u8 (tx z len) := by
  obtain ⟨j, hj⟩ : ∃ j, (bg z len).length = j + 1 := ⟨(fd (isF z) len).length, by simp [bg]⟩
  rw [hj, joined z len j (by omega)]
  unfold endI
  rw [if_neg (by omega)]
theorem indexByte_none (l : List UInt8) (c : UInt8) (h : c ∉ l) : Lib.indexByte l c = -1 := by
  induction l with
  | nil => rfl
  | cons b l ih =>
    have h1 : b ≠ c := fun e => h (by rw [e]; exact List.mem_cons_self ..)
    have h2 : c ∉ l := fun e => h (List.mem_cons_of_mem _ e)
    unfold Lib.indexByte
    rw [if_neg (by simpa using h1), ih h2]
    simp
/-- No line feed in a line. -/
theorem line_no (z : Nat → Nat) (hz : ∀ i, z i < 256) (len i : Nat) (h : i < (bg z len).length) : (10 : UInt8) ∉ u8 (lineL z len i) := by
  intro hm
  have h3 := (endI_at z len i h).2.2.1
  simp only [u8, lineL, cut, tx, List.map_map, List.mem_map, List.mem_range, Function.comp_apply] at hm
  obtain ⟨d, hd, e⟩ := hm
  have h4 := h3 (bgi z len i + d) (by omega) (by omega)
  have h5 := hz (bgi z len i + d)
  have h6 : (UInt8.ofNat (z (bgi z len i + d))).toNat = 10 := (congrArg UInt8.toNat e).trans rfl
  rw [UInt8.toNat_ofNat'] at h6
  generalize z (bgi z len i + d) = y at h4 h5 h6
  omega
theorem Grew.belowC {w w' : World} {v v' : Value} {B n : Nat} {xs : List Value} {e : TypeId} (h : Grew w w' v v') (hown : w.ownsRow B e 1 v n xs) (hB : B ≤ w.heap.size) : Below B w w' :=
  (h.kept (F := fun x => v.ownBlock = some x) (fun _ h => h)).below (fun x hx => (owns_cells hown x hx).2.1) hB
end Go.Proofs.Yteanibapabafnaa
