/-
  strings.Cut at a slash.
-/
import Derived.Test.YtpmldopbjlnknaaLMath
import Derived.Test.YtpmldopbjlnknaaShelf
import Derived.Shelf.RegionOpen
import Derived.Lib.CutLaws
import Derived.WalkKit
namespace Go.Proofs.Ytpmldopbjlnknaa
open Go.RowKit Go.Shelf

/-- A text of bytes. -/
def by8 (l : List UInt8) : Value := .string ⟨l.toArray⟩
theorem by8_data (s : ByteArray) : by8 s.data.toList = .string s := by unfold by8; rfl
/-- What Cut at a slash hands back. -/
def cutS (l : List UInt8) : List UInt8 × List UInt8 × Bool := if Lib.indexByte l 47 = -1 then (l, [], false) else (l.take (Lib.indexByte l 47).toNat, l.drop ((Lib.indexByte l 47).toNat + 1), true)
theorem cutS_parts (l : List UInt8) : partsL l = (cutS l).1 :: (if (cutS l).2.2 then partsL (cutS l).2.1 else []) := by
  unfold cutS
  by_cases h : Lib.indexByte l 47 = -1
  · rw [if_pos h]
    simp only [Bool.false_eq_true, if_false]
    exact parts_none l h
  · rw [if_neg h]
    have hge := Lib.indexByte_ge l 47
    simp only [if_true]
    exact (parts_some l _ (by omega)).2

set_option maxRecDepth 100000 in
set_option maxHeartbeats 2000000 in
theorem cutlite_any (l : List UInt8) (w : World) (hl : l.length ≤ 1000000) :
    Calls Try.prog 89 #[by8 l, .string ⟨#[47]⟩] w fun e w' => e = .returned (.tuple #[by8 (cutS l).1, by8 (cutS l).2.1, .bool (cutS l).2.2]) ∧ ∃ n, w' = w.drewN n := by
  have hge := Lib.indexByte_ge l 47
  by_cases h : Lib.indexByte l 47 = -1
  · unfold cutS by8
    rw [if_pos h]
    go_enter Try.func89, Try.ntmps89
    go_wp2_with fail
    refine (Try.stringslite_Index_one ⟨l.toArray⟩ 47 w).mono ?_
    rintro e w' ⟨rfl, rfl⟩
    rw [show Lib.indexByte (⟨l.toArray⟩ : ByteArray).data.toList 47 = -1 from h]
    go_wp2_with fail
    go_ret3
    exact ⟨rfl, 0, rfl⟩
  · obtain ⟨i, hi⟩ : ∃ i : Nat, Lib.indexByte l 47 = (i : Int) := ⟨(Lib.indexByte l 47).toNat, by omega⟩
    obtain ⟨hil, _⟩ := parts_some l i hi
    have hsz : (⟨l.toArray⟩ : ByteArray).size = l.length := by simp [ByteArray.size]
    have e1 : (⟨(l.take i).toArray⟩ : ByteArray) = (⟨l.toArray⟩ : ByteArray).extract 0 i := by rw [Lib.extract_eq]; simp
    have e2 : (⟨(l.drop (i + 1)).toArray⟩ : ByteArray) = (⟨l.toArray⟩ : ByteArray).extract (i + 1) (⟨l.toArray⟩ : ByteArray).size := by
      rw [Lib.extract_eq, hsz, List.take_of_length_le (by rw [List.length_drop]; exact Nat.le_refl _)]
    unfold cutS by8
    rw [if_neg h, hi]
    simp only [Int.toNat_natCast]
    rw [e1, e2]
    generalize hs : (⟨l.toArray⟩ : ByteArray) = s at *
    have hs2 : s.data.toList = l := by rw [← hs]
    rw [hsz]
    have mixed : Try.prog.follows .mixedOrders = true := by kernel_rfl
    have c7 : (↑i + 1 : Int) ≤ 9223372036854775807 := by omega
    have c8 := IntWalk.i64_in ((i : Int) + 1) (by omega)
    have c5 : i ≤ l.length := by omega
    have c6 : i + 1 ≤ l.length := by omega
    have c1 : (0 : Int) ≤ ↑i := by omega
    have c2 : (↑i : Int) ≤ ↑s.size := by omega
    have c3 : (0 : Int) ≤ ↑i + 1 := by omega
    have c4 : (↑i + 1 : Int) ≤ ↑s.size := by omega
    go_enter Try.func89, Try.ntmps89
    go_wp2_with fail
    refine (Try.stringslite_Index_one s 47 w).mono ?_
    rintro e w' ⟨rfl, rfl⟩
    rw [hs2, hi]
    go_wp2_with fail
    go_region_o
    go_wp2
    go_ret3
    exact ⟨rfl, 1, rfl⟩
set_option maxRecDepth 100000 in
set_option maxHeartbeats 2000000 in
theorem cut_any (l : List UInt8) (w : World) (hl : l.length ≤ 1000000) :
    Calls Try.prog 77 #[by8 l, .string ⟨#[47]⟩] w fun e w' => e = .returned (.tuple #[by8 (cutS l).1, by8 (cutS l).2.1, .bool (cutS l).2.2]) ∧ ∃ n, w' = w.drewN n := by
  go_enter Try.func77, Try.ntmps77
  go_wp2_with fail
  refine (cutlite_any l w hl).mono ?_
  rintro e w' ⟨rfl, n, rfl⟩
  go_wp2_with fail
  go_ret3
  exact ⟨rfl, n, rfl⟩
end Go.Proofs.Ytpmldopbjlnknaa
