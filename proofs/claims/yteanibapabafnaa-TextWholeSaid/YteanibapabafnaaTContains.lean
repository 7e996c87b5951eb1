/-
  strings.Contains at a line feed, strings.Join of the lines, by the shelf's contracts (tools/shelf.py strings_Join strings_Contains_one).
-/
import Derived.Test.YteanibapabafnaaTWholeM
import Derived.Test.YteanibapabafnaaShelf
namespace Go.Proofs.Yteanibapabafnaa
open Go.RowKit

theorem contains_no (S : ByteArray) (hS : (10 : UInt8) ∉ S.data.toList) (w : World) :
    Calls Try.prog 20 #[.string S, .string ⟨#[10]⟩] w fun e w' => e = .returned (.bool false) ∧ w' = w :=
  (Try.strings_Contains_one S 10 w).mono (by
    rintro e w' ⟨rfl, rfl⟩
    rw [indexByte_none _ _ hS]
    exact ⟨rfl, rfl⟩)
theorem strOf_u8 (L : List Nat) : (⟨(u8 L).toArray⟩ : ByteArray) = strOfNums (L.map fun x : Nat => (x : Int)) := by
  apply ByteArray.ext
  apply Array.toList_inj.1
  rw [txt_data]
theorem join_lines (z : Nat → Nat) (la n g C : Nat) (W : World) (hn : (bg z la).length = n) (hla : la ≤ 100000) (hC : n ≤ C) (hg : g < W.heap.size) (hc : ∀ j, j < n → W.cell? ⟨g, j, none⟩ = some (txt (lineL z la j))) :
    Calls Try.prog 21 #[.slice (some ⟨g, 0, none⟩) n C, .string ⟨#[10]⟩] W fun e w' => e = .returned (txt (tx z la)) ∧ Below W.heap.size W w' := by
  obtain ⟨xs, hxs⟩ : ∃ xs, xs = (List.range n).map fun j => strOfNums ((lineL z la j).map fun x : Nat => (x : Int)) := ⟨_, rfl⟩
  have hl : xs.length = n := by rw [hxs]; simp
  have hnl : n ≤ la + 1 := by rw [← hn]; exact bg_length_le z la
  have hd : xs.map (·.data.toList) = (List.range n).map fun i => u8 (lineL z la i) := by
    rw [hxs, List.map_map]
    apply List.map_congr_left
    intro j _
    exact txt_data _
  have hj : Lib.join (xs.map (·.data.toList)) [10] = u8 (tx z la) := by rw [hd, ← hn]; exact joined_all z la
  have h := Try.strings_Join g 0 C xs ⟨#[10]⟩ W (fun j x hx => by
    have hjl : j < n := by rw [← hl]; exact (List.getElem?_eq_some_iff.1 hx).1
    rw [Nat.zero_add, hc j hjl]
    rw [hxs, List.getElem?_map, List.getElem?_range hjl] at hx
    cases hx
    rfl) hg (by omega) (by omega) (by
      show (Lib.join (xs.map (·.data.toList)) [10]).length ≤ _
      rw [hj]
      simp [u8, tx]
      omega)
  rw [hl] at h
  refine h.mono ?_
  rintro e w' ⟨rfl, hb⟩
  refine ⟨?_, hb⟩
  show Ending.returned (.string ⟨(Lib.join (xs.map (·.data.toList)) [10]).toArray⟩) = _
  rw [hj, strOf_u8]
  rfl
end Go.Proofs.Yteanibapabafnaa
