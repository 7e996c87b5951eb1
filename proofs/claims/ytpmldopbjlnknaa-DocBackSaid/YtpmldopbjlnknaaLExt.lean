/-
  lang.extension.
-/
import Derived.Test.YtpmldopbjlnknaaLLangW
import Derived.Lib.LastIndexByte
namespace Go.Proofs.Ytpmldopbjlnknaa
open Go.RowKit Go.Shelf

/-- Where the last point stands. -/
def lastI (p : List UInt8) : Int := Lib.lastIndexByte ⟨p.toArray⟩ 46
/-- What stands behind the last point, if that is not the first byte. -/
def extL (p : List UInt8) : List UInt8 := if 0 < lastI p then p.drop ((lastI p).toNat + 1) else []
theorem lastI_bounds (p : List UInt8) : -1 ≤ lastI p ∧ lastI p < p.length := by
  have h := Lib.lastIdx_spec ⟨p.toArray⟩ 46 (⟨p.toArray⟩ : ByteArray).size
  have hs : (⟨p.toArray⟩ : ByteArray).size = p.length := by simp [ByteArray.size]
  unfold lastI Lib.lastIndexByte
  rw [hs] at h ⊢
  rcases h with ⟨h, _⟩ | ⟨i, hi, h, _⟩
  · rw [h]; omega
  · rw [h]; omega
set_option maxRecDepth 100000 in
set_option maxHeartbeats 2000000 in
theorem extension_any (p : List UInt8) (w : World) (hp : p.length ≤ 1000000) :
    Calls Try.prog 56 #[by8 p] w fun e w' => e = .returned (by8 (extL p)) ∧ Below w.heap.size w w' := by
  have hb := lastI_bounds p
  have hsz : (⟨p.toArray⟩ : ByteArray).size = p.length := by simp [ByteArray.size]
  by_cases h : 0 < lastI p
  · obtain ⟨i, hi⟩ : ∃ i : Nat, lastI p = (i : Int) := ⟨(lastI p).toNat, by omega⟩
    have hil : i < p.length := by omega
    have e2 : (⟨(p.drop (i + 1)).toArray⟩ : ByteArray) = (⟨p.toArray⟩ : ByteArray).extract (i + 1) (⟨p.toArray⟩ : ByteArray).size := by
      rw [Lib.extract_eq, hsz, List.take_of_length_le (by rw [List.length_drop]; exact Nat.le_refl _)]
    have hi0 : (0 : Int) < (i : Int) := by omega
    unfold extL by8
    rw [if_pos h, hi, Int.toNat_natCast, e2]
    have hi2 : Lib.lastIndexByte (⟨p.toArray⟩ : ByteArray) 46 = (i : Int) := hi
    generalize hs : (⟨p.toArray⟩ : ByteArray) = s at *
    rw [hsz]
    have c5 : i + 1 ≤ p.length := by omega
    have c4 : (↑i + 1 : Int) ≤ ↑s.size := by omega
    have c3 : (0 : Int) ≤ ↑i + 1 := by omega
    have c8 := IntWalk.i64_in ((i : Int) + 1) (by omega)
    go_enter Try.func56, Try.ntmps56
    go_wp2_with fail
    refine (Try.strings_LastIndexByte s 46 (by omega) w).mono ?_
    rintro e w' ⟨rfl, rfl⟩
    rw [hi2]
    go_wp2_with fail
    go_ret
    exact ⟨rfl, Below.refl _ _⟩
  · have hle : lastI p ≤ 0 := by omega
    have hle2 : Lib.lastIndexByte (⟨p.toArray⟩ : ByteArray) 46 ≤ 0 := hle
    unfold extL by8
    rw [if_neg h]
    generalize hs : (⟨p.toArray⟩ : ByteArray) = s at *
    go_enter Try.func56, Try.ntmps56
    go_wp2_with fail
    refine (Try.strings_LastIndexByte s 46 (by omega) w).mono ?_
    rintro e w' ⟨rfl, rfl⟩
    generalize Lib.lastIndexByte s 46 = q at *
    go_wp2_with fail
    go_ret
    exact ⟨rfl, Below.refl _ _⟩
end Go.Proofs.Ytpmldopbjlnknaa
