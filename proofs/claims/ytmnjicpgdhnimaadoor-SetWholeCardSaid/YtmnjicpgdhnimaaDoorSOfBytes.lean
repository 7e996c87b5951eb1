/-
  A set is Of its Bytes: over lists alone.
-/
import Derived.Test.YtmnjicpgdhnimaaDoorSOf
import Derived.Test.YtmnjicpgdhnimaaDoorSBl
namespace Go.Proofs.YtmnjicpgdhnimaaDoor
open Go.RowKit

theorem inz_iff (z : Nat → Nat) (c : Nat) : ∀ n, inz z n c = true ↔ ∃ i, i < n ∧ z i = c
  | 0 => by simp [inz]
  | n + 1 => by
    show (decide (c = z n) || inz z n c) = true ↔ _
    rw [Bool.or_eq_true, inz_iff z c n, decide_eq_true_iff]
    constructor
    · rintro (h | ⟨i, h1, h2⟩)
      · exact ⟨n, by omega, h.symm⟩
      · exact ⟨i, by omega, h2⟩
    · rintro ⟨i, h1, h2⟩
      by_cases e : i = n
      · subst e; exact .inl h2.symm
      · exact .inr ⟨i, by omega, h2⟩
theorem bl_mem (H : Nat → Bool) (c : Nat) : ∀ n, c ∈ bl H n ↔ c < n ∧ H c = true
  | 0 => by simp [bl]
  | n + 1 => by
    have ih := bl_mem H c n
    cases h : H n with
    | true =>
      rw [bl_yes h, List.mem_append, ih]
      simp only [List.mem_singleton]
      constructor
      · rintro (⟨h1, h2⟩ | rfl)
        · exact ⟨by omega, h2⟩
        · exact ⟨by omega, h⟩
      · rintro ⟨h1, h2⟩
        by_cases e : c = n
        · exact .inr e
        · exact .inl ⟨by omega, h2⟩
    | false =>
      rw [bl_no h, ih]
      constructor
      · rintro ⟨h1, h2⟩; exact ⟨by omega, h2⟩
      · rintro ⟨h1, h2⟩
        refine ⟨?_, h2⟩
        by_cases e : c = n
        · subst e; rw [h] at h2; cases h2
        · omega
theorem of_bytes (H : Nat → Bool) (c : Nat) (hc : c < 256) : inz (fun i => (bl H 256).getD i 0) (bl H 256).length c = H c := by
  rw [Bool.eq_iff_iff, inz_iff]
  constructor
  · rintro ⟨i, h1, h2⟩
    have hm : c ∈ bl H 256 := by
      rw [← h2]
      simp only [List.getD_eq_getElem?_getD, List.getElem?_eq_getElem h1, Option.getD_some]
      exact List.getElem_mem h1
    exact ((bl_mem H c 256).1 hm).2
  · intro h
    obtain ⟨i, h1, h2⟩ := List.getElem_of_mem ((bl_mem H c 256).2 ⟨hc, h⟩)
    exact ⟨i, h1, by simp only [List.getD_eq_getElem?_getD, List.getElem?_eq_getElem h1, Option.getD_some]; exact h2⟩
end Go.Proofs.YtmnjicpgdhnimaaDoor
