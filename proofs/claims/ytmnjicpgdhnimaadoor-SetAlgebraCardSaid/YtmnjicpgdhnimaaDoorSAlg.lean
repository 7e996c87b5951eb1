/-
  The algebra of sets, folds, counts: over Bool alone.
-/
import Derived.Test.YtmnjicpgdhnimaaDoorSFold
import Derived.Test.YtmnjicpgdhnimaaDoorSCount
import Derived.Test.YtmnjicpgdhnimaaDoorSMeet
namespace Go.Proofs.YtmnjicpgdhnimaaDoor
open Go.RowKit

theorem fold_eq (H : Nat → Bool) (c : Nat) : fold H c = (H c || (decide (97 ≤ c ∧ c < 123) && H (c - 32)) || (decide (65 ≤ c ∧ c < 91) && H (c + 32))) := by
  unfold fold foB
  by_cases h1 : 97 ≤ c ∧ c < 123
  · have h2 : ¬ (65 ≤ c ∧ c < 91) := by omega
    have h3 : ¬ c + 32 < 123 := by omega
    simp [h1, h2, h3]
  · by_cases h2 : 65 ≤ c ∧ c < 91
    · have h3 : c + 32 < 123 := by omega
      have h4 : ¬ 97 ≤ c := by omega
      simp [h2, h3, h4]
      cases H c <;> simp
    · have h5 : (decide (97 ≤ c) && decide (c < 123)) = false := by simp; omega
      have h6 : (decide (65 ≤ c) && decide (c + 32 < 123)) = false := by simp; omega
      simp only [h5, h6, Bool.false_and, Bool.or_false, h1, h2, decide_false]
theorem fold_fold (H : Nat → Bool) (c : Nat) : fold (fold H) c = fold H c := by
  rw [fold_eq (fold H), fold_eq H c, fold_eq H (c - 32), fold_eq H (c + 32)]
  by_cases h1 : 97 ≤ c ∧ c < 123
  · have h2 : ¬ (65 ≤ c ∧ c < 91) := by omega
    have h3 : ¬ (97 ≤ c - 32 ∧ c - 32 < 123) := by omega
    have h4 : 65 ≤ c - 32 ∧ c - 32 < 91 := by omega
    have h5 : c - 32 + 32 = c := by omega
    simp only [h1, h2, h3, h4, h5, and_self, decide_true, decide_false, Bool.true_and, Bool.false_and, Bool.or_false]
    cases H c <;> cases H (c - 32) <;> rfl
  · by_cases h2 : 65 ≤ c ∧ c < 91
    · have h3 : 97 ≤ c + 32 ∧ c + 32 < 123 := by omega
      have h4 : ¬ (65 ≤ c + 32 ∧ c + 32 < 91) := by omega
      have h5 : c + 32 - 32 = c := by omega
      simp only [h1, h2, h3, h4, h5, and_self, decide_true, decide_false, Bool.true_and, Bool.false_and, Bool.or_false]
      cases H c <;> cases H (c + 32) <;> rfl
    · simp only [h1, h2, decide_false, Bool.false_and, Bool.or_false]
theorem fold_or (H G : Nat → Bool) (c : Nat) : fold (fun b => H b || G b) c = (fold H c || fold G c) := by
  simp only [fold_eq]
  generalize decide (97 ≤ c ∧ c < 123) = p
  generalize decide (65 ≤ c ∧ c < 91) = q
  cases p <;> cases q <;> cases H c <;> cases G c <;> cases H (c - 32) <;> cases G (c - 32) <;> cases H (c + 32) <;> cases G (c + 32) <;> rfl
theorem fold_has (H : Nat → Bool) (c : Nat) : (fold H c && H c) = H c := by
  rw [fold_eq]
  cases H c <;> simp
theorem cnt_not (H : Nat → Bool) : ∀ n, cnt H n + cnt (fun b => !H b) n = n
  | 0 => rfl
  | n + 1 => by
    have ih := cnt_not H n
    unfold cnt
    cases H n <;> simp <;> omega
theorem de_morgan (S : Nat → Nat → Bool) (c : Nat) : ∀ n, (!anyS S n c) = allS (fun i b => !S i b) n c
  | 0 => rfl
  | n + 1 => by
    show (!(anyS S n c || S n c)) = (allS (fun i b => !S i b) n c && !S n c)
    rw [Bool.not_or, de_morgan S c n]
theorem de_morgan' (S : Nat → Nat → Bool) (c : Nat) : ∀ n, (!allS S n c) = anyS (fun i b => !S i b) n c
  | 0 => rfl
  | n + 1 => by
    show (!(allS S n c && S n c)) = (anyS (fun i b => !S i b) n c || !S n c)
    rw [Bool.not_and, de_morgan' S c n]
end Go.Proofs.YtmnjicpgdhnimaaDoor
