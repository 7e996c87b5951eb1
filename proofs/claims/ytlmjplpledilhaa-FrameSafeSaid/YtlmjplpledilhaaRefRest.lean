/-
  The reference's writer: fixed numbers, texts, rising rows, the bytes.
-/
import Derived.Test.YtlmjplpledilhaaRef
namespace Go.Proofs.Ytlmjplpledilhaa
open Go.RowKit




/-- The two rows' ways to say that a number does not go on. -/
theorem gap_bad (f : Nat → Int) (k : Nat) (hah : -1 ≤ ahead f k) : (f k ≤ ahead f k ∨ (maxNum : Int) < f k) ↔ (f k < 0 ∨ (1099511627776 : Int) < f k ∨ (0 < k ∧ f k ≤ f (k - 1))) := by
  unfold maxNum
  cases k with
  | zero => simp only [ahead] at *; simp; omega
  | succ k => simp only [ahead] at *; simp; omega

end Go.Proofs.Ytlmjplpledilhaa
