/-
  The sum of bytes that have their own sum behind them is always the same.
-/
import Derived.Test.YtlmjplpledilhaaMath
namespace Go.Proofs.Ytlmjplpledilhaa

def residueN : Nat := notN (zsN 32 4294967295)
/-- Four bytes of a word, taken one behind the other. -/
theorem updN_word (r s : Nat) (hs : s < 4294967296) (z : Nat → Nat) (h : ∀ i, i < 4 → z i = s / 256 ^ i % 256) : updN r z 4 = zsN 32 (r ^^^ s) := by
  rw [updN_bits]
  have hc : seqN r (fun i => (z (i / 8)).testBit (i % 8)) (8 * 4) = seqN r (fun i => s.testBit i) 32 := by
    refine seqN_congr r _ _ 32 (fun i hi => ?_)
    rw [h (i / 8) (by omega)]
    have e : (256 : Nat) ^ (i / 8) = 2 ^ (8 * (i / 8)) := by rw [Nat.pow_mul]
    rw [e, show (256 : Nat) = 2 ^ 8 from rfl, Nat.testBit_mod_two_pow, Nat.testBit_div_two_pow]
    have h8 : i % 8 < 8 := Nat.mod_lt _ (by omega)
    simp only [h8, decide_true, Bool.true_and]
    congr 1
    omega
  rw [hc, seqN_bits]
  have hb := bits_eq 32 r s
  rw [Nat.mod_eq_of_lt (show s < 2 ^ 32 from hs)] at hb
  exact hb
theorem xor_not (r : Nat) (h : r < 4294967296) : r ^^^ notN r = 4294967295 := by
  apply Nat.eq_of_testBit_eq
  intro i
  have e : notN r = 2 ^ 32 - (r + 1) := by unfold notN; omega
  rw [Nat.testBit_xor, e, Nat.testBit_two_pow_sub_succ (show r < 2 ^ 32 from h), show (4294967295 : Nat) = 2 ^ 32 - 1 from rfl, Nat.testBit_two_pow_sub_one]
  by_cases hi : i < 32
  · simp [hi]
  · have : r.testBit i = false := Nat.testBit_lt_two_pow (Nat.lt_of_lt_of_le h (show 2 ^ 32 ≤ 2 ^ i from Nat.pow_le_pow_right (by omega) (by omega)))
    simp [hi, this]
theorem residue (z : Nat → Nat) (n : Nat) (h : ∀ i, i < 4 → z (n + i) = sumN z n / 256 ^ i % 256) : sumN z (n + 4) = residueN := by
  have h2 : updN (notN 0) z (n + 4) = zsN 32 4294967295 := by
    rw [updN_add, updN_word _ (sumN z n) (sumN_lt z n) _ h]
    congr 1
    exact xor_not _ (updN_lt _ _ (notN_lt 0) n)
  show notN (updN (notN 0) z (n + 4)) = residueN
  rw [h2]; rfl
/-- Bytes with their sum behind them, hurt by a burst: the sum behind them is not theirs any more. -/
theorem burst_safe (b : Nat → Nat) (m a k n : Nat) (hk : k ≤ 32) (hn : a + k ≤ 8 * (n + 4)) (hm : 0 < m % 2 ^ k) (h : ∀ i, i < 4 → b (n + i) = sumN b n / 256 ^ i % 256) :
    ¬ ∀ i, i < 4 → turnN b m a k (n + i) = sumN (turnN b m a k) n / 256 ^ i % 256 := by
  intro h2
  exact burst b m a k (n + 4) hk hn hm ((residue b n h).trans (residue _ n h2).symm)
end Go.Proofs.Ytlmjplpledilhaa
