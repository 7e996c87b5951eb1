/-
  Lines of bytes, as functions of the index: where line feeds stand (fd), where lines begin (bg), how many of starts lead (Lead), where a line ends (EndAt).
-/
import Derived.Test.YteanibapabafnaaKit
import Derived.Test.YteanibapabafnaaFoot
import Derived.Test.YteanibapabafnaaTxt
namespace Go.Proofs.Yteanibapabafnaa
open Go.RowKit

/-- The places of the first k at which p says so. -/
def fd (p : Nat → Bool) (k : Nat) : List Nat := (List.range k).filter p
theorem fd_zero (p : Nat → Bool) : fd p 0 = [] := rfl
theorem fd_yes {p : Nat → Bool} {k : Nat} (h : p k = true) : fd p (k + 1) = fd p k ++ [k] := by simp [fd, List.range_succ, List.filter_append, h]
theorem fd_no {p : Nat → Bool} {k : Nat} (h : p k = false) : fd p (k + 1) = fd p k := by simp [fd, List.range_succ, List.filter_append, h]
theorem fd_length_le (p : Nat → Bool) : ∀ k, (fd p k).length ≤ k
  | 0 => Nat.le_refl _
  | k + 1 => by
    have := fd_length_le p k
    cases h : p k with
    | true => rw [fd_yes h]; simp; exact this
    | false => rw [fd_no h]; omega
theorem mem_fd {p : Nat → Bool} {k i : Nat} : i ∈ fd p k ↔ i < k ∧ p i = true := by simp [fd]
theorem fd_prefix (p : Nat → Bool) {k n : Nat} (h : k ≤ n) : fd p k <+: fd p n := by
  induction n with
  | zero => obtain rfl : k = 0 := by omega
            exact List.prefix_rfl
  | succ n ih =>
    rcases Nat.lt_or_ge n k with h1 | h1
    · obtain rfl : k = n + 1 := by omega
      exact List.prefix_rfl
    · refine (ih h1).trans ?_
      cases hp : p n with
      | true => rw [fd_yes hp]; exact List.prefix_append _ _
      | false => rw [fd_no hp]; exact List.prefix_rfl
theorem fd_congr {p q : Nat → Bool} {k : Nat} (h : ∀ i, i < k → p i = q i) : fd p k = fd q k := by
  unfold fd
  exact List.filter_congr (fun i hi => h i (List.mem_range.1 hi))
/-- Is the byte at i a line feed? -/
def isF (z : Nat → Nat) (i : Nat) : Bool := z i == 10
/-- Where lines begin. -/
def bg (z : Nat → Nat) (n : Nat) : List Nat := 0 :: (fd (isF z) n).map (· + 1)
theorem bg_congr {z y : Nat → Nat} {n : Nat} (h : ∀ i, i < n → z i = y i) : bg z n = bg y n := by
  unfold bg; rw [fd_congr (q := isF y) (fun i hi => by unfold isF; rw [h i hi])]
theorem bg_length_le (z : Nat → Nat) (n : Nat) : (bg z n).length ≤ n + 1 := by
  have := fd_length_le (isF z) n
  simp [bg]; exact this
theorem bg_le {z : Nat → Nat} {n x : Nat} (h : x ∈ bg z n) : x ≤ n := by
  simp only [bg, List.mem_cons, List.mem_map] at h
  rcases h with rfl | ⟨i, hi, rfl⟩
  · omega
  · have := (mem_fd.1 hi).1; omega

/-- n of the starts, the first ones, are at most at. -/
def Lead (z : Nat → Int) (len : Nat) (at_ : Int) (n : Nat) : Prop := n ≤ len ∧ (∀ i, i < n → z i ≤ at_) ∧ (n = len ∨ at_ < z n)
theorem Lead.one {z : Nat → Int} {len : Nat} {a : Int} {n m : Nat} (h : Lead z len a n) (k : Lead z len a m) : n = m := by
  obtain ⟨h1, h2, h3⟩ := h
  obtain ⟨k1, k2, k3⟩ := k
  rcases Nat.lt_trichotomy n m with hl | e | hl
  · have := k2 n hl
    rcases h3 with h3 | h3 <;> omega
  · exact e
  · have := h2 m hl
    rcases k3 with k3 | k3 <;> omega
/-- k is where the line ends in which i stands. -/
def EndAt (z : Nat → Nat) (len i k : Nat) : Prop := i ≤ k ∧ k ≤ len ∧ (∀ j, i ≤ j → j < k → z j ≠ 10) ∧ (k = len ∨ z k = 10)
theorem EndAt.one {z : Nat → Nat} {len i n m : Nat} (h : EndAt z len i n) (k : EndAt z len i m) : n = m := by
  obtain ⟨h1, h2, h3, h4⟩ := h
  obtain ⟨k1, k2, k3, k4⟩ := k
  rcases Nat.lt_trichotomy n m with hl | e | hl
  · have := k3 n h1 hl
    rcases h4 with h4 | h4
    · omega
    · exact absurd h4 this
  · exact e
  · have := h3 m k1 hl
    rcases k4 with k4 | k4
    · omega
    · exact absurd k4 this
/-- What Text tells. -/
def TextIs (z : Nat → Nat) (len : Nat) (s : Nat → Int) (n : Nat) (line : Int) (v : Value) : Prop :=
  ((line < 1 ∨ (n : Int) < line) ∧ v = .string ⟨#[]⟩) ∨
  (∃ l : Nat, line = (l : Int) + 1 ∧ l < n ∧ ((s l < 0 ∨ (len : Int) < s l) ∧ v = .string ⟨#[]⟩ ∨ ∃ i k : Nat, s l = (i : Int) ∧ i ≤ len ∧ EndAt z len i k ∧ v = txt (cut z i k)))
theorem TextIs.one {z : Nat → Nat} {len : Nat} {s : Nat → Int} {n : Nat} {line : Int} {v u : Value} (h : TextIs z len s n line v) (k : TextIs z len s n line u) : v = u := by
  rcases h with ⟨h1, rfl⟩ | ⟨l, rfl, hl, h⟩
  · rcases k with ⟨_, rfl⟩ | ⟨l, rfl, hl, k⟩
    · rfl
    · omega
  · rcases k with ⟨h1, rfl⟩ | ⟨l', e, _, k⟩
    · omega
    · obtain rfl : l = l' := by omega
      rcases h with ⟨h1, rfl⟩ | ⟨i, e1, hi, hil, h2, rfl⟩
      · rcases k with ⟨_, rfl⟩ | ⟨i', e1', hi', hil', k2, rfl⟩
        · rfl
        · omega
      · rcases k with ⟨h1, rfl⟩ | ⟨i', e1', hi', hil', k2, rfl⟩
        · omega
        · obtain rfl : i = i' := by omega
          rw [h2.one k2]
end Go.Proofs.Yteanibapabafnaa
