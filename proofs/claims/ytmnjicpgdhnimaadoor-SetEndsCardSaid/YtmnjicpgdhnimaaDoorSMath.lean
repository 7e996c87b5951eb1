/-
  Sets of bytes as four numbers: a set's value by which bytes it has (H : Nat -> Bool), arithmetic alone.
-/
import Derived.Test.YtmnjicpgdhnimaaDoorKit
import Derived.Test.YtmnjicpgdhnimaaDoorFoot
import Derived.WalkKit
import Derived.WalkSpells
import Derived.WalkLawsBesides
import Derived.Laws.BitsAllLaws
import Derived.Laws.ShiftsVarLaws
import Derived.Laws.Tables
namespace Go.Proofs.YtmnjicpgdhnimaaDoor
open Go.RowKit

/-- The number whose first n bits are f's. -/
def bsum (f : Nat → Bool) : Nat → Nat
  | 0 => 0
  | n + 1 => bsum f n ||| (if f n then 2 ^ n else 0)
theorem bsum_lt (f : Nat → Bool) (n : Nat) : bsum f n < 2 ^ n := by
  induction n with
  | zero => simp [bsum]
  | succ n ih =>
    unfold bsum
    have h2 : 2 ^ (n + 1) = 2 ^ n + 2 ^ n := by rw [Nat.pow_succ]; omega
    have hp : 0 < 2 ^ n := Nat.two_pow_pos n
    exact Nat.or_lt_two_pow (by omega) (by split <;> omega)
theorem bsum_bit (f : Nat → Bool) (n k : Nat) : (bsum f n).testBit k = (decide (k < n) && f k) := by
  induction n with
  | zero => simp [bsum]
  | succ n ih =>
    unfold bsum
    rw [Nat.testBit_or, ih]
    by_cases hk : k = n
    · subst hk
      by_cases hf : f k = true
      · simp [hf]
      · simp [hf]
    · have e : (if f n = true then 2 ^ n else 0 : Nat).testBit k = false := by
        split
        · rw [Nat.testBit_two_pow]; simp; omega
        · simp
      rw [e, Bool.or_false]
      by_cases h1 : k < n
      · have h2 : k < n + 1 := by omega
        simp [h1, h2]
      · have h2 : ¬ k < n + 1 := by omega
        simp [h1, h2]
/-- The i-th number of the set of the bytes of H. -/
def wd (H : Nat → Bool) (i : Nat) : Nat := bsum (fun k => H (64 * i + k)) 64
theorem wd_lt (H : Nat → Bool) (i : Nat) : wd H i < 18446744073709551616 := bsum_lt _ 64
theorem wd_bit (H : Nat → Bool) (i k : Nat) (hk : k < 64) : (wd H i).testBit k = H (64 * i + k) := by
  unfold wd
  rw [bsum_bit]
  simp [hk]
theorem bit_big (n k : Nat) (hn : n < 18446744073709551616) (hk : 64 ≤ k) : n.testBit k = false :=
  Nat.testBit_lt_two_pow (Nat.lt_of_lt_of_le (show n < 2 ^ 64 from hn) (Nat.pow_le_pow_right (by decide) hk))
theorem wd_ext (n : Nat) (H : Nat → Bool) (i : Nat) (hn : n < 18446744073709551616) (h : ∀ k, k < 64 → n.testBit k = H (64 * i + k)) : n = wd H i := by
  refine Nat.eq_of_testBit_eq fun k => ?_
  by_cases hk : k < 64
  · rw [h k hk, wd_bit H i k hk]
  · rw [bit_big n k hn (by omega), bit_big _ k (wd_lt H i) (by omega)]
theorem wd_congr (H G : Nat → Bool) (i : Nat) (hi : i < 4) (h : ∀ b, b < 256 → H b = G b) : wd H i = wd G i :=
  wd_ext _ G i (wd_lt H i) fun k hk => by rw [wd_bit H i k hk]; exact h _ (by omega)

/-- A set's cells, its value. -/
def sc (W : Nat → Nat) : Array Value := #[.int .u64 (W 0 : Nat), .int .u64 (W 1 : Nat), .int .u64 (W 2 : Nat), .int .u64 (W 3 : Nat)]
def st (H : Nat → Bool) : Array Value := sc (wd H)
def sv (H : Nat → Bool) : Value := .agg (st H)
/-- The bytes of four numbers. -/
def hasW (W : Nat → Nat) (b : Nat) : Bool := (W (b / 64)).testBit (b % 64)
theorem sc_congr (W U : Nat → Nat) (h : ∀ i, i < 4 → W i = U i) : sc W = sc U := by
  unfold sc
  rw [h 0 (by omega), h 1 (by omega), h 2 (by omega), h 3 (by omega)]
theorem st_congr (H G : Nat → Bool) (h : ∀ b, b < 256 → H b = G b) : st H = st G := sc_congr _ _ fun i hi => wd_congr H G i hi h
theorem sv_congr (H G : Nat → Bool) (h : ∀ b, b < 256 → H b = G b) : sv H = sv G := by unfold sv; rw [st_congr H G h]
theorem sc_st (W : Nat → Nat) (hW : ∀ i, i < 4 → W i < 18446744073709551616) : sc W = st (hasW W) :=
  sc_congr _ _ fun i hi => wd_ext _ _ i (hW i hi) fun k hk => by
    unfold hasW
    rw [show (64 * i + k) / 64 = i by omega, show (64 * i + k) % 64 = k by omega]
theorem sc_get (W : Nat → Nat) (i : Nat) (h : i < 4) : (sc W)[i]? = some (.int .u64 (W i : Nat)) := by
  match i, h with
  | 0, _ => rfl
  | 1, _ => rfl
  | 2, _ => rfl
  | 3, _ => rfl
theorem st_get (H : Nat → Bool) (i : Nat) (h : i < 4) : (st H)[i]? = some (.int .u64 (wd H i : Nat)) := sc_get _ i h
theorem st_inj (H G : Nat → Bool) (h : st H = st G) : ∀ b, b < 256 → H b = G b := by
  intro b hb
  have hi : b / 64 < 4 := by omega
  have h1 := st_get H _ hi
  rw [h, st_get G _ hi] at h1
  have h2 : wd G (b / 64) = wd H (b / 64) := by
    have h4 : (wd G (b / 64) : Int) = (wd H (b / 64) : Int) := by simpa using h1
    omega
  have h3 := wd_bit H (b / 64) (b % 64) (by omega)
  rw [← h2, wd_bit G _ _ (by omega), show 64 * (b / 64) + b % 64 = b by omega] at h3
  exact h3.symm
/-- A set in a block. -/
def SBox (w : World) (g : Nat) (H : Nat → Bool) : Prop := w.heap[g]? = some (.cells (st H) 24 (0, 0))
theorem SBox.cell {w : World} {g : Nat} {H : Nat → Bool} (h : SBox w g H) (i : Nat) (hi : i < 4) : w.cell? ⟨g, i, none⟩ = some (.int .u64 (wd H i : Nat)) := by
  rw [cell_of_row _ _ _ _ _ _ h]
  exact st_get H i hi
theorem SBox.frozen {w : World} {g : Nat} {H : Nat → Bool} (h : SBox w g H) (i : Nat) : w.frozen? ⟨g, i, none⟩ = false := frozen_of_row _ _ _ _ _ h
/-- The low bit of a number moved down. -/
theorem shr_low (n k : Nat) (hn : n < 18446744073709551616) : (bits .and .u64 ((n : Int) / 2 ^ k) 1 == 1) = n.testBit k := by
  have e : ((n : Int) / 2 ^ k) = ((n / 2 ^ k : Nat) : Int) := by simp
  have hq : n / 2 ^ k < 18446744073709551616 := Nat.lt_of_le_of_lt (Nat.div_le_self _ _) hn
  have h := u64_and_nat (n / 2 ^ k) 1 hq (by omega)
  rw [Nat.and_one_is_mod] at h
  have h' : bits .and .u64 ((n / 2 ^ k : Nat) : Int) 1 = ((n / 2 ^ k % 2 : Nat) : Int) := h
  rw [e, h', Nat.testBit_eq_decide_div_mod_eq, Bool.eq_iff_iff]
  simp
  omega
/-- One byte more, one less. -/
def plus (H : Nat → Bool) (b : Nat) (c : Nat) : Bool := decide (c = b) || H c
def less (H : Nat → Bool) (b : Nat) (c : Nat) : Bool := !decide (c = b) && H c
theorem wd_plus (H : Nat → Bool) (b : Nat) : wd H (b / 64) ||| 2 ^ (b % 64) = wd (plus H b) (b / 64) := by
  refine wd_ext _ _ _ (show _ < 2 ^ 64 from Nat.or_lt_two_pow (wd_lt H _) ?_) fun k hk => ?_
  · exact Nat.pow_lt_pow_right (by omega) (by omega)
  · rw [Nat.testBit_or, wd_bit H _ k hk, Nat.testBit_two_pow, Bool.or_comm]
    unfold plus
    congr 1
    rw [decide_eq_decide]
    omega
theorem wd_plus_other (H : Nat → Bool) (b i : Nat) (h : i ≠ b / 64) : wd (plus H b) i = wd H i :=
  (wd_ext _ _ _ (wd_lt H i) fun k hk => by
    rw [wd_bit H i k hk]
    unfold plus
    rw [show decide (64 * i + k = b) = false by rw [decide_eq_false_iff_not]; omega]
    rfl).symm
theorem SBox.set {w : World} {g : Nat} {H G : Nat → Bool} (h : SBox w g H) (i n : Nat) (hi : i < 4) (hn : n = wd G i) (ho : ∀ j, j < 4 → j ≠ i → wd G j = wd H j) : SBox (w.setCell ⟨g, i, none⟩ (.int .u64 (n : Nat))) g G := by
  have e : w.setCell ⟨g, i, none⟩ (.int .u64 (n : Nat)) = w.setRow g (st G) := by
    rw [setCell_eq_setRow w g i _ _ _ _ h]
    congr 1
    subst hn
    match i, hi with
    | 0, _ => unfold st sc; rw [ho 1 (by omega) (by omega), ho 2 (by omega) (by omega), ho 3 (by omega) (by omega)]; rfl
    | 1, _ => unfold st sc; rw [ho 0 (by omega) (by omega), ho 2 (by omega) (by omega), ho 3 (by omega) (by omega)]; rfl
    | 2, _ => unfold st sc; rw [ho 0 (by omega) (by omega), ho 1 (by omega) (by omega), ho 3 (by omega) (by omega)]; rfl
    | 3, _ => unfold st sc; rw [ho 0 (by omega) (by omega), ho 1 (by omega) (by omega), ho 2 (by omega) (by omega)]; rfl
  rw [e]
  exact setRow_heap _ _ _ _ _ _ h
end Go.Proofs.YtmnjicpgdhnimaaDoor
