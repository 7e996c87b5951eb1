/-
  Plain mathematics of the sums of bytes (CRC-32): taking bits and bytes, linearity, the table's step, bursts. No program in it.
-/
import Derived.WalkKit
namespace Go.Proofs.Ytlmjplpledilhaa

/-- Taking a bit into a number. -/
def bitN (s : Nat) (b : Bool) : Nat := if (decide (s % 2 = 1)) != b then (s / 2) ^^^ 3988292384 else s / 2
/-- Taking a zero bit. -/
def zN (s : Nat) : Nat := bitN s false
/-- Taking k zero bits. -/
def zsN : Nat → Nat → Nat
  | 0, s => s
  | k + 1, s => zsN k (zN s)
/-- Taking the first k bits of m, the lowest first. -/
def bitsN : Nat → Nat → Nat → Nat
  | 0, s, _ => s
  | k + 1, s, m => bitsN k (bitN s (decide (m % 2 = 1))) (m / 2)
/-- Taking a byte. -/
def byteN (s b : Nat) : Nat := bitsN 8 s b
/-- Taking n bytes. -/
def updN (s : Nat) (z : Nat → Nat) : Nat → Nat
  | 0 => s
  | n + 1 => byteN (updN s z n) (z n)
def notN (s : Nat) : Nat := 4294967295 - s
/-- The sum gone on from s by n bytes. -/
def goN (s : Nat) (z : Nat → Nat) (n : Nat) : Nat := notN (updN (notN s) z n)
/-- The sum of n bytes. -/
def sumN (z : Nat → Nat) (n : Nat) : Nat := goN 0 z n

theorem mod2_cases (m : Nat) : m % 2 = 0 ∨ m % 2 = 1 := by omega
theorem xor_mod2 (a b : Nat) : (a ^^^ b) % 2 = (a % 2 + b % 2) % 2 := by
  rw [← Nat.and_one_is_mod, ← Nat.and_one_is_mod, ← Nat.and_one_is_mod, Nat.and_xor_distrib_right]
  simp only [Nat.and_one_is_mod]
  rcases mod2_cases a with h | h <;> rcases mod2_cases b with g | g <;> simp [h, g]
theorem xor_div2 (a b : Nat) : (a ^^^ b) / 2 = a / 2 ^^^ b / 2 := by
  have h := @Nat.shiftRight_xor_distrib 1 a b
  simpa [Nat.shiftRight_succ] using h
theorem bitN_xor (s t : Nat) (a b : Bool) : bitN (s ^^^ t) (a ^^ b) = bitN s a ^^^ bitN t b := by
  unfold bitN
  rw [xor_div2, xor_mod2]
  rcases mod2_cases s with h | h <;> rcases mod2_cases t with g | g <;> cases a <;> cases b <;> simp [h, g] <;>
    first
    | (rw [Nat.xor_assoc]; done)
    | (rw [Nat.xor_assoc, Nat.xor_assoc, Nat.xor_comm 3988292384 (t / 2)]; done)
    | (rw [Nat.xor_assoc, Nat.xor_comm 3988292384 (t / 2), ← Nat.xor_assoc]; done)
    | (rw [Nat.xor_assoc, ← Nat.xor_assoc 3988292384, Nat.xor_comm 3988292384 (t / 2), Nat.xor_assoc (t / 2), Nat.xor_self, Nat.xor_zero])
theorem bitN_lt (s : Nat) (b : Bool) (h : s < 4294967296) : bitN s b < 4294967296 := by
  unfold bitN
  split
  · exact Nat.xor_lt_two_pow (n := 32) (by omega) (by omega)
  · omega
theorem bitsN_lt (k : Nat) : ∀ s m, s < 4294967296 → bitsN k s m < 4294967296 := by
  induction k with
  | zero => intro s m h; exact h
  | succ k ih => intro s m h; exact ih _ _ (bitN_lt _ _ h)
theorem byteN_lt (s b : Nat) (h : s < 4294967296) : byteN s b < 4294967296 := bitsN_lt 8 s b h
theorem updN_lt (s : Nat) (z : Nat → Nat) (h : s < 4294967296) : ∀ n, updN s z n < 4294967296
  | 0 => h
  | n + 1 => byteN_lt _ _ (updN_lt s z h n)
theorem notN_lt (s : Nat) : notN s < 4294967296 := by unfold notN; omega
theorem notN_notN (s : Nat) (h : s < 4294967296) : notN (notN s) = s := by unfold notN; omega
theorem goN_lt (s : Nat) (z : Nat → Nat) (n : Nat) : goN s z n < 4294967296 := notN_lt _
theorem sumN_lt (z : Nat → Nat) (n : Nat) : sumN z n < 4294967296 := notN_lt _

theorem updN_succ (s : Nat) (z : Nat → Nat) (n : Nat) : updN s z (n + 1) = byteN (updN s z n) (z n) := rfl
theorem updN_congr (s : Nat) (z y : Nat → Nat) : ∀ n, (∀ i, i < n → z i = y i) → updN s z n = updN s y n
  | 0, _ => rfl
  | n + 1, h => by rw [updN_succ, updN_succ, updN_congr s z y n (fun i hi => h i (by omega)), h n (by omega)]
theorem updN_add (s : Nat) (z : Nat → Nat) (a : Nat) : ∀ b, updN s z (a + b) = updN (updN s z a) (fun i => z (a + i)) b
  | 0 => rfl
  | b + 1 => by rw [← Nat.add_assoc, updN_succ, updN_succ, updN_add s z a b]
theorem sumN_congr (z y : Nat → Nat) (n : Nat) (h : ∀ i, i < n → z i = y i) : sumN z n = sumN y n := by
  unfold sumN goN; rw [updN_congr _ z y n h]
/-- A sum goes on where it ended. -/
theorem goN_goN (s : Nat) (z : Nat → Nat) (a b : Nat) : goN (goN s z a) (fun i => z (a + i)) b = goN s z (a + b) := by
  unfold goN
  rw [notN_notN _ (updN_lt _ _ (notN_lt _) _), updN_add]

theorem bitsN_xor (k : Nat) : ∀ s t m n, bitsN k (s ^^^ t) (m ^^^ n) = bitsN k s m ^^^ bitsN k t n := by
  induction k with
  | zero => intro s t m n; rfl
  | succ k ih =>
    intro s t m n
    have e : decide ((m ^^^ n) % 2 = 1) = (decide (m % 2 = 1) ^^ decide (n % 2 = 1)) := by
      rw [xor_mod2]
      rcases mod2_cases m with h | h <;> rcases mod2_cases n with g | g <;> simp [h, g]
    show bitsN k (bitN (s ^^^ t) (decide ((m ^^^ n) % 2 = 1))) ((m ^^^ n) / 2) = _
    rw [e, bitN_xor, xor_div2, ih]
    rfl
theorem byteN_xor (s t m n : Nat) : byteN (s ^^^ t) (m ^^^ n) = byteN s m ^^^ byteN t n := bitsN_xor 8 s t m n
theorem updN_xor (s t : Nat) (z y : Nat → Nat) : ∀ n, updN (s ^^^ t) (fun i => z i ^^^ y i) n = updN s z n ^^^ updN t y n
  | 0 => rfl
  | n + 1 => by rw [updN_succ, updN_xor s t z y n, byteN_xor]; rfl

theorem bitsN_zero (k : Nat) : ∀ s, bitsN k s 0 = zsN k s := by
  induction k with
  | zero => intro s; rfl
  | succ k ih => intro s; show bitsN k (bitN s false) 0 = _; rw [ih]; rfl
theorem zsN_xor (k s t : Nat) : zsN k (s ^^^ t) = zsN k s ^^^ zsN k t := by
  have := bitsN_xor k s t 0 0
  simpa [bitsN_zero] using this
/-- A bit taken is the number turned by it, and a zero bit taken. -/
theorem bits_eq (k : Nat) : ∀ s m, bitsN k s (m % 2 ^ k) = zsN k (s ^^^ (m % 2 ^ k)) := by
  induction k with
  | zero => intro s m; simp [bitsN, zsN, Nat.mod_one]
  | succ k ih =>
    intro s m
    have e2 : m % 2 ^ (k + 1) / 2 = (m / 2) % 2 ^ k := by
      rw [Nat.pow_succ, Nat.mul_comm, Nat.mod_mul_right_div_self]
    have e1 : m % 2 ^ (k + 1) % 2 = m % 2 := by
      rw [Nat.pow_succ, Nat.mul_comm, Nat.mod_mul_right_mod]
    show bitsN k (bitN s (decide (m % 2 ^ (k + 1) % 2 = 1))) (m % 2 ^ (k + 1) / 2) = zsN k (zN (s ^^^ m % 2 ^ (k + 1)))
    rw [e2, ih]
    congr 1
    unfold zN bitN
    rw [xor_div2, e2, xor_mod2, e1]
    rcases mod2_cases s with h | h <;> rcases mod2_cases m with g | g <;> simp [h, g] <;>
      first
      | rfl
      | (rw [Nat.xor_assoc, Nat.xor_assoc, Nat.xor_comm 3988292384])
theorem byte_eq (s b : Nat) (hb : b < 256) : byteN s b = zsN 8 (s ^^^ b) := by
  have := bits_eq 8 s b
  rwa [Nat.mod_eq_of_lt hb] at this
theorem zsN_shl (k : Nat) : ∀ h, zsN k (h * 2 ^ k) = h := by
  induction k with
  | zero => intro h; simp [zsN]
  | succ k ih =>
    intro h
    have e : zN (h * 2 ^ (k + 1)) = h * 2 ^ k := by
      unfold zN bitN
      have a : h * 2 ^ (k + 1) = 2 * (h * 2 ^ k) := by rw [Nat.pow_succ, ← Nat.mul_assoc, Nat.mul_comm]
      rw [a]
      simp
    show zsN k (zN (h * 2 ^ (k + 1))) = h
    rw [e, ih]
/-- The table's step: a byte is taken by what 0 becomes by one byte. -/
theorem table_step (s b : Nat) (hb : b < 256) : byteN 0 ((s % 256) ^^^ b) ^^^ s / 256 = byteN s b := by
  have hx : (s % 256) ^^^ b < 256 := Nat.xor_lt_two_pow (n := 8) (by omega) (by omega)
  rw [byte_eq _ _ hx, byte_eq s b hb, Nat.zero_xor]
  have e : s ^^^ b = ((s % 256) ^^^ b) ^^^ (s / 256 * 2 ^ 8) := by
    have d : s = (s % 256) ^^^ (s / 256 * 2 ^ 8) := by
      have h1 : s % 256 ^^^ s / 256 * 2 ^ 8 = s / 256 * 2 ^ 8 + s % 256 := by
        rw [Nat.xor_comm]
        apply Nat.eq_of_testBit_eq
        intro i
        rw [Nat.testBit_xor, Nat.mul_comm, Nat.testBit_two_pow_mul, Nat.testBit_two_pow_mul_add _ (by omega)]
        by_cases h : i < 8
        · have h8 : ¬ 8 ≤ i := by omega
          simp [h8]
        · have h8 : 8 ≤ i := by omega
          have h9 : (s % 256).testBit i = false := Nat.testBit_lt_two_pow (Nat.lt_of_lt_of_le (Nat.mod_lt s (by omega)) (Nat.pow_le_pow_right (by omega) h8 : 2 ^ 8 ≤ 2 ^ i))
          simp [h9, h8]
      omega
    calc s ^^^ b = ((s % 256) ^^^ (s / 256 * 2 ^ 8)) ^^^ b := by rw [← d]
      _ = _ := by rw [Nat.xor_assoc, Nat.xor_comm _ b, Nat.xor_assoc]
  rw [e, zsN_xor 8 ((s % 256) ^^^ b), zsN_shl]

theorem zN_pos (s : Nat) (h : 0 < s) (hl : s < 4294967296) : 0 < zN s := by
  unfold zN bitN
  split
  · rcases Nat.eq_zero_or_pos (s / 2 ^^^ 3988292384) with e | e
    · have h2 : s / 2 = 3988292384 := by
        have h3 := congrArg (· ^^^ 3988292384) e
        simpa [Nat.xor_assoc] using h3
      omega
    · exact e
  · rename_i hh
    simp at hh
    omega
theorem zN_lt (s : Nat) (hl : s < 4294967296) : zN s < 4294967296 := bitN_lt _ _ hl
theorem zsN_pos (k : Nat) : ∀ s, 0 < s → s < 4294967296 → 0 < zsN k s := by
  induction k with
  | zero => intro s h _; exact h
  | succ k ih => intro s h hl; exact ih _ (zN_pos s h hl) (zN_lt s hl)

/-! ### Bits in a row; a burst -/
/-- Taking the first n of the bits f. -/
def seqN (s : Nat) (f : Nat → Bool) : Nat → Nat
  | 0 => s
  | n + 1 => bitN (seqN s f n) (f n)
theorem seqN_succ (s : Nat) (f : Nat → Bool) (n : Nat) : seqN s f (n + 1) = bitN (seqN s f n) (f n) := rfl
theorem seqN_add (s : Nat) (f : Nat → Bool) (a : Nat) : ∀ b, seqN s f (a + b) = seqN (seqN s f a) (fun i => f (a + i)) b
  | 0 => rfl
  | b + 1 => by rw [← Nat.add_assoc, seqN_succ, seqN_succ, seqN_add s f a b]
theorem seqN_congr (s : Nat) (f g : Nat → Bool) : ∀ n, (∀ i, i < n → f i = g i) → seqN s f n = seqN s g n
  | 0, _ => rfl
  | n + 1, h => by rw [seqN_succ, seqN_succ, seqN_congr s f g n (fun i hi => h i (by omega)), h n (by omega)]
theorem seqN_bits (k : Nat) : ∀ s m, seqN s (fun i => m.testBit i) k = bitsN k s m := by
  induction k with
  | zero => intro s m; rfl
  | succ k ih =>
    intro s m
    rw [show seqN s (fun i => m.testBit i) (k + 1) = seqN (seqN s (fun i => m.testBit i) 1) (fun i => m.testBit (1 + i)) k from by rw [Nat.add_comm]; exact seqN_add s _ 1 k]
    show seqN (bitN s (m.testBit 0)) (fun i => m.testBit (1 + i)) k = bitsN k (bitN s (decide (m % 2 = 1))) (m / 2)
    rw [← ih, Nat.testBit_zero]
    apply seqN_congr
    intro i _
    rw [Nat.add_comm, Nat.testBit_succ]
theorem seqN_zeros (s : Nat) (f : Nat → Bool) (n : Nat) (h : ∀ i, i < n → f i = false) : seqN s f n = zsN n s := by
  rw [← bitsN_zero, ← seqN_bits]
  apply seqN_congr
  intro i hi
  rw [h i hi]; simp
theorem zsN_zero (k : Nat) : zsN k 0 = 0 := by
  have := zsN_shl k 0
  simpa using this
theorem updN_bits (s : Nat) (z : Nat → Nat) : ∀ n, updN s z n = seqN s (fun i => (z (i / 8)).testBit (i % 8)) (8 * n)
  | 0 => rfl
  | n + 1 => by
    rw [updN_succ, updN_bits s z n, Nat.mul_add, Nat.mul_one, seqN_add]
    unfold byteN
    rw [← seqN_bits]
    apply seqN_congr
    intro i hi
    have e1 : (8 * n + i) / 8 = n := by omega
    have e2 : (8 * n + i) % 8 = i := by omega
    rw [e1, e2]
/-- Bits that are those of m from a place on, k of them, and no others. -/
def spot (m a k : Nat) (i : Nat) : Bool := decide (a ≤ i) && (decide (i < a + k) && m.testBit (i - a))
theorem burst_pos (m a k n : Nat) (hk : k ≤ 32) (hn : a + k ≤ n) (hm : 0 < m % 2 ^ k) : 0 < seqN 0 (spot m a k) n := by
  obtain ⟨r, rfl⟩ : ∃ r, n = a + (k + r) := ⟨n - (a + k), by omega⟩
  rw [seqN_add, seqN_add, seqN_zeros 0 _ a (by intro i hi; simp [spot]; omega), zsN_zero]
  have e : seqN 0 (fun i => spot m a k (a + i)) k = bitsN k 0 (m % 2 ^ k) := by
    rw [← seqN_bits]
    apply seqN_congr
    intro i hi
    simp [spot, hi, Nat.testBit_mod_two_pow]
  rw [e, bits_eq, Nat.zero_xor]
  have hb : m % 2 ^ k < 4294967296 := Nat.lt_of_lt_of_le (Nat.mod_lt _ (Nat.two_pow_pos k)) (Nat.pow_le_pow_right (by omega) hk : 2 ^ k ≤ 2 ^ 32)
  rw [seqN_zeros _ _ r (by intro i hi; simp [spot]; omega)]
  refine zsN_pos r _ (zsN_pos k _ hm hb) ?_
  have := bitsN_lt k (m % 2 ^ k) 0 hb
  rwa [bitsN_zero] at this
/-- The row b with the first k bits of m turned from bit a on. -/
def turnN (b : Nat → Nat) (m a : Nat) : Nat → Nat → Nat
  | 0 => b
  | k + 1 => fun j => if m.testBit k = true ∧ j = (a + k) / 8 then turnN b m a k j ^^^ 2 ^ ((a + k) % 8) else turnN b m a k j
theorem turnN_succ (b : Nat → Nat) (m a k j : Nat) : turnN b m a (k + 1) j = if m.testBit k = true ∧ j = (a + k) / 8 then turnN b m a k j ^^^ 2 ^ ((a + k) % 8) else turnN b m a k j := rfl
theorem turnN_lt (b : Nat → Nat) (m a : Nat) (hb : ∀ j, b j < 256) : ∀ k j, turnN b m a k j < 256
  | 0, j => hb j
  | k + 1, j => by
    rw [turnN_succ]
    split
    · exact Nat.xor_lt_two_pow (n := 8) (turnN_lt b m a hb k j) (Nat.pow_lt_pow_right (by omega) (by omega))
    · exact turnN_lt b m a hb k j
theorem turnN_bit (b : Nat → Nat) (m a : Nat) : ∀ k j t, t < 8 → (turnN b m a k j).testBit t = ((b j).testBit t ^^ spot m a k (8 * j + t))
  | 0, j, t, _ => by
    have : spot m a 0 (8 * j + t) = false := by simp [spot]; omega
    rw [this]; simp [turnN]
  | k + 1, j, t, h => by
    rw [turnN_succ]
    have ih := turnN_bit b m a k j t h
    by_cases hc : m.testBit k = true ∧ j = (a + k) / 8
    · rw [if_pos hc, Nat.testBit_xor, ih, Nat.testBit_two_pow]
      by_cases ht : (a + k) % 8 = t
      · have e : 8 * j + t = a + k := by omega
        rw [e]
        have e1 : a + k - a = k := by omega
        simp [spot, ht, e1, hc.1]
      · have e : spot m a (k + 1) (8 * j + t) = spot m a k (8 * j + t) := by
          unfold spot
          have : decide (8 * j + t < a + (k + 1)) = decide (8 * j + t < a + k) := by
            apply decide_eq_decide.2; constructor <;> intro h' <;> omega
          rw [this]
        rw [e]; simp [ht]
    · rw [if_neg hc, ih]
      congr 1
      by_cases hq : 8 * j + t = a + k
      · have hj : j = (a + k) / 8 := by omega
        have hm : m.testBit k = false := by
          cases hx : m.testBit k with
          | false => rfl
          | true => exact absurd ⟨hx, hj⟩ hc
        rw [hq]
        have e1 : a + k - a = k := by omega
        simp [spot, e1, hm]
      · unfold spot
        have : decide (8 * j + t < a + (k + 1)) = decide (8 * j + t < a + k) := by
          apply decide_eq_decide.2; constructor <;> intro h' <;> omega
        rw [this]
/-- Rows that differ in one run of at most 32 bits have sums that differ. -/
theorem burst (b : Nat → Nat) (m a k n : Nat) (hk : k ≤ 32) (hn : a + k ≤ 8 * n) (hm : 0 < m % 2 ^ k) : sumN b n ≠ sumN (turnN b m a k) n := by
  intro h
  unfold sumN goN at h
  have l1 := updN_lt (notN 0) b (notN_lt _) n
  have l2 := updN_lt (notN 0) (turnN b m a k) (notN_lt _) n
  have e : updN (notN 0) b n = updN (notN 0) (turnN b m a k) n := by
    have := congrArg notN h
    rwa [notN_notN _ l1, notN_notN _ l2] at this
  have x := updN_xor (notN 0) (notN 0) b (turnN b m a k) n
  rw [e, Nat.xor_self, Nat.xor_self, updN_bits] at x
  have c : seqN 0 (fun i => (b (i / 8) ^^^ turnN b m a k (i / 8)).testBit (i % 8)) (8 * n) = seqN 0 (spot m a k) (8 * n) := by
    apply seqN_congr
    intro i _
    rw [Nat.testBit_xor, turnN_bit b m a k _ _ (by omega)]
    have : 8 * (i / 8) + i % 8 = i := by omega
    rw [this]
    cases (b (i / 8)).testBit (i % 8) <;> simp
  rw [c] at x
  have := burst_pos m a k (8 * n) hk hn hm
  omega
theorem mod_bit (m k : Nat) : m % 2 ^ (k + 1) = m % 2 ^ k + 2 ^ k * (m / 2 ^ k % 2) := Nat.mod_pow_succ
theorem testBit_iff (m k : Nat) : m.testBit k = true ↔ m / 2 ^ k % 2 = 1 := by
  rw [Nat.testBit_eq_decide_div_mod_eq]; simp
end Go.Proofs.Ytlmjplpledilhaa
