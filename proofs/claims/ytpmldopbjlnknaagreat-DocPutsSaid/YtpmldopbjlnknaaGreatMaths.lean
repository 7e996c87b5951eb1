/-
  Mathematics of wire: the bytes of numbers, texts, rising rows; what is read of bytes.
-/
import Derived.WalkKit
set_option linter.unusedVariables false
set_option linter.unusedSimpArgs false
namespace Go.Proofs.YtpmldopbjlnknaaGreat
def maxNum : Nat := 1099511627776
def encN (n : Nat) : List Nat := if h : n < 128 then [n] else (n % 128 + 128) :: encN (n / 128)
termination_by n
decreasing_by omega
theorem encN_lo {n : Nat} (h : n < 128) : encN n = [n] := by rw [encN, dif_pos h]
theorem encN_hi {n : Nat} (h : 128 ≤ n) : encN n = (n % 128 + 128) :: encN (n / 128) := by rw [encN, dif_neg (by omega)]
theorem encN_lt : ∀ (n : Nat), ∀ b ∈ encN n, b < 256 := by
 intro n
 induction n using Nat.strongRecOn with
 | ind n ih =>
   by_cases h : n < 128
   ·rw [encN_lo h]; intro b hb; simp at hb; omega
   ·rw [encN_hi (by omega)]
    intro b hb
    rcases List.mem_cons.1 hb with rfl | hb
    ·omega
    ·exact ih (n / 128) (by omega) b hb
theorem encN_len {n : Nat} : ∀ k, n < 128 ^ (k + 1) → (encN n).length ≤ k + 1 := by
 intro k
 induction k generalizing n with
 | zero => intro h; rw [encN_lo (by simpa using h)]; simp
 | succ k ih =>
   intro h
   by_cases h' : n < 128
   ·rw [encN_lo h']; simp
   ·rw [encN_hi (by omega)]
    have h2 : n / 128 < 128 ^ (k + 1) := by
     rw [Nat.div_lt_iff_lt_mul (by omega)]
     rw [Nat.pow_succ] at h; exact h
    have := ih h2
    simp; omega
theorem encN_len6 {n : Nat} (h : n ≤ maxNum) : (encN n).length ≤ 6 := encN_len 5 (by unfold maxNum at h; omega)
def pN : Nat → Nat → List Nat → Option (Nat × Nat)
 | 0, _, _ => none
 | _ + 1, _, [] => none
 | f + 1, i, b :: r => if b < 128 then (if b = 0 ∧ 0 < i then none else some (b, 1)) else (pN f (i + 1) r).map fun x => (b % 128 + 128 * x.1, x.2 + 1)
/-! ### What is put: none is a writer that failed. -/
def putNum : Option (List Nat) → Int → Option (List Nat)
 | none, _ => none
 | some xs, n => if 0 ≤ n ∧ n ≤ maxNum then some (xs ++ encN n.toNat) else none
def putRaw : Option (List Nat) → List Nat → Option (List Nat)
 | none, _ => none
 | some xs, b => some (xs ++ b)
def putNums (S : Option (List Nat)) (f : Nat → Int) : Nat → Option (List Nat)
 | 0 => S
 | k + 1 => putNum (putNums S f k) (f k)
def fixB (n : Nat) : List Nat := [n % 256, n / 256 % 256, n / 65536 % 256, n / 16777216 % 256]
def putText (S : Option (List Nat)) (b : List Nat) : Option (List Nat) := putRaw (putNum S b.length) b
/-! ### What is got: none is a reader that failed. -/
def getNum (most : Int) : Option (List Nat) → Nat × Option (List Nat)
 | none => (0, none)
 | some L => match pN 6 0 L with
   | none => (0, none)
   | some (v, k) => if (v : Int) ≤ most ∧ v ≤ maxNum then (v, some (L.drop k)) else (0, none)
def getFix : Option (List Nat) → Nat × Option (List Nat)
 | none => (0, none)
 | some L => if L.length < 4 then (0, none) else (L.getD 0 0 + L.getD 1 0 * 256 + L.getD 2 0 * 65536 + L.getD 3 0 * 16777216, some (L.drop 4))
def getText (most : Int) (S : Option (List Nat)) : List Nat × Option (List Nat) :=
 match getNum most S with
 | (_, none) => ([], none)
 | (n, some L) => if L.length < n then ([], none) else (L.take n, some (L.drop n))
def getRow (most : Int) : Nat → Int → Option (List Nat) → Option (List Int × List Nat)
 | _, _, none => none
 | 0, _, some L => some ([], L)
 | k + 1, l, some L => match getNum (min most maxNum - l - 1) (some L) with
   | (_, none) => none
   | (g, some L') => (getRow most k (l + 1 + g) (some L')).map fun x => ((l + 1 + g) :: x.1, x.2)
/-! ### Lengths -/
def szO : Option (List Nat) → Nat
 | none => 0
 | some xs => xs.length
def byO : Option (List Nat) → Prop
 | none => True
 | some xs => ∀ b ∈ xs, b < 256
theorem putNum_sz (S : Option (List Nat)) (n : Int) : szO (putNum S n) ≤ szO S + 6 := by
 cases S with
 | none => simp [putNum, szO]
 | some xs =>
   simp only [putNum]
   split
   ·rename_i h
    have := encN_len6 (n := n.toNat) (by omega)
    simp [szO]; omega
   ·simp [szO]
theorem putNums_sz (S : Option (List Nat)) (f : Nat → Int) : ∀ n, szO (putNums S f n) ≤ szO S + 6 * n
 | 0 => by simp [putNums]
 | n + 1 => by
   have := putNums_sz S f n
   have := putNum_sz (putNums S f n) (f n)
   show szO (putNum (putNums S f n) (f n)) ≤ _
   omega
theorem putRaw_sz (S : Option (List Nat)) (b : List Nat) : szO (putRaw S b) ≤ szO S + b.length := by
 cases S <;> simp [putRaw, szO]
theorem fixB_lt (n : Nat) : ∀ x ∈ fixB n, x < 256 := by
 intro x hx
 simp [fixB] at hx
 omega
theorem putText_sz (S : Option (List Nat)) (b : List Nat) : szO (putText S b) ≤ szO S + 6 + b.length := by
 have := putRaw_sz (putNum S b.length) b
 have := putNum_sz S b.length
 unfold putText; omega
def bitN (s : Nat) (b : Bool) : Nat := if (decide (s % 2 = 1)) != b then (s / 2) ^^^ 3988292384 else s / 2
def zN (s : Nat) : Nat := bitN s false
def zsN : Nat → Nat → Nat
 | 0, s => s
 | k + 1, s => zsN k (zN s)
def bitsN : Nat → Nat → Nat → Nat
 | 0, s, _ => s
 | k + 1, s, m => bitsN k (bitN s (decide (m % 2 = 1))) (m / 2)
def byteN (s b : Nat) : Nat := bitsN 8 s b
def updN (s : Nat) (z : Nat → Nat) : Nat → Nat
 | 0 => s
 | n + 1 => byteN (updN s z n) (z n)
def notN (s : Nat) : Nat := 4294967295 - s
def goN (s : Nat) (z : Nat → Nat) (n : Nat) : Nat := notN (updN (notN s) z n)
def sumN (z : Nat → Nat) (n : Nat) : Nat := goN 0 z n
theorem mod2_cases (m : Nat) : m % 2 = 0 ∨ m % 2 = 1 := by omega
theorem xor_mod2 (a b : Nat) : (a ^^^ b) % 2 = (a % 2 + b % 2) % 2 := by
 rw [← Nat.and_one_is_mod, ← Nat.and_one_is_mod, ← Nat.and_one_is_mod, Nat.and_xor_distrib_right]
 simp only [Nat.and_one_is_mod]
 rcases mod2_cases a with h | h <;> rcases mod2_cases b with g | g <;> simp [h, g]
theorem xor_div2 (a b : Nat) : (a ^^^ b) / 2 = a / 2 ^^^ b / 2 := by
 have h := @Nat.shiftRight_xor_distrib 1 a b
 simpa [Nat.shiftRight_succ] using h
theorem bitN_xor (s t : Nat) (a b : Bool) : bitN (s ^^^ t) (a ^^ b) = bitN s a ^^^ bitN t b := by
 unfold bitN
 rw [xor_div2, xor_mod2]
 rcases mod2_cases s with h | h <;> rcases mod2_cases t with g | g <;> cases a <;> cases b <;> simp [h, g] <;>
  first
  | (rw [Nat.xor_assoc]; done)
  | (rw [Nat.xor_assoc, Nat.xor_assoc, Nat.xor_comm 3988292384 (t / 2)]; done)
  | (rw [Nat.xor_assoc, Nat.xor_comm 3988292384 (t / 2), ← Nat.xor_assoc]; done)
  | (rw [Nat.xor_assoc, ← Nat.xor_assoc 3988292384, Nat.xor_comm 3988292384 (t / 2), Nat.xor_assoc (t / 2), Nat.xor_self, Nat.xor_zero])
theorem bitN_lt (s : Nat) (b : Bool) (h : s < 4294967296) : bitN s b < 4294967296 := by
 unfold bitN
 split
 ·exact Nat.xor_lt_two_pow (n := 32) (by omega) (by omega)
 ·omega
theorem bitsN_lt (k : Nat) : ∀ s m, s < 4294967296 → bitsN k s m < 4294967296 := by
 induction k with
 | zero => intro s m h; exact h
 | succ k ih => intro s m h; exact ih _ _ (bitN_lt _ _ h)
theorem byteN_lt (s b : Nat) (h : s < 4294967296) : byteN s b < 4294967296 := bitsN_lt 8 s b h
theorem updN_lt (s : Nat) (z : Nat → Nat) (h : s < 4294967296) : ∀ n, updN s z n < 4294967296
 | 0 => h
 | n + 1 => byteN_lt _ _ (updN_lt s z h n)
theorem notN_lt (s : Nat) : notN s < 4294967296 := by unfold notN; omega
theorem updN_succ (s : Nat) (z : Nat → Nat) (n : Nat) : updN s z (n + 1) = byteN (updN s z n) (z n) := rfl
theorem updN_add (s : Nat) (z : Nat → Nat) (a : Nat) : ∀ b, updN s z (a + b) = updN (updN s z a) (fun i => z (a + i)) b
 | 0 => rfl
 | b + 1 => by rw [← Nat.add_assoc, updN_succ, updN_succ, updN_add s z a b]
theorem bitsN_xor (k : Nat) : ∀ s t m n, bitsN k (s ^^^ t) (m ^^^ n) = bitsN k s m ^^^ bitsN k t n := by
 induction k with
 | zero => intro s t m n; rfl
 | succ k ih =>
   intro s t m n
   have e : decide ((m ^^^ n) % 2 = 1) = (decide (m % 2 = 1) ^^ decide (n % 2 = 1)) := by
    rw [xor_mod2]
    rcases mod2_cases m with h | h <;> rcases mod2_cases n with g | g <;> simp [h, g]
   show bitsN k (bitN (s ^^^ t) (decide ((m ^^^ n) % 2 = 1))) ((m ^^^ n) / 2) = _
   rw [e, bitN_xor, xor_div2, ih]
   rfl
theorem bitsN_zero (k : Nat) : ∀ s, bitsN k s 0 = zsN k s := by
 induction k with
 | zero => intro s; rfl
 | succ k ih => intro s; show bitsN k (bitN s false) 0 = _; rw [ih]; rfl
theorem zsN_xor (k s t : Nat) : zsN k (s ^^^ t) = zsN k s ^^^ zsN k t := by
 have := bitsN_xor k s t 0 0
 simpa [bitsN_zero] using this
theorem bits_eq (k : Nat) : ∀ s m, bitsN k s (m % 2 ^ k) = zsN k (s ^^^ (m % 2 ^ k)) := by
 induction k with
 | zero => intro s m; simp [bitsN, zsN, Nat.mod_one]
 | succ k ih =>
   intro s m
   have e2 : m % 2 ^ (k + 1) / 2 = (m / 2) % 2 ^ k := by
    rw [Nat.pow_succ, Nat.mul_comm, Nat.mod_mul_right_div_self]
   have e1 : m % 2 ^ (k + 1) % 2 = m % 2 := by
    rw [Nat.pow_succ, Nat.mul_comm, Nat.mod_mul_right_mod]
   show bitsN k (bitN s (decide (m % 2 ^ (k + 1) % 2 = 1))) (m % 2 ^ (k + 1) / 2) = zsN k (zN (s ^^^ m % 2 ^ (k + 1)))
   rw [e2, ih]
   congr 1
   unfold zN bitN
   rw [xor_div2, e2, xor_mod2, e1]
   rcases mod2_cases s with h | h <;> rcases mod2_cases m with g | g <;> simp [h, g] <;>
    first
    | rfl
    | (rw [Nat.xor_assoc, Nat.xor_assoc, Nat.xor_comm 3988292384])
theorem byte_eq (s b : Nat) (hb : b < 256) : byteN s b = zsN 8 (s ^^^ b) := by
 have := bits_eq 8 s b
 rwa [Nat.mod_eq_of_lt hb] at this
theorem zsN_shl (k : Nat) : ∀ h, zsN k (h * 2 ^ k) = h := by
 induction k with
 | zero => intro h; simp [zsN]
 | succ k ih =>
   intro h
   have e : zN (h * 2 ^ (k + 1)) = h * 2 ^ k := by
    unfold zN bitN
    have a : h * 2 ^ (k + 1) = 2 * (h * 2 ^ k) := by rw [Nat.pow_succ, ← Nat.mul_assoc, Nat.mul_comm]
    rw [a]
    simp
   show zsN k (zN (h * 2 ^ (k + 1))) = h
   rw [e, ih]
theorem table_step (s b : Nat) (hb : b < 256) : byteN 0 ((s % 256) ^^^ b) ^^^ s / 256 = byteN s b := by
 have hx : (s % 256) ^^^ b < 256 := Nat.xor_lt_two_pow (n := 8) (by omega) (by omega)
 rw [byte_eq _ _ hx, byte_eq s b hb, Nat.zero_xor]
 have e : s ^^^ b = ((s % 256) ^^^ b) ^^^ (s / 256 * 2 ^ 8) := by
  have d : s = (s % 256) ^^^ (s / 256 * 2 ^ 8) := by
   have h1 : s % 256 ^^^ s / 256 * 2 ^ 8 = s / 256 * 2 ^ 8 + s % 256 := by
    rw [Nat.xor_comm]
    apply Nat.eq_of_testBit_eq
    intro i
    rw [Nat.testBit_xor, Nat.mul_comm, Nat.testBit_two_pow_mul, Nat.testBit_two_pow_mul_add _ (by omega)]
    by_cases h : i < 8
    ·have h8 : ¬ 8 ≤ i := by omega
     simp [h8]
    ·have h8 : 8 ≤ i := by omega
     have h9 : (s % 256).testBit i = false := Nat.testBit_lt_two_pow (Nat.lt_of_lt_of_le (Nat.mod_lt s (by omega)) (Nat.pow_le_pow_right (by omega) h8 : 2 ^ 8 ≤ 2 ^ i))
     simp [h9, h8]
   omega
  calc s ^^^ b = ((s % 256) ^^^ (s / 256 * 2 ^ 8)) ^^^ b := by rw [← d]
   _ = _ := by rw [Nat.xor_assoc, Nat.xor_comm _ b, Nat.xor_assoc]
 rw [e, zsN_xor 8 ((s % 256) ^^^ b), zsN_shl]
/-! ### Bits in a row; a burst -/
def seqN (s : Nat) (f : Nat → Bool) : Nat → Nat
 | 0 => s
 | n + 1 => bitN (seqN s f n) (f n)
theorem seqN_succ (s : Nat) (f : Nat → Bool) (n : Nat) : seqN s f (n + 1) = bitN (seqN s f n) (f n) := rfl
theorem seqN_add (s : Nat) (f : Nat → Bool) (a : Nat) : ∀ b, seqN s f (a + b) = seqN (seqN s f a) (fun i => f (a + i)) b
 | 0 => rfl
 | b + 1 => by rw [← Nat.add_assoc, seqN_succ, seqN_succ, seqN_add s f a b]
theorem seqN_congr (s : Nat) (f g : Nat → Bool) : ∀ n, (∀ i, i < n → f i = g i) → seqN s f n = seqN s g n
 | 0, _ => rfl
 | n + 1, h => by rw [seqN_succ, seqN_succ, seqN_congr s f g n (fun i hi => h i (by omega)), h n (by omega)]
theorem seqN_bits (k : Nat) : ∀ s m, seqN s (fun i => m.testBit i) k = bitsN k s m := by
 induction k with
 | zero => intro s m; rfl
 | succ k ih =>
   intro s m
   rw [show seqN s (fun i => m.testBit i) (k + 1) = seqN (seqN s (fun i => m.testBit i) 1) (fun i => m.testBit (1 + i)) k from by rw [Nat.add_comm]; exact seqN_add s _ 1 k]
   show seqN (bitN s (m.testBit 0)) (fun i => m.testBit (1 + i)) k = bitsN k (bitN s (decide (m % 2 = 1))) (m / 2)
   rw [← ih, Nat.testBit_zero]
   apply seqN_congr
   intro i _
   rw [Nat.add_comm, Nat.testBit_succ]
def spot (m a k : Nat) (i : Nat) : Bool := decide (a ≤ i) && (decide (i < a + k) && m.testBit (i - a))
end Go.Proofs.YtpmldopbjlnknaaGreat
