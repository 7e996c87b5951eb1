/-
  Mathematics of wire: the bytes of numbers, texts, rising rows; what is read of bytes.
-/
import Derived.WalkKit
namespace Go.Proofs.YtppdbinppibjhaaGreatDoor

/-- The greatest number. -/
def maxNum : Nat := 1099511627776

/-- A number's bytes. -/
def encN (n : Nat) : List Nat := if h : n < 128 then [n] else (n % 128 + 128) :: encN (n / 128)
termination_by n
decreasing_by omega
theorem encN_lo {n : Nat} (h : n < 128) : encN n = [n] := by rw [encN, dif_pos h]
theorem encN_hi {n : Nat} (h : 128 ≤ n) : encN n = (n % 128 + 128) :: encN (n / 128) := by rw [encN, dif_neg (by omega)]
theorem encN_lt : ∀ (n : Nat), ∀ b ∈ encN n, b < 256 := by
  intro n
  induction n using Nat.strongRecOn with
  | ind n ih =>
    by_cases h : n < 128
    · rw [encN_lo h]; intro b hb; simp at hb; omega
    · rw [encN_hi (by omega)]
      intro b hb
      rcases List.mem_cons.1 hb with rfl | hb
      · omega
      · exact ih (n / 128) (by omega) b hb
theorem encN_len {n : Nat} : ∀ k, n < 128 ^ (k + 1) → (encN n).length ≤ k + 1 := by
  intro k
  induction k generalizing n with
  | zero => intro h; rw [encN_lo (by simpa using h)]; simp
  | succ k ih =>
    intro h
    by_cases h' : n < 128
    · rw [encN_lo h']; simp
    · rw [encN_hi (by omega)]
      have h2 : n / 128 < 128 ^ (k + 1) := by
        rw [Nat.div_lt_iff_lt_mul (by omega)]
        rw [Nat.pow_succ] at h; exact h
      have := ih h2
      simp; omega
theorem encN_len6 {n : Nat} (h : n ≤ maxNum) : (encN n).length ≤ 6 := encN_len 5 (by unfold maxNum at h; omega)

/-- What stands at the beginning of bytes: a number and how many bytes it has; i bytes of it went ahead, f may still come. -/
def pN : Nat → Nat → List Nat → Option (Nat × Nat)
  | 0, _, _ => none
  | _ + 1, _, [] => none
  | f + 1, i, b :: r => if b < 128 then (if b = 0 ∧ 0 < i then none else some (b, 1)) else (pN f (i + 1) r).map fun x => (b % 128 + 128 * x.1, x.2 + 1)

theorem pN_enc (n : Nat) : ∀ (f i : Nat) (rest : List Nat), (encN n).length ≤ f → (0 < i → 0 < n) → pN f i (encN n ++ rest) = some (n, (encN n).length) := by
  induction n using Nat.strongRecOn with
  | ind n ih =>
    intro f i rest hf hi
    by_cases h : n < 128
    · rw [encN_lo h] at hf ⊢
      obtain ⟨f, rfl⟩ : ∃ g, f = g + 1 := ⟨f - 1, by simp at hf; omega⟩
      simp only [List.cons_append, List.nil_append, pN, List.length_cons, List.length_nil]
      rw [if_pos h, if_neg (by omega)]
    · rw [encN_hi (by omega)] at hf ⊢
      obtain ⟨f, rfl⟩ : ∃ g, f = g + 1 := ⟨f - 1, by simp at hf; omega⟩
      simp only [List.cons_append, pN]
      rw [if_neg (by omega), ih (n / 128) (by omega) f (i + 1) rest (by simpa using hf) (by omega)]
      simp; omega

theorem pN_len : ∀ (f i : Nat) (L : List Nat) (v k : Nat), pN f i L = some (v, k) → 1 ≤ k ∧ k ≤ L.length ∧ k ≤ f := by
  intro f
  induction f with
  | zero => intro i L v k h; cases h
  | succ f ih =>
    intro i L v k h
    cases L with
    | nil => cases h
    | cons b r =>
      simp only [pN] at h
      split at h
      · split at h
        · cases h
        · cases h; simp
      · cases hp : pN f (i + 1) r with
        | none => rw [hp] at h; cases h
        | some x =>
          rw [hp] at h
          simp at h
          have := ih (i + 1) r x.1 x.2 (by rw [hp])
          simp; omega
theorem pN_lt : ∀ (f i : Nat) (L : List Nat) (v k : Nat), pN f i L = some (v, k) → v < 128 ^ f := by
  intro f
  induction f with
  | zero => intro i L v k h; cases h
  | succ f ih =>
    intro i L v k h
    have h1 : 0 < 128 ^ f := Nat.pow_pos (by omega)
    rw [Nat.pow_succ]
    cases L with
    | nil => cases h
    | cons b r =>
      simp only [pN] at h
      split at h
      · split at h
        · cases h
        · cases h; omega
      · cases hp : pN f (i + 1) r with
        | none => rw [hp] at h; cases h
        | some x =>
          rw [hp] at h
          simp at h
          have := ih (i + 1) r x.1 x.2 (by rw [hp])
          omega

/-! ### What is put: none is a writer that failed. -/
def putNum : Option (List Nat) → Int → Option (List Nat)
  | none, _ => none
  | some xs, n => if 0 ≤ n ∧ n ≤ maxNum then some (xs ++ encN n.toNat) else none
def putRaw : Option (List Nat) → List Nat → Option (List Nat)
  | none, _ => none
  | some xs, b => some (xs ++ b)
def putNums (S : Option (List Nat)) (f : Nat → Int) : Nat → Option (List Nat)
  | 0 => S
  | k + 1 => putNum (putNums S f k) (f k)
def fixB (n : Nat) : List Nat := [n % 256, n / 256 % 256, n / 65536 % 256, n / 16777216 % 256]
def putText (S : Option (List Nat)) (b : List Nat) : Option (List Nat) := putRaw (putNum S b.length) b
/-- A rising row: what stands ahead of the k-th number is l. -/
def ahead (f : Nat → Int) : Nat → Int
  | 0 => -1
  | k + 1 => f k
def putGap (S : Option (List Nat)) (a n : Int) : Option (List Nat) := if n ≤ a ∨ (maxNum : Int) < n then none else putNum S (n - a - 1)
def putRow (S : Option (List Nat)) (f : Nat → Int) : Nat → Option (List Nat)
  | 0 => S
  | k + 1 => putGap (putRow S f k) (ahead f k) (f k)
def putRising (S : Option (List Nat)) (f : Nat → Int) (n : Nat) : Option (List Nat) := putRow (putNum S n) f n

/-! ### What is got: none is a reader that failed. -/
def getNum (most : Int) : Option (List Nat) → Nat × Option (List Nat)
  | none => (0, none)
  | some L => match pN 6 0 L with
    | none => (0, none)
    | some (v, k) => if (v : Int) ≤ most ∧ v ≤ maxNum then (v, some (L.drop k)) else (0, none)
def getFix : Option (List Nat) → Nat × Option (List Nat)
  | none => (0, none)
  | some L => if L.length < 4 then (0, none) else (L.getD 0 0 + L.getD 1 0 * 256 + L.getD 2 0 * 65536 + L.getD 3 0 * 16777216, some (L.drop 4))
def getText (most : Int) (S : Option (List Nat)) : List Nat × Option (List Nat) :=
  match getNum most S with
  | (_, none) => ([], none)
  | (n, some L) => if L.length < n then ([], none) else (L.take n, some (L.drop n))
/-- The rest of a rising row: k numbers more, behind l. -/
def getRow (most : Int) : Nat → Int → Option (List Nat) → Option (List Int × List Nat)
  | _, _, none => none
  | 0, _, some L => some ([], L)
  | k + 1, l, some L => match getNum (min most maxNum - l - 1) (some L) with
    | (_, none) => none
    | (g, some L') => (getRow most k (l + 1 + g) (some L')).map fun x => ((l + 1 + g) :: x.1, x.2)
def getRising (many most : Int) (S : Option (List Nat)) : List Int × Option (List Nat) :=
  match getNum many S with
  | (n, S') => match getRow most n (-1) S' with
    | none => ([], none)
    | some (r, L) => (r, some L)

/-! ### Round after round, as the program reads a number -/
/-- How many bytes are gone through. -/
def yl : Nat → List Nat → Nat
  | 0, _ => 0
  | _ + 1, [] => 0
  | f + 1, b :: r => if b < 128 then 1 else 1 + yl f r
/-- The number of the first k bytes. -/
def acc (L : List Nat) : Nat → Nat
  | 0 => 0
  | k + 1 => acc L k + L.getD k 0 % 128 * 128 ^ k
theorem acc_cons (b : Nat) (r : List Nat) : ∀ k, acc (b :: r) (k + 1) = b % 128 + 128 * acc r k
  | 0 => by simp [acc]
  | k + 1 => by
    have h := acc_cons b r k
    have e : acc (b :: r) (k + 1 + 1) = acc (b :: r) (k + 1) + (b :: r).getD (k + 1) 0 % 128 * 128 ^ (k + 1) := rfl
    have e2 : acc r (k + 1) = acc r k + r.getD k 0 % 128 * 128 ^ k := rfl
    rw [e, h, e2, Nat.mul_add, List.getD_cons_succ, Nat.pow_succ]
    rw [Nat.add_assoc]
    congr 2
    rw [← Nat.mul_assoc, Nat.mul_comm _ 128]
theorem acc_lt (L : List Nat) : ∀ k, acc L k < 128 ^ k
  | 0 => by simp [acc]
  | k + 1 => by
    have h := acc_lt L k
    have e : acc L (k + 1) = acc L k + L.getD k 0 % 128 * 128 ^ k := rfl
    rw [e, Nat.pow_succ]
    have hm : L.getD k 0 % 128 ≤ 127 := by omega
    have := Nat.mul_le_mul_right (128 ^ k) hm
    omega
theorem yl_le : ∀ (f : Nat) (L : List Nat), yl f L ≤ L.length ∧ yl f L ≤ f
  | 0, L => by simp [yl]
  | f + 1, [] => by simp [yl]
  | f + 1, b :: r => by
    have := yl_le f r
    simp only [yl]
    split <;> simp <;> omega
/-- What the program tells of a number, out of what it has gone through. -/
theorem pN_yl : ∀ (f i : Nat) (L : List Nat), pN f i L =
    if yl f L = 0 ∨ 128 ≤ L.getD (yl f L - 1) 0 ∨ (L.getD (yl f L - 1) 0 = 0 ∧ 1 < yl f L + i) then none else some (acc L (yl f L), yl f L)
  | 0, i, L => by simp [pN, yl]
  | f + 1, i, [] => by simp [pN, yl]
  | f + 1, i, b :: r => by
    have h := pN_yl f (i + 1) r
    simp only [pN, yl]
    by_cases hb : b < 128
    · simp only [if_pos hb]
      by_cases h0 : b = 0 ∧ 0 < i
      · rw [if_pos h0, if_pos (by simp; omega)]
      · rw [if_neg h0, if_neg (by simp; omega), acc_cons]
        simp [acc]; omega
    · simp only [if_neg hb]
      rw [h]
      by_cases hy : yl f r = 0
      · rw [if_pos (.inl hy), if_pos (by simp [hy]; omega)]; rfl
      · have e : (b :: r).getD (1 + yl f r - 1) 0 = r.getD (yl f r - 1) 0 := by
          rw [show 1 + yl f r - 1 = (yl f r - 1) + 1 from by omega, List.getD_cons_succ]
        rw [e]
        by_cases hc : 128 ≤ r.getD (yl f r - 1) 0 ∨ (r.getD (yl f r - 1) 0 = 0 ∧ 1 < yl f r + (i + 1))
        · rw [if_pos (.inr hc), if_pos (.inr (by omega))]; rfl
        · rw [if_neg (by omega), if_neg (by omega), Nat.add_comm 1, acc_cons]
          simp
/-- Each byte but the last that is gone through goes on. -/
theorem yl_more : ∀ (f : Nat) (L : List Nat) (j : Nat), j + 1 < yl f L → 128 ≤ L.getD j 0
  | 0, L, j, h => by simp [yl] at h
  | f + 1, [], j, h => by simp [yl] at h
  | f + 1, b :: r, j, h => by
    simp only [yl] at h
    split at h
    · omega
    · cases j with
      | zero => simp; omega
      | succ j => rw [List.getD_cons_succ]; exact yl_more f r j (by omega)
/-- It ends at a byte that doesn't, at the end, or at the most that may be. -/
theorem yl_end : ∀ (f : Nat) (L : List Nat), yl f L = f ∨ yl f L = L.length ∨ (0 < yl f L ∧ L.getD (yl f L - 1) 0 < 128)
  | 0, L => by simp [yl]
  | f + 1, [] => by simp [yl]
  | f + 1, b :: r => by
    have h := yl_end f r
    simp only [yl]
    split
    · right; right; simp; assumption
    · rcases h with h | h | ⟨h1, h2⟩
      · left; omega
      · right; left; simp; omega
      · right; right
        refine ⟨by omega, ?_⟩
        rw [show 1 + yl f r - 1 = (yl f r - 1) + 1 from by omega, List.getD_cons_succ]
        exact h2
theorem yl_step (f : Nat) (L : List Nat) : ∀ j, j < f → j < L.length → (∀ i, i < j → 128 ≤ L.getD i 0) → j < yl f L := by
  induction f generalizing L with
  | zero => intro j h; omega
  | succ f ih =>
    intro j h1 h2 h3
    cases L with
    | nil => simp at h2
    | cons b r =>
      simp only [yl]
      cases j with
      | zero => split <;> omega
      | succ j =>
        have hb := h3 0 (by omega)
        simp at hb
        rw [if_neg (by omega)]
        have := ih r j (by omega) (by simpa using h2) (fun i hi => by have := h3 (i + 1) (by omega); rwa [List.getD_cons_succ] at this)
        omega
theorem or_add (a b k : Nat) (h : a < 2 ^ k) : a ||| b * 2 ^ k = a + b * 2 ^ k := by
  have := Nat.two_pow_add_eq_or_of_lt (i := k) (b := a) h b
  rw [Nat.or_comm, Nat.mul_comm b, ← this, Nat.add_comm]

/-! ### Lengths -/
def szO : Option (List Nat) → Nat
  | none => 0
  | some xs => xs.length
def byO : Option (List Nat) → Prop
  | none => True
  | some xs => ∀ b ∈ xs, b < 256
theorem putNum_sz (S : Option (List Nat)) (n : Int) : szO (putNum S n) ≤ szO S + 6 := by
  cases S with
  | none => simp [putNum, szO]
  | some xs =>
    simp only [putNum]
    split
    · rename_i h
      have := encN_len6 (n := n.toNat) (by omega)
      simp [szO]; omega
    · simp [szO]
theorem putNum_by (S : Option (List Nat)) (n : Int) (h : byO S) : byO (putNum S n) := by
  cases S with
  | none => trivial
  | some xs =>
    simp only [putNum]
    split
    · intro b hb
      rcases List.mem_append.1 hb with hb | hb
      · exact h b hb
      · exact encN_lt _ b hb
    · trivial
theorem putNums_sz (S : Option (List Nat)) (f : Nat → Int) : ∀ n, szO (putNums S f n) ≤ szO S + 6 * n
  | 0 => by simp [putNums]
  | n + 1 => by
    have := putNums_sz S f n
    have := putNum_sz (putNums S f n) (f n)
    show szO (putNum (putNums S f n) (f n)) ≤ _
    omega
theorem putNums_by (S : Option (List Nat)) (f : Nat → Int) (h : byO S) : ∀ n, byO (putNums S f n)
  | 0 => h
  | n + 1 => putNum_by _ _ (putNums_by S f h n)
theorem putRaw_sz (S : Option (List Nat)) (b : List Nat) : szO (putRaw S b) ≤ szO S + b.length := by
  cases S <;> simp [putRaw, szO]
theorem putRaw_by (S : Option (List Nat)) (b : List Nat) (h : byO S) (hb : ∀ x ∈ b, x < 256) : byO (putRaw S b) := by
  cases S with
  | none => trivial
  | some xs =>
    intro x hx
    rcases List.mem_append.1 hx with hx | hx
    · exact h x hx
    · exact hb x hx
theorem fixB_lt (n : Nat) : ∀ x ∈ fixB n, x < 256 := by
  intro x hx
  simp [fixB] at hx
  omega
theorem putText_sz (S : Option (List Nat)) (b : List Nat) : szO (putText S b) ≤ szO S + 6 + b.length := by
  have := putRaw_sz (putNum S b.length) b
  have := putNum_sz S b.length
  unfold putText; omega
theorem putText_by (S : Option (List Nat)) (b : List Nat) (h : byO S) (hb : ∀ x ∈ b, x < 256) : byO (putText S b) := putRaw_by _ _ (putNum_by _ _ h) hb
theorem putGap_sz (S : Option (List Nat)) (a n : Int) : szO (putGap S a n) ≤ szO S + 6 := by
  unfold putGap
  split
  · simp [szO]
  · exact putNum_sz _ _
theorem putGap_by (S : Option (List Nat)) (a n : Int) (h : byO S) : byO (putGap S a n) := by
  unfold putGap
  split
  · trivial
  · exact putNum_by _ _ h
theorem putRow_sz (S : Option (List Nat)) (f : Nat → Int) : ∀ n, szO (putRow S f n) ≤ szO S + 6 * n
  | 0 => by simp [putRow]
  | n + 1 => by
    have := putRow_sz S f n
    have := putGap_sz (putRow S f n) (ahead f n) (f n)
    show szO (putGap (putRow S f n) (ahead f n) (f n)) ≤ _
    omega
theorem putRow_by (S : Option (List Nat)) (f : Nat → Int) (h : byO S) : ∀ n, byO (putRow S f n)
  | 0 => h
  | n + 1 => putGap_by _ _ _ (putRow_by S f h n)
theorem putRising_sz (S : Option (List Nat)) (f : Nat → Int) (n : Nat) : szO (putRising S f n) ≤ szO S + 6 + 6 * n := by
  have := putRow_sz (putNum S n) f n
  have := putNum_sz S n
  unfold putRising; omega
theorem putRising_by (S : Option (List Nat)) (f : Nat → Int) (n : Nat) (h : byO S) : byO (putRising S f n) := putRow_by _ _ (putNum_by _ _ h) n
theorem putRow_none (f : Nat → Int) : ∀ n, putRow none f n = none
  | 0 => rfl
  | n + 1 => by
    show putGap (putRow none f n) _ _ = none
    rw [putRow_none f n]
    unfold putGap; split <;> rfl

/-! ### What is put is got -/
theorem getNum_put (n : Nat) (most : Int) (rest : List Nat) (h : (n : Int) ≤ most) (hm : n ≤ maxNum) : getNum most (some (encN n ++ rest)) = (n, some rest) := by
  unfold getNum
  simp only [pN_enc n 6 0 rest (encN_len6 hm) (by omega)]
  rw [if_pos ⟨h, hm⟩, List.drop_left]
theorem getFix_put (n : Nat) (rest : List Nat) (h : n < 4294967296) : getFix (some (fixB n ++ rest)) = (n, some rest) := by
  have e : n % 256 + n / 256 % 256 * 256 + n / 65536 % 256 * 65536 + n / 16777216 % 256 * 16777216 = n := by omega
  simp [getFix, fixB, e]
theorem getText_put (b rest : List Nat) (hm : b.length ≤ maxNum) : getText b.length (some (encN b.length ++ (b ++ rest))) = (b, some rest) := by
  unfold getText
  rw [getNum_put _ _ _ (Int.le_refl _) hm]
  simp
/-- The bytes of m numbers of a row, from the i-th on. -/
def gp (f : Nat → Int) : Nat → Nat → List Nat
  | _, 0 => []
  | i, m + 1 => encN (f i - ahead f i - 1).toNat ++ gp f (i + 1) m
theorem gp_snoc (f : Nat → Int) : ∀ m i, gp f i (m + 1) = gp f i m ++ encN (f (i + m) - ahead f (i + m) - 1).toNat
  | 0, i => by simp [gp]
  | m + 1, i => by
    have h := gp_snoc f m (i + 1)
    show encN _ ++ gp f (i + 1) (m + 1) = (encN _ ++ gp f (i + 1) m) ++ _
    rw [h, List.append_assoc, show i + 1 + m = i + (m + 1) from by omega]
/-- A row that rises. -/
def rises (f : Nat → Int) (n : Nat) : Prop := ∀ k, k < n → ahead f k < f k ∧ f k ≤ maxNum
theorem putRow_rises (xs : List Nat) (f : Nat → Int) (n : Nat) (h : rises f n) : putRow (some xs) f n = some (xs ++ gp f 0 n) := by
  induction n with
  | zero => simp [putRow, gp]
  | succ n ih =>
    have hk := h n (by omega)
    have ha : -1 ≤ ahead f n := by
      cases n with
      | zero => simp [ahead]
      | succ m =>
        have : ∀ k, k ≤ m → -1 ≤ f k := by
          intro k
          induction k with
          | zero => intro _; have := (h 0 (by omega)).1; simp only [ahead] at this; omega
          | succ k ihk => intro hk2; have h1 := (h (k + 1) (by omega)).1; have := ihk (by omega); simp only [ahead] at h1; omega
        exact this m (by omega)
    show putGap (putRow (some xs) f n) (ahead f n) (f n) = _
    rw [ih (fun k hk => h k (by omega))]
    unfold putGap putNum
    rw [if_neg (by omega)]
    simp only []
    rw [if_pos (by omega), gp_snoc, List.append_assoc, Nat.zero_add]
theorem ahead_low (f : Nat → Int) (n : Nat) (h : rises f n) : ∀ k, k ≤ n → -1 ≤ ahead f k
  | 0, _ => by simp [ahead]
  | k + 1, hk => by
    have := ahead_low f n h k (by omega)
    have := (h k (by omega)).1
    show -1 ≤ f k
    omega
theorem getRow_put (f : Nat → Int) (n : Nat) (most : Int) (hm : (maxNum : Int) ≤ most) (rest : List Nat) (h : rises f n) : ∀ m i, i + m ≤ n →
    getRow most m (ahead f i) (some (gp f i m ++ rest)) = some ((List.range m).map (fun j => f (i + j)), rest)
  | 0, i, _ => by simp [gp, getRow]
  | m + 1, i, hi => by
    have hk := h i (by omega)
    have hl := ahead_low f n h i (by omega)
    have hmin : min most (maxNum : Int) = maxNum := by omega
    simp only [gp, getRow, List.append_assoc, hmin]
    rw [getNum_put _ _ _ (by omega) (by omega)]
    have e : ahead f i + 1 + ((f i - ahead f i - 1).toNat : Int) = f i := by omega
    have e2 : f i = ahead f (i + 1) := rfl
    simp only [e]
    have ih := getRow_put f n most hm rest h m (i + 1) (by omega)
    rw [← e2] at ih
    rw [ih, List.range_succ_eq_map]
    simp [Function.comp_def, Nat.add_assoc, Nat.add_comm 1]
theorem getRising_put (f : Nat → Int) (n : Nat) (rest : List Nat) (hn : n ≤ maxNum) (h : rises f n) :
    getRising n maxNum (some (encN n ++ (gp f 0 n ++ rest))) = ((List.range n).map f, some rest) := by
  unfold getRising
  rw [getNum_put _ _ _ (Int.le_refl _) hn]
  have h1 := getRow_put f n maxNum (Int.le_refl _) rest h n 0 (by omega)
  simp only [ahead] at h1
  simp [h1]
end Go.Proofs.YtppdbinppibjhaaGreatDoor

/-
  Plain mathematics of the sums of bytes (CRC-32): taking bits and bytes, linearity, the table's step, bursts. No program in it.
-/
namespace Go.Proofs.YtppdbinppibjhaaGreatDoor

/-- Taking a bit into a number. -/
def bitN (s : Nat) (b : Bool) : Nat := if (decide (s % 2 = 1)) != b then (s / 2) ^^^ 3988292384 else s / 2
/-- Taking a zero bit. -/
def zN (s : Nat) : Nat := bitN s false
/-- Taking k zero bits. -/
def zsN : Nat → Nat → Nat
  | 0, s => s
  | k + 1, s => zsN k (zN s)
/-- Taking the first k bits of m, the lowest first. -/
def bitsN : Nat → Nat → Nat → Nat
  | 0, s, _ => s
  | k + 1, s, m => bitsN k (bitN s (decide (m % 2 = 1))) (m / 2)
/-- Taking a byte. -/
def byteN (s b : Nat) : Nat := bitsN 8 s b
/-- Taking n bytes. -/
def updN (s : Nat) (z : Nat → Nat) : Nat → Nat
  | 0 => s
  | n + 1 => byteN (updN s z n) (z n)
def notN (s : Nat) : Nat := 4294967295 - s
/-- The sum gone on from s by n bytes. -/
def goN (s : Nat) (z : Nat → Nat) (n : Nat) : Nat := notN (updN (notN s) z n)
/-- The sum of n bytes. -/
def sumN (z : Nat → Nat) (n : Nat) : Nat := goN 0 z n

theorem mod2_cases (m : Nat) : m % 2 = 0 ∨ m % 2 = 1 := by omega
theorem xor_mod2 (a b : Nat) : (a ^^^ b) % 2 = (a % 2 + b % 2) % 2 := by
  rw [← Nat.and_one_is_mod, ← Nat.and_one_is_mod, ← Nat.and_one_is_mod, Nat.and_xor_distrib_right]
  simp only [Nat.and_one_is_mod]
  rcases mod2_cases a with h | h <;> rcases mod2_cases b with g | g <;> simp [h, g]
theorem xor_div2 (a b : Nat) : (a ^^^ b) / 2 = a / 2 ^^^ b / 2 := by
  have h := @Nat.shiftRight_xor_distrib 1 a b
  simpa [Nat.shiftRight_succ] using h
theorem bitN_xor (s t : Nat) (a b : Bool) : bitN (s ^^^ t) (a ^^ b) = bitN s a ^^^ bitN t b := by
  unfold bitN
  rw [xor_div2, xor_mod2]
  rcases mod2_cases s with h | h <;> rcases mod2_cases t with g | g <;> cases a <;> cases b <;> simp [h, g] <;>
    first
    | (rw [Nat.xor_assoc]; done)
    | (rw [Nat.xor_assoc, Nat.xor_assoc, Nat.xor_comm 3988292384 (t / 2)]; done)
    | (rw [Nat.xor_assoc, Nat.xor_comm 3988292384 (t / 2), ← Nat.xor_assoc]; done)
    | (rw [Nat.xor_assoc, ← Nat.xor_assoc 3988292384, Nat.xor_comm 3988292384 (t / 2), Nat.xor_assoc (t / 2), Nat.xor_self, Nat.xor_zero])
theorem bitN_lt (s : Nat) (b : Bool) (h : s < 4294967296) : bitN s b < 4294967296 := by
  unfold bitN
  split
  · exact Nat.xor_lt_two_pow (n := 32) (by omega) (by omega)
  · omega
theorem bitsN_lt (k : Nat) : ∀ s m, s < 4294967296 → bitsN k s m < 4294967296 := by
  induction k with
  | zero => intro s m h; exact h
  | succ k ih => intro s m h; exact ih _ _ (bitN_lt _ _ h)
theorem byteN_lt (s b : Nat) (h : s < 4294967296) : byteN s b < 4294967296 := bitsN_lt 8 s b h
theorem updN_lt (s : Nat) (z : Nat → Nat) (h : s < 4294967296) : ∀ n, updN s z n < 4294967296
  | 0 => h
  | n + 1 => byteN_lt _ _ (updN_lt s z h n)
theorem notN_lt (s : Nat) : notN s < 4294967296 := by unfold notN; omega
theorem notN_notN (s : Nat) (h : s < 4294967296) : notN (notN s) = s := by unfold notN; omega
theorem goN_lt (s : Nat) (z : Nat → Nat) (n : Nat) : goN s z n < 4294967296 := notN_lt _
theorem sumN_lt (z : Nat → Nat) (n : Nat) : sumN z n < 4294967296 := notN_lt _

theorem updN_succ (s : Nat) (z : Nat → Nat) (n : Nat) : updN s z (n + 1) = byteN (updN s z n) (z n) := rfl
theorem updN_congr (s : Nat) (z y : Nat → Nat) : ∀ n, (∀ i, i < n → z i = y i) → updN s z n = updN s y n
  | 0, _ => rfl
  | n + 1, h => by rw [updN_succ, updN_succ, updN_congr s z y n (fun i hi => h i (by omega)), h n (by omega)]
theorem updN_add (s : Nat) (z : Nat → Nat) (a : Nat) : ∀ b, updN s z (a + b) = updN (updN s z a) (fun i => z (a + i)) b
  | 0 => rfl
  | b + 1 => by rw [← Nat.add_assoc, updN_succ, updN_succ, updN_add s z a b]
theorem sumN_congr (z y : Nat → Nat) (n : Nat) (h : ∀ i, i < n → z i = y i) : sumN z n = sumN y n := by
  unfold sumN goN; rw [updN_congr _ z y n h]
/-- A sum goes on where it ended. -/
theorem goN_goN (s : Nat) (z : Nat → Nat) (a b : Nat) : goN (goN s z a) (fun i => z (a + i)) b = goN s z (a + b) := by
  unfold goN
  rw [notN_notN _ (updN_lt _ _ (notN_lt _) _), updN_add]

theorem bitsN_xor (k : Nat) : ∀ s t m n, bitsN k (s ^^^ t) (m ^^^ n) = bitsN k s m ^^^ bitsN k t n := by
  induction k with
  | zero => intro s t m n; rfl
  | succ k ih =>
    intro s t m n
    have e : decide ((m ^^^ n) % 2 = 1) = (decide (m % 2 = 1) ^^ decide (n % 2 = 1)) := by
      rw [xor_mod2]
      rcases mod2_cases m with h | h <;> rcases mod2_cases n with g | g <;> simp [h, g]
    show bitsN k (bitN (s ^^^ t) (decide ((m ^^^ n) % 2 = 1))) ((m ^^^ n) / 2) = _
    rw [e, bitN_xor, xor_div2, ih]
    rfl
theorem byteN_xor (s t m n : Nat) : byteN (s ^^^ t) (m ^^^ n) = byteN s m ^^^ byteN t n := bitsN_xor 8 s t m n
theorem updN_xor (s t : Nat) (z y : Nat → Nat) : ∀ n, updN (s ^^^ t) (fun i => z i ^^^ y i) n = updN s z n ^^^ updN t y n
  | 0 => rfl
  | n + 1 => by rw [updN_succ, updN_xor s t z y n, byteN_xor]; rfl

theorem bitsN_zero (k : Nat) : ∀ s, bitsN k s 0 = zsN k s := by
  induction k with
  | zero => intro s; rfl
  | succ k ih => intro s; show bitsN k (bitN s false) 0 = _; rw [ih]; rfl
theorem zsN_xor (k s t : Nat) : zsN k (s ^^^ t) = zsN k s ^^^ zsN k t := by
  have := bitsN_xor k s t 0 0
  simpa [bitsN_zero] using this
/-- A bit taken is the number turned by it, and a zero bit taken. -/
theorem bits_eq (k : Nat) : ∀ s m, bitsN k s (m % 2 ^ k) = zsN k (s ^^^ (m % 2 ^ k)) := by
  induction k with
  | zero => intro s m; simp [bitsN, zsN, Nat.mod_one]
  | succ k ih =>
    intro s m
    have e2 : m % 2 ^ (k + 1) / 2 = (m / 2) % 2 ^ k := by
      rw [Nat.pow_succ, Nat.mul_comm, Nat.mod_mul_right_div_self]
    have e1 : m % 2 ^ (k + 1) % 2 = m % 2 := by
      rw [Nat.pow_succ, Nat.mul_comm, Nat.mod_mul_right_mod]
    show bitsN k (bitN s (decide (m % 2 ^ (k + 1) % 2 = 1))) (m % 2 ^ (k + 1) / 2) = zsN k (zN (s ^^^ m % 2 ^ (k + 1)))
    rw [e2, ih]
    congr 1
    unfold zN bitN
    rw [xor_div2, e2, xor_mod2, e1]
    rcases mod2_cases s with h | h <;> rcases mod2_cases m with g | g <;> simp [h, g] <;>
      first
      | rfl
      | (rw [Nat.xor_assoc, Nat.xor_assoc, Nat.xor_comm 3988292384])
theorem byte_eq (s b : Nat) (hb : b < 256) : byteN s b = zsN 8 (s ^^^ b) := by
  have := bits_eq 8 s b
  rwa [Nat.mod_eq_of_lt hb] at this
theorem zsN_shl (k : Nat) : ∀ h, zsN k (h * 2 ^ k) = h := by
  induction k with
  | zero => intro h; simp [zsN]
  | succ k ih =>
    intro h
    have e : zN (h * 2 ^ (k + 1)) = h * 2 ^ k := by
      unfold zN bitN
      have a : h * 2 ^ (k + 1) = 2 * (h * 2 ^ k) := by rw [Nat.pow_succ, ← Nat.mul_assoc, Nat.mul_comm]
      rw [a]
      simp
    show zsN k (zN (h * 2 ^ (k + 1))) = h
    rw [e, ih]
/-- The table's step: a byte is taken by what 0 becomes by one byte. -/
theorem table_step (s b : Nat) (hb : b < 256) : byteN 0 ((s % 256) ^^^ b) ^^^ s / 256 = byteN s b := by
  have hx : (s % 256) ^^^ b < 256 := Nat.xor_lt_two_pow (n := 8) (by omega) (by omega)
  rw [byte_eq _ _ hx, byte_eq s b hb, Nat.zero_xor]
  have e : s ^^^ b = ((s % 256) ^^^ b) ^^^ (s / 256 * 2 ^ 8) := by
    have d : s = (s % 256) ^^^ (s / 256 * 2 ^ 8) := by
      have h1 : s % 256 ^^^ s / 256 * 2 ^ 8 = s / 256 * 2 ^ 8 + s % 256 := by
        rw [Nat.xor_comm]
        apply Nat.eq_of_testBit_eq
        intro i
        rw [Nat.testBit_xor, Nat.mul_comm, Nat.testBit_two_pow_mul, Nat.testBit_two_pow_mul_add _ (by omega)]
        by_cases h : i < 8
        · have h8 : ¬ 8 ≤ i := by omega
          simp [h8]
        · have h8 : 8 ≤ i := by omega
          have h9 : (s % 256).testBit i = false := Nat.testBit_lt_two_pow (Nat.lt_of_lt_of_le (Nat.mod_lt s (by omega)) (Nat.pow_le_pow_right (by omega) h8 : 2 ^ 8 ≤ 2 ^ i))
          simp [h9, h8]
      omega
    calc s ^^^ b = ((s % 256) ^^^ (s / 256 * 2 ^ 8)) ^^^ b := by rw [← d]
      _ = _ := by rw [Nat.xor_assoc, Nat.xor_comm _ b, Nat.xor_assoc]
  rw [e, zsN_xor 8 ((s % 256) ^^^ b), zsN_shl]

theorem zN_pos (s : Nat) (h : 0 < s) (hl : s < 4294967296) : 0 < zN s := by
  unfold zN bitN
  split
  · rcases Nat.eq_zero_or_pos (s / 2 ^^^ 3988292384) with e | e
    · have h2 : s / 2 = 3988292384 := by
        have h3 := congrArg (· ^^^ 3988292384) e
        simpa [Nat.xor_assoc] using h3
      omega
    · exact e
  · rename_i hh
    simp at hh
    omega
theorem zN_lt (s : Nat) (hl : s < 4294967296) : zN s < 4294967296 := bitN_lt _ _ hl
theorem zsN_pos (k : Nat) : ∀ s, 0 < s → s < 4294967296 → 0 < zsN k s := by
  induction k with
  | zero => intro s h _; exact h
  | succ k ih => intro s h hl; exact ih _ (zN_pos s h hl) (zN_lt s hl)

/-! ### Bits in a row; a burst -/
/-- Taking the first n of the bits f. -/
def seqN (s : Nat) (f : Nat → Bool) : Nat → Nat
  | 0 => s
  | n + 1 => bitN (seqN s f n) (f n)
theorem seqN_succ (s : Nat) (f : Nat → Bool) (n : Nat) : seqN s f (n + 1) = bitN (seqN s f n) (f n) := rfl
theorem seqN_add (s : Nat) (f : Nat → Bool) (a : Nat) : ∀ b, seqN s f (a + b) = seqN (seqN s f a) (fun i => f (a + i)) b
  | 0 => rfl
  | b + 1 => by rw [← Nat.add_assoc, seqN_succ, seqN_succ, seqN_add s f a b]
theorem seqN_congr (s : Nat) (f g : Nat → Bool) : ∀ n, (∀ i, i < n → f i = g i) → seqN s f n = seqN s g n
  | 0, _ => rfl
  | n + 1, h => by rw [seqN_succ, seqN_succ, seqN_congr s f g n (fun i hi => h i (by omega)), h n (by omega)]
theorem seqN_bits (k : Nat) : ∀ s m, seqN s (fun i => m.testBit i) k = bitsN k s m := by
  induction k with
  | zero => intro s m; rfl
  | succ k ih =>
    intro s m
    rw [show seqN s (fun i => m.testBit i) (k + 1) = seqN (seqN s (fun i => m.testBit i) 1) (fun i => m.testBit (1 + i)) k from by rw [Nat.add_comm]; exact seqN_add s _ 1 k]
    show seqN (bitN s (m.testBit 0)) (fun i => m.testBit (1 + i)) k = bitsN k (bitN s (decide (m % 2 = 1))) (m / 2)
    rw [← ih, Nat.testBit_zero]
    apply seqN_congr
    intro i _
    rw [Nat.add_comm, Nat.testBit_succ]
theorem seqN_zeros (s : Nat) (f : Nat → Bool) (n : Nat) (h : ∀ i, i < n → f i = false) : seqN s f n = zsN n s := by
  rw [← bitsN_zero, ← seqN_bits]
  apply seqN_congr
  intro i hi
  rw [h i hi]; simp
theorem zsN_zero (k : Nat) : zsN k 0 = 0 := by
  have := zsN_shl k 0
  simpa using this
theorem updN_bits (s : Nat) (z : Nat → Nat) : ∀ n, updN s z n = seqN s (fun i => (z (i / 8)).testBit (i % 8)) (8 * n)
  | 0 => rfl
  | n + 1 => by
    rw [updN_succ, updN_bits s z n, Nat.mul_add, Nat.mul_one, seqN_add]
    unfold byteN
    rw [← seqN_bits]
    apply seqN_congr
    intro i hi
    have e1 : (8 * n + i) / 8 = n := by omega
    have e2 : (8 * n + i) % 8 = i := by omega
    rw [e1, e2]
/-- Bits that are those of m from a place on, k of them, and no others. -/
def spot (m a k : Nat) (i : Nat) : Bool := decide (a ≤ i) && (decide (i < a + k) && m.testBit (i - a))
theorem burst_pos (m a k n : Nat) (hk : k ≤ 32) (hn : a + k ≤ n) (hm : 0 < m % 2 ^ k) : 0 < seqN 0 (spot m a k) n := by
  obtain ⟨r, rfl⟩ : ∃ r, n = a + (k + r) := ⟨n - (a + k), by omega⟩
  rw [seqN_add, seqN_add, seqN_zeros 0 _ a (by intro i hi; simp [spot]; omega), zsN_zero]
  have e : seqN 0 (fun i => spot m a k (a + i)) k = bitsN k 0 (m % 2 ^ k) := by
    rw [← seqN_bits]
    apply seqN_congr
    intro i hi
    simp [spot, hi, Nat.testBit_mod_two_pow]
  rw [e, bits_eq, Nat.zero_xor]
  have hb : m % 2 ^ k < 4294967296 := Nat.lt_of_lt_of_le (Nat.mod_lt _ (Nat.two_pow_pos k)) (Nat.pow_le_pow_right (by omega) hk : 2 ^ k ≤ 2 ^ 32)
  rw [seqN_zeros _ _ r (by intro i hi; simp [spot]; omega)]
  refine zsN_pos r _ (zsN_pos k _ hm hb) ?_
  have := bitsN_lt k (m % 2 ^ k) 0 hb
  rwa [bitsN_zero] at this
/-- The row b with the first k bits of m turned from bit a on. -/
def turnN (b : Nat → Nat) (m a : Nat) : Nat → Nat → Nat
  | 0 => b
  | k + 1 => fun j => if m.testBit k = true ∧ j = (a + k) / 8 then turnN b m a k j ^^^ 2 ^ ((a + k) % 8) else turnN b m a k j
theorem turnN_succ (b : Nat → Nat) (m a k j : Nat) : turnN b m a (k + 1) j = if m.testBit k = true ∧ j = (a + k) / 8 then turnN b m a k j ^^^ 2 ^ ((a + k) % 8) else turnN b m a k j := rfl
theorem turnN_lt (b : Nat → Nat) (m a : Nat) (hb : ∀ j, b j < 256) : ∀ k j, turnN b m a k j < 256
  | 0, j => hb j
  | k + 1, j => by
    rw [turnN_succ]
    split
    · exact Nat.xor_lt_two_pow (n := 8) (turnN_lt b m a hb k j) (Nat.pow_lt_pow_right (by omega) (by omega))
    · exact turnN_lt b m a hb k j
theorem turnN_bit (b : Nat → Nat) (m a : Nat) : ∀ k j t, t < 8 → (turnN b m a k j).testBit t = ((b j).testBit t ^^ spot m a k (8 * j + t))
  | 0, j, t, _ => by
    have : spot m a 0 (8 * j + t) = false := by simp [spot]; omega
    rw [this]; simp [turnN]
  | k + 1, j, t, h => by
    rw [turnN_succ]
    have ih := turnN_bit b m a k j t h
    by_cases hc : m.testBit k = true ∧ j = (a + k) / 8
    · rw [if_pos hc, Nat.testBit_xor, ih, Nat.testBit_two_pow]
      by_cases ht : (a + k) % 8 = t
      · have e : 8 * j + t = a + k := by omega
        rw [e]
        have e1 : a + k - a = k := by omega
        simp [spot, ht, e1, hc.1]
      · have e : spot m a (k + 1) (8 * j + t) = spot m a k (8 * j + t) := by
          unfold spot
          have : decide (8 * j + t < a + (k + 1)) = decide (8 * j + t < a + k) := by
            apply decide_eq_decide.2; constructor <;> intro h' <;> omega
          rw [this]
        rw [e]; simp [ht]
    · rw [if_neg hc, ih]
      congr 1
      by_cases hq : 8 * j + t = a + k
      · have hj : j = (a + k) / 8 := by omega
        have hm : m.testBit k = false := by
          cases hx : m.testBit k with
          | false => rfl
          | true => exact absurd ⟨hx, hj⟩ hc
        rw [hq]
        have e1 : a + k - a = k := by omega
        simp [spot, e1, hm]
      · unfold spot
        have : decide (8 * j + t < a + (k + 1)) = decide (8 * j + t < a + k) := by
          apply decide_eq_decide.2; constructor <;> intro h' <;> omega
        rw [this]
/-- Rows that differ in one run of at most 32 bits have sums that differ. -/
theorem burst (b : Nat → Nat) (m a k n : Nat) (hk : k ≤ 32) (hn : a + k ≤ 8 * n) (hm : 0 < m % 2 ^ k) : sumN b n ≠ sumN (turnN b m a k) n := by
  intro h
  unfold sumN goN at h
  have l1 := updN_lt (notN 0) b (notN_lt _) n
  have l2 := updN_lt (notN 0) (turnN b m a k) (notN_lt _) n
  have e : updN (notN 0) b n = updN (notN 0) (turnN b m a k) n := by
    have := congrArg notN h
    rwa [notN_notN _ l1, notN_notN _ l2] at this
  have x := updN_xor (notN 0) (notN 0) b (turnN b m a k) n
  rw [e, Nat.xor_self, Nat.xor_self, updN_bits] at x
  have c : seqN 0 (fun i => (b (i / 8) ^^^ turnN b m a k (i / 8)).testBit (i % 8)) (8 * n) = seqN 0 (spot m a k) (8 * n) := by
    apply seqN_congr
    intro i _
    rw [Nat.testBit_xor, turnN_bit b m a k _ _ (by omega)]
    have : 8 * (i / 8) + i % 8 = i := by omega
    rw [this]
    cases (b (i / 8)).testBit (i % 8) <;> simp
  rw [c] at x
  have := burst_pos m a k (8 * n) hk hn hm
  omega
theorem mod_bit (m k : Nat) : m % 2 ^ (k + 1) = m % 2 ^ k + 2 ^ k * (m / 2 ^ k % 2) := Nat.mod_pow_succ
theorem testBit_iff (m k : Nat) : m.testBit k = true ↔ m / 2 ^ k % 2 = 1 := by
  rw [Nat.testBit_eq_decide_div_mod_eq]; simp
end Go.Proofs.YtppdbinppibjhaaGreatDoor

/-
  The sum of bytes that have their own sum behind them is always the same.
-/
namespace Go.Proofs.YtppdbinppibjhaaGreatDoor

def residueN : Nat := notN (zsN 32 4294967295)
/-- Four bytes of a word, taken one behind the other. -/
theorem updN_word (r s : Nat) (hs : s < 4294967296) (z : Nat → Nat) (h : ∀ i, i < 4 → z i = s / 256 ^ i % 256) : updN r z 4 = zsN 32 (r ^^^ s) := by
  rw [updN_bits]
  have hc : seqN r (fun i => (z (i / 8)).testBit (i % 8)) (8 * 4) = seqN r (fun i => s.testBit i) 32 := by
    refine seqN_congr r _ _ 32 (fun i hi => ?_)
    rw [h (i / 8) (by omega)]
    have e : (256 : Nat) ^ (i / 8) = 2 ^ (8 * (i / 8)) := by rw [Nat.pow_mul]
    rw [e, show (256 : Nat) = 2 ^ 8 from rfl, Nat.testBit_mod_two_pow, Nat.testBit_div_two_pow]
    have h8 : i % 8 < 8 := Nat.mod_lt _ (by omega)
    simp only [h8, decide_true, Bool.true_and]
    congr 1
    omega
  rw [hc, seqN_bits]
  have hb := bits_eq 32 r s
  rw [Nat.mod_eq_of_lt (show s < 2 ^ 32 from hs)] at hb
  exact hb
theorem xor_not (r : Nat) (h : r < 4294967296) : r ^^^ notN r = 4294967295 := by
  apply Nat.eq_of_testBit_eq
  intro i
  have e : notN r = 2 ^ 32 - (r + 1) := by unfold notN; omega
  rw [Nat.testBit_xor, e, Nat.testBit_two_pow_sub_succ (show r < 2 ^ 32 from h), show (4294967295 : Nat) = 2 ^ 32 - 1 from rfl, Nat.testBit_two_pow_sub_one]
  by_cases hi : i < 32
  · simp [hi]
  · have : r.testBit i = false := Nat.testBit_lt_two_pow (Nat.lt_of_lt_of_le h (show 2 ^ 32 ≤ 2 ^ i from Nat.pow_le_pow_right (by omega) (by omega)))
    simp [hi, this]
theorem residue (z : Nat → Nat) (n : Nat) (h : ∀ i, i < 4 → z (n + i) = sumN z n / 256 ^ i % 256) : sumN z (n + 4) = residueN := by
  have h2 : updN (notN 0) z (n + 4) = zsN 32 4294967295 := by
    rw [updN_add, updN_word _ (sumN z n) (sumN_lt z n) _ h]
    congr 1
    exact xor_not _ (updN_lt _ _ (notN_lt 0) n)
  show notN (updN (notN 0) z (n + 4)) = residueN
  rw [h2]; rfl
/-- Bytes with their sum behind them, hurt by a burst: the sum behind them is not theirs any more. -/
theorem burst_safe (b : Nat → Nat) (m a k n : Nat) (hk : k ≤ 32) (hn : a + k ≤ 8 * (n + 4)) (hm : 0 < m % 2 ^ k) (h : ∀ i, i < 4 → b (n + i) = sumN b n / 256 ^ i % 256) :
    ¬ ∀ i, i < 4 → turnN b m a k (n + i) = sumN (turnN b m a k) n / 256 ^ i % 256 := by
  intro h2
  exact burst b m a k (n + 4) hk hn hm ((residue b n h).trans (residue _ n h2).symm)
end Go.Proofs.YtppdbinppibjhaaGreatDoor
