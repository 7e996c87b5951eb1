/-
  What OnesCount64's text reckons is how many bits are set: byte by byte.
-/
import Derived.Test.YtmnjicpgdhnimaaDoorSOnes
namespace Go.Proofs.YtmnjicpgdhnimaaDoor
open Go.RowKit

/-- The byte m, n times. -/
def rep (m : Nat) : Nat → Nat
  | 0 => 0
  | n + 1 => 256 * rep m n + m
/-- Each of the n low bytes of x by t. -/
def mp (t : Nat → Nat) : Nat → Nat → Nat
  | 0, _ => 0
  | n + 1, x => 256 * mp t n (x / 256) + t (x % 256)
theorem and_split (a b m M : Nat) (ha : a < 256) (hm : m < 256) : (256 * b + a) &&& (256 * M + m) = 256 * (b &&& M) + (a &&& m) := by
  have ham : a &&& m < 256 := show _ < 2 ^ 8 from Nat.and_lt_two_pow _ hm
  refine Nat.eq_of_testBit_eq fun j => ?_
  have e1 := Nat.testBit_two_pow_mul_add b (i := 8) (b := a) ha j
  have e2 := Nat.testBit_two_pow_mul_add M (i := 8) (b := m) hm j
  have e3 := Nat.testBit_two_pow_mul_add (b &&& M) (i := 8) (b := a &&& m) ham j
  rw [show (2 : Nat) ^ 8 = 256 from rfl] at e1 e2 e3
  rw [Nat.testBit_and, e1, e2, e3]
  split
  · rw [Nat.testBit_and]
  · rw [Nat.testBit_and]
def t1 (a : Nat) : Nat := (a / 2 &&& 85) + (a &&& 85)
def t2 (a : Nat) : Nat := (a / 4 &&& 51) + (a &&& 51)
def t3 (a : Nat) : Nat := (a / 16 + a) % 16
theorem low1 : ∀ (r : Fin 2) (a : Fin 256), (128 * r.val + a.val / 2) &&& 85 = a.val / 2 &&& 85 := by decide +kernel
theorem low2 : ∀ (r : Fin 4) (a : Fin 256), (64 * r.val + a.val / 4) &&& 51 = a.val / 4 &&& 51 := by decide +kernel
theorem t1_lt : ∀ a : Fin 256, t1 a.val < 256 := by decide +kernel
theorem t21_lt : ∀ a : Fin 256, t2 (t1 a.val) % 16 ≤ 4 ∧ t2 (t1 a.val) / 16 ≤ 4 := by decide +kernel
theorem and15 : ∀ a : Fin 256, a.val &&& 15 = a.val % 16 := by decide +kernel
theorem f1_mp : ∀ (n x : Nat), (x / 2 &&& rep 85 n) + (x &&& rep 85 n) = mp t1 n x
  | 0, x => by simp [rep, mp]
  | n + 1, x => by
    have ih := f1_mp n (x / 256)
    obtain ⟨a, ha⟩ : ∃ a, x % 256 = a := ⟨_, rfl⟩
    obtain ⟨b, hb⟩ : ∃ b, x / 256 = b := ⟨_, rfl⟩
    have hx : x = 256 * b + a := by omega
    have ha' : a < 256 := by omega
    have hx2 : x / 2 = 256 * (b / 2) + (128 * (b % 2) + a / 2) := by omega
    unfold rep mp
    rw [hb] at ih
    rw [ha, hb, hx2, and_split _ _ _ _ (by omega) (by omega), hx, and_split _ _ _ _ ha' (by omega), low1 ⟨b % 2, by omega⟩ ⟨a, ha'⟩, ← ih]
    unfold t1
    dsimp only
    omega
theorem f2_mp : ∀ (n x : Nat), (x / 4 &&& rep 51 n) + (x &&& rep 51 n) = mp t2 n x
  | 0, x => by simp [rep, mp]
  | n + 1, x => by
    have ih := f2_mp n (x / 256)
    obtain ⟨a, ha⟩ : ∃ a, x % 256 = a := ⟨_, rfl⟩
    obtain ⟨b, hb⟩ : ∃ b, x / 256 = b := ⟨_, rfl⟩
    have hx : x = 256 * b + a := by omega
    have ha' : a < 256 := by omega
    have hx2 : x / 4 = 256 * (b / 4) + (64 * (b % 4) + a / 4) := by omega
    unfold rep mp
    rw [hb] at ih
    rw [ha, hb, hx2, and_split _ _ _ _ (by omega) (by omega), hx, and_split _ _ _ _ ha' (by omega), low2 ⟨b % 4, by omega⟩ ⟨a, ha'⟩, ← ih]
    unfold t2
    dsimp only
    omega
theorem mp_lt (t : Nat → Nat) (ht : ∀ a, a < 256 → t a < 256) : ∀ (n x : Nat), mp t n x < 256 ^ n
  | 0, _ => by simp [mp]
  | n + 1, x => by
    have ih := mp_lt t ht n (x / 256)
    have h := ht (x % 256) (by omega)
    unfold mp
    rw [Nat.pow_succ]
    omega
theorem mp_mp (t u : Nat → Nat) (ht : ∀ a, a < 256 → t a < 256) : ∀ (n x : Nat), mp u n (mp t n x) = mp (fun a => u (t a)) n x
  | 0, _ => rfl
  | n + 1, x => by
    have h := ht (x % 256) (by omega)
    have e1 : mp t (n + 1) x / 256 = mp t n (x / 256) := by
      show (256 * mp t n (x / 256) + t (x % 256)) / 256 = mp t n (x / 256)
      omega
    have e2 : mp t (n + 1) x % 256 = t (x % 256) := by
      show (256 * mp t n (x / 256) + t (x % 256)) % 256 = t (x % 256)
      omega
    rw [show mp u (n + 1) (mp t (n + 1) x) = 256 * mp u n (mp t (n + 1) x / 256) + u (mp t (n + 1) x % 256) from rfl, e1, e2, mp_mp t u ht n]
    rfl
def u2 (a : Nat) : Nat := t2 (t1 a)
theorem u2_nib (a : Nat) (ha : a < 256) : u2 a % 16 ≤ 4 ∧ u2 a / 16 ≤ 4 := t21_lt ⟨a, ha⟩
theorem mp_low (n x : Nat) : mp u2 n x % 16 ≤ 4 := by
  cases n with
  | zero => simp [mp]
  | succ n =>
    have h := (u2_nib (x % 256) (by omega)).1
    unfold mp
    omega
theorem f3_mp : ∀ (n x : Nat), (mp u2 n x / 16 + mp u2 n x) &&& rep 15 n = mp (fun a => t3 (u2 a)) n x
  | 0, x => by simp [rep, mp]
  | n + 1, x => by
    have ih := f3_mp n (x / 256)
    have hl := mp_low n (x / 256)
    have hu := u2_nib (x % 256) (by omega)
    unfold rep mp
    rw [← ih]
    obtain ⟨a, ha⟩ : ∃ a, u2 (x % 256) = a := ⟨_, rfl⟩
    obtain ⟨b, hb⟩ : ∃ b, mp u2 n (x / 256) = b := ⟨_, rfl⟩
    rw [hb] at hl
    rw [ha] at hu
    rw [ha, hb]
    have e : (256 * b + a) / 16 + (256 * b + a) = 256 * (b / 16 + b) + (16 * (b % 16) + a / 16 + a) := by omega
    have hc : 16 * (b % 16) + a / 16 + a < 256 := by omega
    rw [e, and_split _ _ _ _ hc (by omega), and15 ⟨_, hc⟩]
    unfold t3
    dsimp only
    omega
theorem mod_and (v m : Nat) (hm : m < 18446744073709551616) : v % 18446744073709551616 &&& m = v &&& m := by
  refine Nat.eq_of_testBit_eq fun j => ?_
  rw [Nat.testBit_and, Nat.testBit_and, show (18446744073709551616 : Nat) = 2 ^ 64 from rfl, Nat.testBit_mod_two_pow]
  by_cases h : j < 64
  · simp [h]
  · rw [show m.testBit j = false from Nat.testBit_lt_two_pow (Nat.lt_of_lt_of_le (show m < 2 ^ 64 from hm) (Nat.pow_le_pow_right (by decide) (by omega)))]
    simp
/-- How many of the first n are so. -/
def cnt (f : Nat → Bool) : Nat → Nat
  | 0 => 0
  | n + 1 => cnt f n + (if f n then 1 else 0)
def pc (a : Nat) : Nat := t3 (u2 a)
theorem pc_cnt : ∀ a : Fin 256, pc a.val = cnt (fun k => a.val.testBit k) 8 := by decide +kernel
theorem pc_le : ∀ a : Fin 256, pc a.val ≤ 8 := by decide +kernel
theorem o321 (x : Nat) : o3 (o2 (o1 x)) = mp pc 8 x := by
  have r1 : rep 85 8 = 6148914691236517205 := by decide
  have r2 : rep 51 8 = 3689348814741910323 := by decide
  have r3 : rep 15 8 = 1085102592571150095 := by decide
  have h1 : o1 x = mp t1 8 x := by
    unfold o1
    rw [← r1, f1_mp]
    exact Nat.mod_eq_of_lt (mp_lt t1 (fun a ha => t1_lt ⟨a, ha⟩) 8 x)
  have h2 : o2 (mp t1 8 x) = mp u2 8 x := by
    unfold o2
    rw [← r2, f2_mp, mp_mp t1 t2 (fun a ha => t1_lt ⟨a, ha⟩)]
    exact Nat.mod_eq_of_lt (mp_lt u2 (fun a ha => by have := u2_nib a ha; omega) 8 x)
  rw [h1, h2]
  unfold o3
  rw [mod_and _ _ (by omega), ← r3, f3_mp]
  rfl
theorem o654 (c0 c1 c2 c3 c4 c5 c6 c7 : Nat) (h0 : c0 ≤ 8) (h1 : c1 ≤ 8) (h2 : c2 ≤ 8) (h3 : c3 ≤ 8) (h4 : c4 ≤ 8) (h5 : c5 ≤ 8) (h6 : c6 ≤ 8) (h7 : c7 ≤ 8) (y : Nat)
    (hy : y = c0 + 256 * c1 + 65536 * c2 + 16777216 * c3 + 4294967296 * c4 + 1099511627776 * c5 + 281474976710656 * c6 + 72057594037927936 * c7) :
    o6 (o5 (o4 y)) % 128 = c0 + c1 + c2 + c3 + c4 + c5 + c6 + c7 := by
  have q4 : y / 256 = c1 + 256 * c2 + 65536 * c3 + 16777216 * c4 + 4294967296 * c5 + 1099511627776 * c6 + 281474976710656 * c7 := by omega
  have d4 : o4 y = (c0 + c1) + 256 * (c1 + c2) + 65536 * (c2 + c3) + 16777216 * (c3 + c4) + 4294967296 * (c4 + c5) + 1099511627776 * (c5 + c6) + 281474976710656 * (c6 + c7) + 72057594037927936 * c7 := by
    unfold o4
    rw [q4, Nat.mod_eq_of_lt (by omega)]
    omega
  clear q4 hy
  generalize o4 y = z at d4
  have q5 : z / 65536 = (c2 + c3) + 256 * (c3 + c4) + 65536 * (c4 + c5) + 16777216 * (c5 + c6) + 4294967296 * (c6 + c7) + 1099511627776 * c7 := by omega
  have d5 : o5 z = (c0 + c1 + c2 + c3) + 256 * (c1 + c2 + c3 + c4) + 65536 * (c2 + c3 + c4 + c5) + 16777216 * (c3 + c4 + c5 + c6) + 4294967296 * (c4 + c5 + c6 + c7) + 1099511627776 * (c5 + c6 + c7) + 281474976710656 * (c6 + c7) + 72057594037927936 * c7 := by
    unfold o5
    rw [q5, Nat.mod_eq_of_lt (by omega)]
    omega
  clear q5 d4
  generalize o5 z = v at d5
  have q6 : v / 4294967296 = (c4 + c5 + c6 + c7) + 256 * (c5 + c6 + c7) + 65536 * (c6 + c7) + 16777216 * c7 := by omega
  have d6 : o6 v = v + ((c4 + c5 + c6 + c7) + 256 * (c5 + c6 + c7) + 65536 * (c6 + c7) + 16777216 * c7) := by
    unfold o6
    rw [q6, Nat.mod_eq_of_lt (by omega)]
  rw [d6]
  omega
end Go.Proofs.YtmnjicpgdhnimaaDoor
