/-
  The reference's Has and with.
-/
import Derived.Test.YtmnjicpgdhnimaaDoorSMath
namespace Go.Proofs.YtmnjicpgdhnimaaDoor
open Go.RowKit

/-- n without its lowest j bits. -/
def dn (n j : Nat) : Nat := n / 2 ^ j
theorem dn_succ (n j : Nat) : ((dn n j : Nat) : Int) / 2 = ((dn n (j + 1) : Nat) : Int) := by
  unfold dn
  rw [Nat.pow_succ, ← Nat.div_div_eq_div_mul]; rfl
theorem dn_lt (n j : Nat) (h : n < 18446744073709551616) : dn n j < 18446744073709551616 := Nat.lt_of_le_of_lt (Nat.div_le_self _ _) h
theorem dn_bit (n j : Nat) : (((dn n j : Nat) : Int) % 2 == 1) = n.testBit j := by
  unfold dn
  rw [Nat.testBit_eq_decide_div_mod_eq]
  generalize n / 2 ^ j = q
  rw [Bool.eq_iff_iff]
  simp
  omega
/-- Two to the j. -/
def up (j : Nat) : Nat := 2 ^ j
theorem up_succ (j : Nat) : 2 * ((up j : Nat) : Int) = ((up (j + 1) : Nat) : Int) := by
  unfold up
  rw [Nat.pow_succ]; omega
theorem up_lt (j : Nat) (h : j < 64) : up j < 9223372036854775809 := by
  have : 2 ^ j ≤ 2 ^ 63 := Nat.pow_le_pow_right (by omega) (by omega)
  unfold up; omega
theorem up_small (j : Nat) (h : j < 63) : up j < 4611686018427387905 := by
  have : 2 ^ j ≤ 2 ^ 62 := Nat.pow_le_pow_right (by omega) (by omega)
  unfold up; omega

set_option maxHeartbeats 1000000 in
theorem refHas_any (H : Nat → Bool) (b : Nat) (w : World) (hb : b < 256) :
    Calls Tryd.prog 31 #[sv H, .int .u8 b] w fun e w' => e = .returned (.bool (H b)) ∧ Below w.heap.size w w' := by
  obtain ⟨i, hi⟩ : ∃ i, b / 64 = i := ⟨_, rfl⟩
  obtain ⟨k, hk⟩ : ∃ k, b % 64 = k := ⟨_, rfl⟩
  have hi4 : i < 4 := by omega
  have hk64 : k < 64 := by omega
  have hb1 : (b : Int) / 64 = (i : Int) := by omega
  have hb2 : (b : Int) % 64 = (k : Int) := by omega
  have hbox : SBox (w.alloc (.cells (st H) 24)) w.heap.size H := heap_alloc_new _ _
  have hc := hbox.cell i hi4
  have hlt := wd_lt H i
  have e : (wd H i).testBit k = H b := by
    rw [wd_bit H i k hk64]; congr 1; omega
  have HE := hide e
  clear hbox hi hk e
  obtain ⟨n, hn⟩ : ∃ n, wd H i = n := ⟨_, rfl⟩
  rw [hn] at hc hlt HE
  clear hn
  unfold sv
  go_enter Tryd.func31, Tryd.ntmps31
  go_wp2_with fail
  go_loop [5, 6] (fun a j => ∃ m : Nat, m ≤ k ∧ j = .int .u8 m ∧ a = .int .u64 (dn n m : Nat)) (fun _ j => k - (intOf j).toNat)
  case atStart => exact ⟨0, by omega, rfl, by simp [dn]⟩
  case round =>
    obtain ⟨m, hm, rfl, rfl⟩ := hrel
    have hd := dn_lt n m hlt
    by_cases hlt : m < k
    · go_wp2_with fail
      go_round
      case rel => exact ⟨m + 1, by omega, by go_num, by rw [← dn_succ]⟩
      case measure => simp [intOf]; omega
    · obtain rfl : m = k := by omega
      go_wp2_with fail
      have e := HE.out
      have e2 := dn_bit n m
      rw [e2, e]
      go_ret
      exact ⟨rfl, (Below.refl _ _).alloc (Nat.le_refl _) _⟩
end Go.Proofs.YtmnjicpgdhnimaaDoor
