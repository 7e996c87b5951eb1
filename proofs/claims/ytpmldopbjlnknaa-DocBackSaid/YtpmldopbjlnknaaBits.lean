/-
  Contracts of the functions that take bits: crc.Bit, the reference's Bit and take.
-/
import Derived.Test.YtpmldopbjlnknaaKit
import Derived.Test.YtpmldopbjlnknaaMaths
import Derived.WalkKit
import Derived.WalkSpells
import Derived.WalkLawsBesides
namespace Go.Proofs.Ytpmldopbjlnknaa
open Go.RowKit

theorem low_bit (s : Nat) (hs : s < 4294967296) : (bits .and .u32 (s : Int) 1 == 1) = decide (s % 2 = 1) := by
  have h := u32_and_nat s 1 hs (by omega)
  rw [Nat.and_one_is_mod] at h
  have h' : bits .and .u32 (s : Int) 1 = ((s % 2 : Nat) : Int) := h
  rw [h', Bool.eq_iff_iff]; simp; omega
theorem low_bit8 (s : Nat) (hs : s < 256) : (bits .and .u8 (s : Int) 1 == 1) = decide (s % 2 = 1) := by
  have h := u8_and_nat s 1 hs (by omega)
  rw [Nat.and_one_is_mod] at h
  have h' : bits .and .u8 (s : Int) 1 = ((s % 2 : Nat) : Int) := h
  rw [h', Bool.eq_iff_iff]; simp; omega
theorem xor_poly (s : Nat) (hs : s < 4294967296) : bits .xor .u32 ((s : Int) / 2) 3988292384 = ((s / 2 ^^^ 3988292384 : Nat) : Int) := by
  have h := u32_xor_nat (s / 2) 3988292384 (by omega) (by omega)
  simpa using h
theorem bit_yes (s : Nat) (b : Bool) (hs : s < 4294967296) (h : (!(bits .and .u32 (s : Int) 1 == 1) == b) = true) : bits .xor .u32 ((s : Int) / 2) 3988292384 = ((bitN s b : Nat) : Int) := by
  rw [low_bit s hs] at h
  unfold bitN
  rw [if_pos (by simpa [bne] using h)]
  exact xor_poly s hs
theorem bit_no (s : Nat) (b : Bool) (hs : s < 4294967296) (h : (!(bits .and .u32 (s : Int) 1 == 1) == b) = false) : ((s : Int) / 2) = ((bitN s b : Nat) : Int) := by
  rw [low_bit s hs] at h
  unfold bitN
  rw [if_neg (by simpa [bne] using h)]
  simp

set_option maxHeartbeats 400000 in
theorem refBit_any (s : Nat) (b : Bool) (w : World) (hs : s < 4294967296) :
    Calls Try.prog 94 #[.int .u32 s, .bool b] w fun e w' => e = .returned (.int .u32 (bitN s b : Nat)) ∧ w = w' := by
  go_enter Try.func94, Try.ntmps94
  go_wp2
  · go_ret
    exact ⟨ret_int (bit_yes s b hs ‹_›), rfl⟩
  · go_ret
    exact ⟨ret_int (bit_no s b hs ‹_›), rfl⟩

set_option maxHeartbeats 400000 in
theorem crcBit_any (s : Nat) (b : Bool) (w : World) (hs : s < 4294967296) :
    Calls Try.prog 93 #[.int .u32 s, .bool b] w fun e w' => e = .returned (.int .u32 (bitN s b : Nat)) ∧ w = w' := by
  go_enter Try.func93, Try.ntmps93
  go_wp2
  · go_ret
    exact ⟨ret_int (bit_yes s b hs ‹_›), rfl⟩
  · go_ret
    exact ⟨ret_int (bit_no s b hs ‹_›), rfl⟩

/-- m without its lowest k bits. -/
def hiN (m k : Nat) : Nat := m / 2 ^ k
theorem hiN_lt (m k : Nat) (hm : m < 256) : hiN m k < 256 := Nat.lt_of_le_of_lt (Nat.div_le_self _ _) hm
theorem hiN_succ (m k : Nat) : ((hiN m k : Nat) : Int) / 2 = ((hiN m (k + 1) : Nat) : Int) := by
  unfold hiN
  rw [Nat.pow_succ, ← Nat.div_div_eq_div_mul]; rfl
theorem bitsN_snoc (s m k : Nat) (hm : m < 256) : bitN (bitsN k s m) (bits .and .u8 ((hiN m k : Nat) : Int) 1 == 1) = bitsN (k + 1) s m := by
  rw [low_bit8 _ (hiN_lt m k hm), ← seqN_bits, ← seqN_bits, seqN_succ, Nat.testBit_eq_decide_div_mod_eq]
  rfl

set_option maxHeartbeats 400000 in
theorem refTake_any (s m : Nat) (w : World) (hs : s < 4294967296) (hm : m < 256) :
    Calls Try.prog 83 #[.int .u32 s, .int .u8 m] w fun e w' => e = .returned (.int .u32 (byteN s m : Nat)) ∧ w = w' := by
  go_enter Try.func83, Try.ntmps83
  go_wp2
  go_loop [0, 1, 5] (fun a b i => ∃ k : Nat, k ≤ 8 ∧ i = .int .i64 k ∧ a = .int .u32 (bitsN k s m : Nat) ∧ b = .int .u8 (hiN m k : Nat)) (fun _ _ i => 8 - (intOf i).toNat)
  case atStart => exact ⟨0, by omega, rfl, rfl, by simp [hiN]⟩
  case round =>
    obtain ⟨k, hk, rfl, rfl, rfl⟩ := hrel
    have hl := bitsN_lt k s m hs
    by_cases hlt : k < 8
    · have HD := hiN_lt m k hm
      go_wp2_with fail
      refine (refBit_any _ _ _ hl).mono ?_
      rintro e w' ⟨rfl, rfl⟩
      go_wp2_with fail
      go_round
      case rel => exact ⟨k + 1, by omega, by go_num, by rw [bitsN_snoc s m k hm], by rw [← hiN_succ]⟩
      case measure => simp [intOf]; omega
    · obtain rfl : k = 8 := by omega
      go_wp2
      go_ret
      exact ⟨rfl, rfl⟩
end Go.Proofs.Ytpmldopbjlnknaa
