/-
  What a slice of bytes, and a slice of such, holds; rows of bytes taken: the reference's Update, crc.takeRow.
-/
import Derived.Test.YtpmldopbjlnknaaTab
namespace Go.Proofs.Ytpmldopbjlnknaa
open Go.RowKit

theorem not_u32 (s : Nat) (hs : s < 4294967296) : bits BinOp.xor IntKind.u32 IntKind.u32.max (s : Int) = ((notN s : Nat) : Int) := by
  have h := u32_xor_nat 4294967295 s (by omega) hs
  have e : 4294967295 ^^^ s = notN s := by
    have h1 := (BitVec.ofNat 32 s).toNat_not
    have h2 : (4294967295 : Nat) ^^^ s = (BitVec.allOnes 32 ^^^ BitVec.ofNat 32 s).toNat := by
      rw [BitVec.toNat_xor]; simp [Nat.mod_eq_of_lt hs]
    rw [h2, BitVec.allOnes_xor, h1]
    simp [notN, Nat.mod_eq_of_lt hs]
  rw [e] at h
  exact h
theorem no_bytes (s : Nat) (z : Nat → Nat) (hs : s < 4294967296) : goN s z 0 = s := notN_notN s hs

set_option maxHeartbeats 400000 in
theorem refUpdate_any (s : Nat) (a : Option Addr) (len cap : Nat) (z : Nat → Nat) (w : World) (hs : s < 4294967296) (hl : len ≤ 9223372036854775807) (hz : Byt w a len z) :
    Calls Try.prog 62 #[.int .u32 s, .slice a len cap] w fun e w' => e = .returned (.int .u32 (goN s z len : Nat)) ∧ w = w' := by
  have hN := not_u32 s hs
  go_enter Try.func62, Try.ntmps62
  go_wp2
  clear hN
  go_loop [0, 5] (fun x i => ∃ k : Nat, k ≤ len ∧ i = .int .i64 k ∧ x = .int .u32 (updN (notN s) z k : Nat)) (fun _ i => len - (intOf i).toNat)
  case atStart => exact ⟨0, by omega, rfl, rfl⟩
  case round =>
    obtain ⟨k, hk, rfl, rfl⟩ := hrel
    obtain ⟨hz1, hz2⟩ := hz
    have hx := updN_lt (notN s) z (notN_lt _) k
    by_cases hlt : k < len
    · obtain ⟨b, off, rfl, hc⟩ : ∃ b off, a = some ⟨b, off, none⟩ ∧ ∀ i, i < len → w.cell? ⟨b, off + i, none⟩ = some (.int .u8 (z i : Nat)) := by
        rcases hz2 with h | h
        · omega
        · exact h
      have hck := hc k hlt
      have hzk := hz1 k
      clear hc hz1
      go_wp2_with fail
      refine (refTake_any _ _ w hx hzk).mono ?_
      rintro e w1 ⟨rfl, rfl⟩
      go_wp2
      go_round
      case rel => exact ⟨k + 1, by omega, by go_num, rfl⟩
      case measure => simp [intOf]; omega
    · obtain rfl : k = len := by omega
      clear hz1 hz2
      have hN := not_u32 _ hx
      go_wp2
      go_ret
      exact ⟨rfl, rfl⟩

set_option maxRecDepth 100000 in
set_option maxHeartbeats 400000 in
theorem takeRow_any (tb : Nat) (s : Nat) (a : Option Addr) (len cap : Nat) (z : Nat → Nat) (w : World) (hs : s < 4294967296) (hl : len ≤ 9223372036854775807) (hT : w.heap[tb]? = some (.cells (tabArr 256) 134 (0, 0))) (hz : Byt w a len z) :
    Calls Try.prog 80 #[.pointer (some ⟨tb, 0, none⟩), .int .u32 s, .slice a len cap] w fun e w' => e = .returned (.int .u32 (updN s z len : Nat)) ∧ w = w' := by
  go_enter Try.func80, Try.ntmps80
  go_wp2
  go_loop [1, 11] (fun x i => ∃ k : Nat, k ≤ len ∧ i = .int .i64 k ∧ x = .int .u32 (updN s z k : Nat)) (fun _ i => len - (intOf i).toNat)
  case atStart => exact ⟨0, by omega, rfl, rfl⟩
  case round =>
    obtain ⟨k, hk, rfl, rfl⟩ := hrel
    obtain ⟨hz1, hz2⟩ := hz
    have hx := updN_lt s z hs k
    by_cases hlt : k < len
    · obtain ⟨b, off, rfl, hc⟩ : ∃ b off, a = some ⟨b, off, none⟩ ∧ ∀ i, i < len → w.cell? ⟨b, off + i, none⟩ = some (.int .u8 (z i : Nat)) := by
        rcases hz2 with h | h
        · omega
        · exact h
      have hck := hc k hlt
      have hzk := hz1 k
      obtain ⟨X, hX, hX256, hXs⟩ : ∃ X : Nat, bits BinOp.xor IntKind.u8 ((updN s z k : Int) % 256) (z k : Int) = (X : Int) ∧ X < 256 ∧ bits BinOp.xor IntKind.u32 ((byteN 0 X : Nat) : Int) ((updN s z k : Int) / 256) = ((updN s z (k + 1) : Nat) : Int) :=
        ⟨updN s z k % 256 ^^^ z k, by have h := u8_xor_nat (updN s z k % 256) (z k) (by omega) hzk; simpa using h, Nat.xor_lt_two_pow (n := 8) (by omega) (by omega), by
          have h := u32_xor_nat (byteN 0 (updN s z k % 256 ^^^ z k)) (updN s z k / 256) (byteN_lt _ _ (by omega)) (by omega)
          rw [table_step _ _ hzk, ← updN_succ] at h
          simpa using h⟩
      have hTc := tab_cell hT hX256
      rw [if_pos hX256] at hTc
      clear hc hz1 hT
      go_wp2
      go_round
      case rel => exact ⟨k + 1, by omega, by go_num, rfl⟩
      case measure => simp [intOf]; omega
    · obtain rfl : k = len := by omega
      clear hz1 hz2
      go_wp2
      go_ret
      exact ⟨rfl, rfl⟩
end Go.Proofs.Ytpmldopbjlnknaa
