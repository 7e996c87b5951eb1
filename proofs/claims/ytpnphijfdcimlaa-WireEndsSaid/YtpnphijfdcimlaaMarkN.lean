/-
  The marks of any list and place.
-/
import Derived.Test.YtpnphijfdcimlaaKeeps
namespace Go.Proofs.Ytpnphijfdcimlaa
open Go.RowKit

/-- The mark of place i of list k, as a byte. -/
def markN (k i : Nat) : Nat := (1000003 * (k + 7) + i) * 11400714819323198485 % 18446744073709551616 / 72057594037927936 % 256
theorem markN_lt (k i : Nat) : markN k i < 256 := Nat.mod_lt _ (by omega)
theorem markN_eq (k i : Nat) : IntKind.u64.wrap ((1000003 * ((k : Int) + 7) + (i : Int)) * 11400714819323198485) / 72057594037927936 % 256 = ((markN k i : Nat) : Int) := by
  rw [IntKind.wrap_u64]; simp [markN]
set_option maxHeartbeats 400000 in
theorem markByteN (k i : Nat) (w : World) (hk : k ≤ 1000000) (hi : i ≤ 281474976710656) :
    Calls Try.prog 50 #[.int .i64 k, .int .i64 i] w fun e w' => e = .returned (.int .u8 (markN k i : Nat)) ∧ w = w' := by
  go_enter Try.func50, Try.ntmps50
  go_wp2
  go_ret
  exact ⟨ret_int (markN_eq k i), rfl⟩
end Go.Proofs.Ytpnphijfdcimlaa
