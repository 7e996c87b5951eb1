/-
  math/bits.OnesCount64, as its text reckons it.
-/
import Derived.Test.YtmnjicpgdhnimaaDoorSMath
namespace Go.Proofs.YtmnjicpgdhnimaaDoor
open Go.RowKit

def o1 (x : Nat) : Nat := ((x / 2 &&& 6148914691236517205) + (x &&& 6148914691236517205)) % 18446744073709551616
def o2 (x : Nat) : Nat := ((x / 4 &&& 3689348814741910323) + (x &&& 3689348814741910323)) % 18446744073709551616
def o3 (x : Nat) : Nat := ((x / 16 + x) % 18446744073709551616) &&& 1085102592571150095
def o4 (x : Nat) : Nat := (x + x / 256) % 18446744073709551616
def o5 (x : Nat) : Nat := (x + x / 65536) % 18446744073709551616
def o6 (x : Nat) : Nat := (x + x / 4294967296) % 18446744073709551616
theorem and_lt (a m : Nat) (hm : m < 18446744073709551616) : a &&& m < 18446744073709551616 := show _ < 2 ^ 64 from Nat.and_lt_two_pow _ hm
theorem o1_eq (x : Nat) (hx : x < 18446744073709551616) : IntKind.u64.wrap (bits .and .u64 ((x : Int) / 2) 6148914691236517205 + bits .and .u64 (x : Int) 6148914691236517205) = ((o1 x : Nat) : Int) := by
  have e1 := u64_and_nat (x / 2) 6148914691236517205 (by omega) (by omega)
  have e2 := u64_and_nat x 6148914691236517205 hx (by omega)
  have e3 : ((x / 2 : Nat) : Int) = (x : Int) / 2 := by omega
  rw [e3] at e1
  rw [show (6148914691236517205 : Int) = ((6148914691236517205 : Nat) : Int) from rfl, e1, e2, IntKind.wrap_u64]
  unfold o1
  omega
theorem o2_eq (x : Nat) (hx : x < 18446744073709551616) : IntKind.u64.wrap (bits .and .u64 ((x : Int) / 4) 3689348814741910323 + bits .and .u64 (x : Int) 3689348814741910323) = ((o2 x : Nat) : Int) := by
  have e1 := u64_and_nat (x / 4) 3689348814741910323 (by omega) (by omega)
  have e2 := u64_and_nat x 3689348814741910323 hx (by omega)
  have e3 : ((x / 4 : Nat) : Int) = (x : Int) / 4 := by omega
  rw [e3] at e1
  rw [show (3689348814741910323 : Int) = ((3689348814741910323 : Nat) : Int) from rfl, e1, e2, IntKind.wrap_u64]
  unfold o2
  omega
theorem o3_eq (x : Nat) : bits .and .u64 (IntKind.u64.wrap ((x : Int) / 16 + (x : Int))) 1085102592571150095 = ((o3 x : Nat) : Int) := by
  have e1 := u64_and_nat ((x / 16 + x) % 18446744073709551616) 1085102592571150095 (by omega) (by omega)
  have e3 : IntKind.u64.wrap ((x : Int) / 16 + (x : Int)) = (((x / 16 + x) % 18446744073709551616 : Nat) : Int) := by rw [IntKind.wrap_u64]; omega
  rw [e3]
  exact e1
theorem o1_lt (x : Nat) : o1 x < 18446744073709551616 := Nat.mod_lt _ (by omega)
theorem o2_lt (x : Nat) : o2 x < 18446744073709551616 := Nat.mod_lt _ (by omega)
theorem o3_lt (x : Nat) : o3 x < 18446744073709551616 := and_lt _ _ (by omega)
theorem o4_lt (x : Nat) : o4 x < 18446744073709551616 := Nat.mod_lt _ (by omega)
theorem o5_lt (x : Nat) : o5 x < 18446744073709551616 := Nat.mod_lt _ (by omega)
theorem o6_lt (x : Nat) : o6 x < 18446744073709551616 := Nat.mod_lt _ (by omega)
theorem o4_eq (x : Nat) : IntKind.u64.wrap ((x : Int) + (x : Int) / 256) = ((o4 x : Nat) : Int) := by rw [IntKind.wrap_u64]; unfold o4; omega
theorem o5_eq (x : Nat) : IntKind.u64.wrap ((x : Int) + (x : Int) / 65536) = ((o5 x : Nat) : Int) := by rw [IntKind.wrap_u64]; unfold o5; omega
theorem o6_eq (x : Nat) : IntKind.u64.wrap ((x : Int) + (x : Int) / 4294967296) = ((o6 x : Nat) : Int) := by rw [IntKind.wrap_u64]; unfold o6; omega

set_option maxHeartbeats 1000000 in
theorem ones_walk (x : Nat) (w : World) (hx : x < 18446744073709551616) :
    Calls Tryd.prog 41 #[.int .u64 x] w fun e w' => e = .returned (.int .i64 (bits .and .i64 (wrap64 ((o6 (o5 (o4 (o3 (o2 (o1 x))))) : Nat) : Int)) 127)) ∧ w = w' := by
  obtain ⟨x1, h1⟩ : ∃ y, o1 x = y := ⟨_, rfl⟩
  obtain ⟨x2, h2⟩ : ∃ y, o2 x1 = y := ⟨_, rfl⟩
  obtain ⟨x3, h3⟩ : ∃ y, o3 x2 = y := ⟨_, rfl⟩
  obtain ⟨x4, h4⟩ : ∃ y, o4 x3 = y := ⟨_, rfl⟩
  obtain ⟨x5, h5⟩ : ∃ y, o5 x4 = y := ⟨_, rfl⟩
  obtain ⟨x6, h6⟩ : ∃ y, o6 x5 = y := ⟨_, rfl⟩
  have l1 := o1_lt x
  have l2 := o2_lt x1
  have l3 := o3_lt x2
  have l4 := o4_lt x3
  have l5 := o5_lt x4
  have l6 := o6_lt x5
  rw [h1, h2, h3, h4, h5, h6]
  rw [h1] at l1; rw [h2] at l2; rw [h3] at l3; rw [h4] at l4; rw [h5] at l5; rw [h6] at l6
  have e1 := o1_eq x hx
  have e2 := o2_eq x1 l1
  have e3 := o3_eq x2
  have e4 := o4_eq x3
  have e5 := o5_eq x4
  have e6 := o6_eq x5
  rw [h1] at e1; rw [h2] at e2; rw [h3] at e3; rw [h4] at e4; rw [h5] at e5; rw [h6] at e6
  clear h1 h2 h3 h4 h5 h6
  go_enter Tryd.func41, Tryd.ntmps41
  go_wp2_with fail
  go_ret
  exact ⟨rfl, rfl⟩
end Go.Proofs.YtmnjicpgdhnimaaDoor
