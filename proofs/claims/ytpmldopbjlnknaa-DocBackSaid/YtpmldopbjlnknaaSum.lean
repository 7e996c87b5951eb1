/-
  crc.Sum, crc.Update, the reference's One, and the chapter's examples (awake).
-/
import Derived.Test.YtpmldopbjlnknaaTake
import Derived.Lib.SlBytesConst
namespace Go.Proofs.Ytpmldopbjlnknaa
open Go.RowKit

/-- The sum of parts. -/
def sumAll (l : Nat → Nat) (z : Nat → Nat → Nat) (n : Nat) : Nat := notN (allN (notN 0) l z n)
theorem sumAll_lt (l : Nat → Nat) (z : Nat → Nat → Nat) (n : Nat) : sumAll l z n < 4294967296 := notN_lt _

theorem parts_one {w : World} {b : Nat} {a : Option Addr} {len cap : Nat} {z : Nat → Nat} (hl : len ≤ cap) (hm : cap ≤ 9223372036854775807) (hc : w.cell? ⟨b, 0, none⟩ = some (.slice a len cap)) (hz : Byt w a len z) :
    Parts w (some ⟨b, 0, none⟩) 1 (fun _ => a) (fun _ => len) (fun _ => cap) (fun _ => z) :=
  .inr ⟨b, 0, rfl, fun j hj => by
    obtain rfl : j = 0 := by omega
    exact ⟨hc, hl, hm, hz⟩⟩

set_option maxHeartbeats 400000 in
theorem sum_any (a : Option Addr) (n cap : Nat) (p : Nat → Option Addr) (l c : Nat → Nat) (z : Nat → Nat → Nat) (w : World) (hn : n ≤ 9223372036854775807) (hP : Parts w a n p l c z) :
    Calls Try.prog 22 #[.slice a n cap] w fun e w' => e = .returned (.int .u32 (sumAll l z n : Nat)) ∧ Below w.heap.size w w' := by
  have hA := allN_lt (notN 0) l z (notN_lt _) n
  have hN := not_u32 _ hA
  go_enter Try.func22, Try.ntmps22
  go_wp2_with fail
  refine (take_any (notN 0) a n cap p l c z w (notN_lt _) hn hP).mono ?_
  rintro e w1 ⟨rfl, hb⟩
  go_wp2
  go_ret
  exact ⟨rfl, hb⟩


set_option maxHeartbeats 400000 in
theorem refOne_any (a : Option Addr) (len cap : Nat) (z : Nat → Nat) (w : World) (hl : len ≤ 9223372036854775807) (hz : Byt w a len z) :
    Calls Try.prog 28 #[.slice a len cap] w fun e w' => e = .returned (.int .u32 (sumN z len : Nat)) ∧ w = w' := by
  go_enter Try.func28, Try.ntmps28
  go_wp2_with fail
  refine (refUpdate_any 0 a len cap z w (by omega) hl hz).mono ?_
  rintro e w1 ⟨rfl, rfl⟩
  go_wp2
  go_ret
  exact ⟨rfl, rfl⟩

/-- Of no parts the sum is 0. -/
theorem sum_none (w : World) : Calls Try.prog 22 #[.slice none 0 0] w fun e w' => e = .returned (.int .u32 0) ∧ Below w.heap.size w w' :=
  sum_any none 0 0 (fun _ => none) (fun _ => 0) (fun _ => 0) (fun _ _ => 0) w (by omega) (.inl rfl)
/-- The sum of one part. -/
theorem sum_one (b : Nat) (a : Option Addr) (len cap : Nat) (z : Nat → Nat) (w : World) (hl : len ≤ cap) (hm : cap ≤ 9223372036854775807) (hc : w.cell? ⟨b, 0, none⟩ = some (.slice a len cap)) (hz : Byt w a len z) :
    Calls Try.prog 22 #[.slice (some ⟨b, 0, none⟩) 1 1] w fun e w' => e = .returned (.int .u32 (sumN z len : Nat)) ∧ Below w.heap.size w w' :=
  sum_any _ 1 1 (fun _ => a) (fun _ => len) (fun _ => cap) (fun _ => z) w (by omega) (parts_one hl hm hc hz)

/-- The sum of one part, whose slice of slices was made just now. -/
theorem sum_new (g : Nat) (a : Option Addr) (len cap : Nat) (z : Nat → Nat) (w : World) (hg : g = w.heap.size) (hl : len ≤ cap) (hm : cap ≤ 9223372036854775807) (hz : Byt w a len z) :
    Calls Try.prog 22 #[.slice (some ⟨g, 0, none⟩) 1 1] (w.alloc (.cells #[.slice a len cap] 34)) fun e w' => e = .returned (.int .u32 (sumN z len : Nat)) ∧ Below w.heap.size w w' := by
  subst hg
  exact (sum_one w.heap.size a len cap z _ hl hm (cell_new_l w _ _).1 (hz.below (below_alloc _ _))).mono fun _ _ ⟨he, hb⟩ => ⟨he, (below_alloc _ _).trans (hb.mono (by simp))⟩

end Go.Proofs.Ytpmldopbjlnknaa
