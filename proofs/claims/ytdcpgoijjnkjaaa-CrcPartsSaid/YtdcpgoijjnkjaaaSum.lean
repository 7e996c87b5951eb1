/-
  crc.Sum, crc.Update, the reference's One, and the chapter's examples (awake).
-/
import Derived.Test.YtdcpgoijjnkjaaaTake
import Derived.Lib.SlBytesConst
namespace Go.Proofs.Ytdcpgoijjnkjaaa
open Go.RowKit

/-- The sum of parts. -/
def sumAll (l : Nat → Nat) (z : Nat → Nat → Nat) (n : Nat) : Nat := notN (allN (notN 0) l z n)
theorem sumAll_lt (l : Nat → Nat) (z : Nat → Nat → Nat) (n : Nat) : sumAll l z n < 4294967296 := notN_lt _

theorem parts_one {w : World} {b : Nat} {a : Option Addr} {len cap : Nat} {z : Nat → Nat} (hl : len ≤ cap) (hm : cap ≤ 9223372036854775807) (hc : w.cell? ⟨b, 0, none⟩ = some (.slice a len cap)) (hz : Byt w a len z) :
    Parts w (some ⟨b, 0, none⟩) 1 (fun _ => a) (fun _ => len) (fun _ => cap) (fun _ => z) :=
  .inr ⟨b, 0, rfl, fun j hj => by
    obtain rfl : j = 0 := by omega
    exact ⟨hc, hl, hm, hz⟩⟩

set_option maxHeartbeats 400000 in
theorem sum_any (a : Option Addr) (n cap : Nat) (p : Nat → Option Addr) (l c : Nat → Nat) (z : Nat → Nat → Nat) (w : World) (hn : n ≤ 9223372036854775807) (hP : Parts w a n p l c z) :
    Calls Try.prog 11 #[.slice a n cap] w fun e w' => e = .returned (.int .u32 (sumAll l z n : Nat)) ∧ Below w.heap.size w w' := by
  have hA := allN_lt (notN 0) l z (notN_lt _) n
  have hN := not_u32 _ hA
  go_enter Try.func11, Try.ntmps11
  go_wp2_with fail
  refine (take_any (notN 0) a n cap p l c z w (notN_lt _) hn hP).mono ?_
  rintro e w1 ⟨rfl, hb⟩
  go_wp2
  go_ret
  exact ⟨rfl, hb⟩

set_option maxHeartbeats 400000 in
theorem update_any (s : Nat) (a : Option Addr) (len cap : Nat) (z : Nat → Nat) (w : World) (hs : s < 4294967296) (hl : len ≤ cap) (hm : cap ≤ 9223372036854775807) (hz : Byt w a len z) :
    Calls Try.prog 9 #[.int .u32 s, .slice a len cap] w fun e w' => e = .returned (.int .u32 (goN s z len : Nat)) ∧ Below w.heap.size w w' := by
  have hN := not_u32 s hs
  go_enter Try.func9, Try.ntmps9
  go_wp2_with fail
  clear hN
  have hb0 : Below w.heap.size w (w.alloc (.cells #[.slice a len cap] 24)) := (Below.refl _ _).alloc (Nat.le_refl _) _
  have hP : Parts (w.alloc (.cells #[.slice a len cap] 24)) (some ⟨w.heap.size, 0, none⟩) 1 (fun _ => a) (fun _ => len) (fun _ => cap) (fun _ => z) :=
    parts_one hl hm (cell_new_l w _ _).1 (hz.below hb0)
  refine (take_any (notN s) _ 1 1 (fun _ => a) (fun _ => len) (fun _ => cap) (fun _ => z) _ (notN_lt _) (by omega) hP).mono ?_
  rintro e w1 ⟨rfl, hb⟩
  have hN := not_u32 _ (allN_lt (notN s) (fun _ => len) (fun _ => z) (notN_lt _) 1)
  go_wp2
  go_ret
  exact ⟨rfl, hb0.trans (hb.mono (by simp))⟩

set_option maxHeartbeats 400000 in
theorem refOne_any (a : Option Addr) (len cap : Nat) (z : Nat → Nat) (w : World) (hl : len ≤ 9223372036854775807) (hz : Byt w a len z) :
    Calls Try.prog 18 #[.slice a len cap] w fun e w' => e = .returned (.int .u32 (sumN z len : Nat)) ∧ w = w' := by
  go_enter Try.func18, Try.ntmps18
  go_wp2_with fail
  refine (refUpdate_any 0 a len cap z w (by omega) hl hz).mono ?_
  rintro e w1 ⟨rfl, rfl⟩
  go_wp2
  go_ret
  exact ⟨rfl, rfl⟩

/-- Of no parts the sum is 0. -/
theorem sum_none (w : World) : Calls Try.prog 11 #[.slice none 0 0] w fun e w' => e = .returned (.int .u32 0) ∧ Below w.heap.size w w' :=
  sum_any none 0 0 (fun _ => none) (fun _ => 0) (fun _ => 0) (fun _ _ => 0) w (by omega) (.inl rfl)
/-- The sum of one part. -/
theorem sum_one (b : Nat) (a : Option Addr) (len cap : Nat) (z : Nat → Nat) (w : World) (hl : len ≤ cap) (hm : cap ≤ 9223372036854775807) (hc : w.cell? ⟨b, 0, none⟩ = some (.slice a len cap)) (hz : Byt w a len z) :
    Calls Try.prog 11 #[.slice (some ⟨b, 0, none⟩) 1 1] w fun e w' => e = .returned (.int .u32 (sumN z len : Nat)) ∧ Below w.heap.size w w' :=
  sum_any _ 1 1 (fun _ => a) (fun _ => len) (fun _ => cap) (fun _ => z) w (by omega) (parts_one hl hm hc hz)

/-- 123456789 -/
def nine : Nat → Nat := fun i => if i < 9 then 49 + i else 0
theorem nine_sum : sumN nine 9 = 3421780262 := by decide +kernel
theorem zero_sum : sumN (fun _ => 0) 1 = 3523407757 := by decide +kernel
theorem one_bit : bitN 1 false = 3988292384 := by decide +kernel

theorem nine_byt (w : World) (fr : Nat × Nat) :
    Byt (w.alloc (.cells #[.int .u8 49, .int .u8 50, .int .u8 51, .int .u8 52, .int .u8 53, .int .u8 54, .int .u8 55, .int .u8 56, .int .u8 57] 5 fr)) (some ⟨w.heap.size, 0, none⟩) 9 nine := by
  refine ⟨fun i => by unfold nine; split <;> omega, .inr ⟨_, _, rfl, fun i hi => ?_⟩⟩
  rw [cell_of_row _ _ _ _ _ _ (heap_alloc_new _ _)]
  match i, hi with
  | 0, _ => rfl
  | 1, _ => rfl
  | 2, _ => rfl
  | 3, _ => rfl
  | 4, _ => rfl
  | 5, _ => rfl
  | 6, _ => rfl
  | 7, _ => rfl
  | 8, _ => rfl
theorem one_byt (w : World) (x : Nat) (hx : x < 256) (fr : Nat × Nat) : Byt (w.alloc (.cells #[.int .u8 x] 5 fr)) (some ⟨w.heap.size, 0, none⟩) 1 (fun _ => x) := by
  refine ⟨fun _ => hx, .inr ⟨_, _, rfl, fun i hi => ?_⟩⟩
  obtain rfl : i = 0 := by omega
  rw [cell_of_row _ _ _ _ _ _ (heap_alloc_new _ _)]
  rfl
theorem below_alloc (w : World) (o : Obj) : Below w.heap.size w (w.alloc o) := (Below.refl _ _).alloc (Nat.le_refl _) _
/-- The sum of one part, whose slice of slices was made just now. -/
theorem sum_new (g : Nat) (a : Option Addr) (len cap : Nat) (z : Nat → Nat) (w : World) (hg : g = w.heap.size) (hl : len ≤ cap) (hm : cap ≤ 9223372036854775807) (hz : Byt w a len z) :
    Calls Try.prog 11 #[.slice (some ⟨g, 0, none⟩) 1 1] (w.alloc (.cells #[.slice a len cap] 24)) fun e w' => e = .returned (.int .u32 (sumN z len : Nat)) ∧ Below w.heap.size w w' := by
  subst hg
  exact (sum_one w.heap.size a len cap z _ hl hm (cell_new_l w _ _).1 (hz.below (below_alloc _ _))).mono fun _ _ ⟨he, hb⟩ => ⟨he, (below_alloc _ _).trans (hb.mono (by simp))⟩

set_option maxRecDepth 100000 in
set_option maxHeartbeats 1000000 in
theorem awake_any (w : World) : Calls Try.prog 7 #[] w fun e w' => e = .returned (.bool true) ∧ Below w.heap.size w w' := by
  have kc := fun (w : World) (C : Array Value) (n c : Nat) => Lib.run_convert_bytes_const (P := Try.prog) w 24 5 C n c Try.underlying24 Try.underlying5
  have hn := nine_sum
  have hz := zero_sum
  have ho := one_bit
  go_enter Try.func7, Try.ntmps7
  go_wp2_with fail
  refine (sum_none w).mono ?_
  rintro e w1 ⟨rfl, hb1⟩
  go_wp2_with fail
  refine (sum_new _ _ 9 9 nine _ (by simp) (by omega) (by omega) (nine_byt w1 _)).mono ?_
  rintro e w2 ⟨rfl, hb2⟩
  go_wp2_with fail
  refine (sum_new _ _ 1 1 (fun _ => 0) _ (by simp) (by omega) (by omega) (one_byt w2 0 (by omega) _)).mono ?_
  rintro e w3 ⟨rfl, hb3⟩
  go_wp2_with fail
  refine (crcBit_any 1 false w3 (by omega)).mono ?_
  rintro e w4 ⟨rfl, rfl⟩
  go_wp2
  go_ret
  exact ⟨rfl, hb1.trans (((below_alloc w1 _).trans (hb2.mono (by simp))).mono hb1.size) |>.trans (((below_alloc w2 _).trans (hb3.mono (by simp))).mono (Nat.le_trans hb1.size (Nat.le_trans (by simp) hb2.size)))⟩
end Go.Proofs.Ytdcpgoijjnkjaaa
