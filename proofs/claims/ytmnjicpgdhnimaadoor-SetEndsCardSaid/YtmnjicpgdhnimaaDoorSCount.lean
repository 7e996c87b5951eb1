/-
  set.Count.
-/
import Derived.Test.YtmnjicpgdhnimaaDoorSCnt
import Derived.Test.YtmnjicpgdhnimaaDoorSBytes
namespace Go.Proofs.YtmnjicpgdhnimaaDoor
open Go.RowKit

theorem bl_cnt (H : Nat → Bool) : ∀ n, (bl H n).length = cnt H n
  | 0 => rfl
  | n + 1 => by
    have ih := bl_cnt H n
    unfold bl cnt
    split
    · simp [ih]
    · simp [ih]
theorem cnt_le (f : Nat → Bool) : ∀ n, cnt f n ≤ n
  | 0 => Nat.le_refl _
  | n + 1 => by
    have := cnt_le f n
    unfold cnt
    split <;> omega
theorem cnt_word (H : Nat → Bool) (i : Nat) : cnt H (64 * i) + cnt (fun k => (wd H i).testBit k) 64 = cnt H (64 * (i + 1)) := by
  rw [show 64 * (i + 1) = 64 * i + 64 by omega, cnt_add]
  congr 1
  exact cnt_congr _ _ _ fun k hk => wd_bit H i k hk
theorem idx0 (a b c d : Int) (w : World) : (Instr.index 24 (.agg #[.int .u64 a, .int .u64 b, .int .u64 c, .int .u64 d]) (.int .i64 0)).run Tryd.prog w = .ok (.int .u64 a) w := by kernel_rfl
theorem idx1 (a b c d : Int) (w : World) : (Instr.index 24 (.agg #[.int .u64 a, .int .u64 b, .int .u64 c, .int .u64 d]) (.int .i64 1)).run Tryd.prog w = .ok (.int .u64 b) w := by kernel_rfl
theorem idx2 (a b c d : Int) (w : World) : (Instr.index 24 (.agg #[.int .u64 a, .int .u64 b, .int .u64 c, .int .u64 d]) (.int .i64 2)).run Tryd.prog w = .ok (.int .u64 c) w := by kernel_rfl
theorem idx3 (a b c d : Int) (w : World) : (Instr.index 24 (.agg #[.int .u64 a, .int .u64 b, .int .u64 c, .int .u64 d]) (.int .i64 3)).run Tryd.prog w = .ok (.int .u64 d) w := by kernel_rfl
theorem idx_any (H : Nat → Bool) (k : Nat) (hk : k < 4) (w : World) : (Instr.index 24 (.agg (st H)) (.int .i64 (k : Nat))).run Tryd.prog w = .ok (.int .u64 (wd H k : Nat)) w := by
  match k, hk with
  | 0, _ => exact idx0 _ _ _ _ w
  | 1, _ => exact idx1 _ _ _ _ w
  | 2, _ => exact idx2 _ _ _ _ w
  | 3, _ => exact idx3 _ _ _ _ w

set_option maxRecDepth 100000 in
set_option maxHeartbeats 1000000 in
theorem count_any (H : Nat → Bool) (w : World) :
    Calls Tryd.prog 25 #[sv H] w fun e w' => e = .returned (.int .i64 ((bl H 256).length : Nat)) ∧ Below w.heap.size w w' := by
  have hb0 := hide ((Below.refl w.heap.size w).alloc (Nat.le_refl _) (.cells (st H) 24))
  have h1 := SBox.new w w.heap.size H rfl
  unfold sv
  go_enter Tryd.func25, Tryd.ntmps25
  go_wp2_with (refine wpList_load_row rfl 24 _ rfl w.heap.size rfl 24 (st H) (0, 0) _ h1 Tryd.underlying24 rfl (sizeSet H) ?_)
  clear h1
  go_loopg [3, 7] 4 (fun q s3 i wr => ∃ k : Nat, k + q = 4 ∧ i = .int .i64 k ∧ s3 = .int .i64 (cnt H (64 * k) : Nat) ∧ wr = w.alloc (.cells (st H) 24))
  case atStart => exact ⟨0, by omega, rfl, rfl, rfl⟩
  case round =>
    obtain ⟨k, hk, rfl, rfl, rfl⟩ := hrel
    cases gk with
    | succ g =>
      have hk4 : k < 4 := by omega
      have hki : (k : Int) < 4 := by omega
      have hg := fun W => idx_any H k hk4 W
      have hl := wd_lt H k
      have hc1 := cnt_le H (64 * k)
      have hc2 := cnt_le (fun j => (wd H k).testBit j) 64
      have hs := cnt_word H k
      obtain ⟨x, hx⟩ : ∃ x, wd H k = x := ⟨_, rfl⟩
      rw [hx] at hg hl hc2 hs
      clear hx
      go_wp2_with fail
      refine (ones_any x _ hl).mono ?_
      rintro e w1 ⟨rfl, rfl⟩
      have hsum : (cnt H (64 * k) : Int) + (cnt (fun j => x.testBit j) 64 : Nat) = (cnt H (64 * (k + 1)) : Nat) := by omega
      go_wp2_with fail
      go_roundg g
      case measure => omega
      case rel => exact ⟨k + 1, by omega, by go_num, rfl, rfl⟩
    | zero =>
      obtain rfl : k = 4 := by omega
      go_wp2_with fail
      go_ret
      exact ⟨by rw [bl_cnt]; rfl, hb0.out⟩
end Go.Proofs.YtmnjicpgdhnimaaDoor
