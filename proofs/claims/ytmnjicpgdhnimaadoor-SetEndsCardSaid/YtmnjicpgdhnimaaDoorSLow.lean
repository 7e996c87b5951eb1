/-
  math/bits.TrailingZeros64, set.lowest.
-/
import Derived.Test.YtmnjicpgdhnimaaDoorSRefs
import Derived.Deep.Cut
import Derived.Deep.LoopGhost
import Derived.Shelf.Spec.TrailingZeros
namespace Go.Proofs.YtmnjicpgdhnimaaDoor
open Go.RowKit

/-- The library's table in its variable. -/
def Tab (w : World) : Prop := TabAt 0 Lib.deBruijn64tab w
theorem Tab.below {w w' : World} (h : Tab w) (hb : Below w.heap.size w w') : Tab w' := fun j hj =>
  (hb.cell (p := ⟨0, j, none⟩) (block_lt_of_cell (h j hj))).trans (h j hj)
theorem ctz_bits (n : Nat) (hn : n < 18446744073709551616) (h0 : n ≠ 0) : n.testBit (Lib.ctz 64 n) = true ∧ Lib.ctz 64 n < 64 ∧ ∀ j, j < Lib.ctz 64 n → n.testBit j = false := by
  unfold Lib.ctz
  rw [if_neg h0]
  obtain ⟨m, hm, hk⟩ := Lib.ctzFrom_spec 64 n (by omega) hn
  generalize Lib.ctzFrom 64 n = k at hm hk
  refine ⟨?_, hk, fun j hj => ?_⟩
  · rw [hm, Nat.mul_comm, Nat.testBit_mul_two_pow]; simp
  · rw [hm, Nat.mul_comm, Nat.testBit_mul_two_pow]
    have h : ¬ k ≤ j := by omega
    simp [h]
theorem ctz_eq (n k : Nat) (hn : n < 18446744073709551616) (hk : n.testBit k = true) (hl : ∀ j, j < k → n.testBit j = false) : Lib.ctz 64 n = k := by
  have h0 : n ≠ 0 := fun e => by subst e; simp at hk
  obtain ⟨h1, _, h2⟩ := ctz_bits n hn h0
  by_cases ha : Lib.ctz 64 n < k
  · have := hl _ ha; simp [h1] at this
  · by_cases hb : k < Lib.ctz 64 n
    · have := h2 _ hb; simp [hk] at this
    · omega

set_option maxHeartbeats 1000000 in
theorem tz_core (x k idx : Nat) (w : World) (hx0 : ((x : Int) == 0) = false)
    (key : IntKind.u64.wrap (bits BinOp.and IntKind.u64 (x : Int) (IntKind.u64.wrap (-(x : Int))) * 285870213051353865) / 288230376151711744 = (idx : Int))
    (hi : idx < 64) (hk : k < 64) (hcell : w.cell? ⟨0, idx, none⟩ = some (.int .u8 k)) :
    Calls Tryd.prog 67 #[.int .u64 x] w fun e w' => e = .returned (.int .i64 k) ∧ w = w' := by
  go_enter Tryd.func67, Tryd.ntmps67
  go_wp2_with (simp only [key])
  go_ret
  exact ⟨rfl, rfl⟩
theorem tz_any (x : Nat) (w : World) (hx : x < 18446744073709551616) (hx0 : x ≠ 0) (hT : Tab w) :
    Calls Tryd.prog 67 #[.int .u64 x] w fun e w' => e = .returned (.int .i64 (Lib.ctz 64 x)) ∧ w = w' := by
  obtain ⟨hlow, hk⟩ := Lib.lowest_bit 64 x hx0 hx
  obtain ⟨hi, htab⟩ := Lib.deBruijn64_at _ hk
  have hcell := hT _ hi
  rw [htab] at hcell
  exact tz_core x _ _ w (by simp; omega) (tz64_key x _ hx hx0 hlow) hi hk hcell
theorem wd_zero (H : Nat → Bool) (i b : Nat) (hi : i < b / 64) (hl : ∀ c, c < b → H c = false) : wd H i = 0 :=
  (wd_ext 0 H i (by omega) fun k hk => by rw [Nat.zero_testBit, hl _ (by omega)]).symm
theorem wd_low (H : Nat → Bool) (b : Nat) (hb : H b = true) (hl : ∀ c, c < b → H c = false) : Lib.ctz 64 (wd H (b / 64)) = b % 64 :=
  ctz_eq _ _ (wd_lt _ _) (by rw [wd_bit _ _ _ (by omega), show 64 * (b / 64) + b % 64 = b by omega]; exact hb) fun j hj => by
    rw [wd_bit _ _ _ (by omega)]; exact hl _ (by omega)
theorem wd_some (H : Nat → Bool) (b : Nat) (hb : H b = true) : wd H (b / 64) ≠ 0 := fun e => by
  have h := wd_bit H (b / 64) (b % 64) (by omega)
  rw [e, show 64 * (b / 64) + b % 64 = b by omega, hb] at h
  simp at h

set_option maxRecDepth 100000 in
set_option maxHeartbeats 1000000 in
theorem lowest_any (H : Nat → Bool) (b : Nat) (w : World) (hb : b < 256) (hH : H b = true) (hl : ∀ c, c < b → H c = false) (hT : Tab w) :
    Calls Tryd.prog 44 #[sv H] w fun e w' => e = .returned (.int .u8 b) ∧ Below w.heap.size w w' := by
  obtain ⟨i, hi⟩ : ∃ i, b / 64 = i := ⟨_, rfl⟩
  have hi4 : i < 4 := by omega
  have hz := hide (fun j (hj : j < i) => wd_zero H j b (by omega) hl)
  have hne := hide (wd_some H b hH)
  have hct := hide (wd_low H b hH hl)
  rw [hi] at hne hct
  have hbox := hide (SBox.new w w.heap.size H rfl)
  have hb0 := hide ((Below.refl w.heap.size w).alloc (Nat.le_refl _) (.cells (st H) 24))
  have hT1 := hide (hT.below ((Below.refl w.heap.size w).alloc (Nat.le_refl _) (.cells (st H) 24)))
  have HI := hide hi
  clear hT hi hl
  unfold sv
  go_enter Tryd.func44, Tryd.ntmps44
  go_wp2_with fail
  go_loopg [3] i (fun q s wr => ∃ k : Nat, k + q = i ∧ s = .int .i64 k ∧ wr = w.alloc (.cells (st H) 24))
  case atStart => exact ⟨0, by omega, rfl, rfl⟩
  case round =>
    obtain ⟨k, hk, rfl, rfl⟩ := hrel
    cases gk with
    | succ g =>
      have hw := hbox.out.cell k (by omega)
      rw [hz.out k (by omega)] at hw
      have hki : (k : Int) < 4 := by omega
      go_wp2_with fail
      go_roundg g
      case measure => omega
      case rel => exact ⟨k + 1, by omega, by go_num, rfl⟩
    | zero =>
      obtain rfl : k = i := by omega
      have hw := hbox.out.cell k (by omega)
      have hki : (k : Int) < 4 := by omega
      obtain ⟨x, hx⟩ : ∃ x, wd H k = x := ⟨_, rfl⟩
      have hxl := wd_lt H k
      rw [hx] at hw hxl hne hct
      have hxz : ((x : Int) == 0) = false := by have := hne.out; simp; omega
      clear hx
      go_wp2_with fail
      refine (tz_any x _ hxl hne.out hT1.out).mono ?_
      rintro e w1 ⟨rfl, rfl⟩
      rw [hct.out]
      have hI := HI.out
      have hsum : (64 : Int) * (k : Int) + ((b % 64 : Nat) : Int) = (b : Int) := by omega
      have hb8 : (b : Int) % 256 = (b : Int) := by omega
      obtain ⟨r, hr⟩ : ∃ r, b % 64 = r := ⟨_, rfl⟩
      rw [hr] at hsum ⊢
      clear hI hr
      go_wp2_with fail
      go_ret
      exact ⟨rfl, hb0.out⟩
end Go.Proofs.YtmnjicpgdhnimaaDoor
