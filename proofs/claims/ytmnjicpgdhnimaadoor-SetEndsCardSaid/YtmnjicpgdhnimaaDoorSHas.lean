/-
  set.Has, and the reference's Has.
-/
import Derived.Test.YtmnjicpgdhnimaaDoorSMath
namespace Go.Proofs.YtmnjicpgdhnimaaDoor
open Go.RowKit

set_option maxHeartbeats 1000000 in
theorem has_any (H : Nat → Bool) (b : Nat) (w : World) (hb : b < 256) :
    Calls Tryd.prog 23 #[sv H, .int .u8 b] w fun e w' => e = .returned (.bool (H b)) ∧ Below w.heap.size w w' := by
  obtain ⟨i, hi⟩ : ∃ i, b / 64 = i := ⟨_, rfl⟩
  obtain ⟨k, hk⟩ : ∃ k, b % 64 = k := ⟨_, rfl⟩
  have hi4 : i < 4 := by omega
  have hb1 : (b : Int) / 64 = (i : Int) := by omega
  have hb2 : (b : Int) % 64 = (k : Int) := by omega
  have hbox : SBox (w.alloc (.cells (st H) 24)) w.heap.size H := heap_alloc_new _ _
  have hc := hbox.cell i hi4
  have HBOX := hide hbox
  have HH := hide (And.intro hi hk)
  clear hbox hi hk
  unfold sv
  go_enter Tryd.func23, Tryd.ntmps23
  go_wp2_with fail
  have hi : b / 64 = i := HH.out.1
  have hk : b % 64 = k := HH.out.2
  have e : (bits .and .u64 (((wd H i : Nat) : Int) / 2 ^ k) 1 == 1) = H b := by
    rw [shr_low _ _ (wd_lt H i), wd_bit H i k (by omega)]
    congr 1
    omega
  rw [e]
  go_ret
  exact ⟨rfl, (Below.refl _ _).alloc (Nat.le_refl _) _⟩

end Go.Proofs.YtmnjicpgdhnimaaDoor
