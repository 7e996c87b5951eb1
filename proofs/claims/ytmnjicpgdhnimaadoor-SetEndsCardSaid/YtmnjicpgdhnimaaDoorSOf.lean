/-
  The reference's Range and Of.
-/
import Derived.Test.YtmnjicpgdhnimaaDoorSRefs
import Derived.StillTailTactics
import Derived.Deep.Cut
namespace Go.Proofs.YtmnjicpgdhnimaaDoor
open Go.RowKit

/-- The bytes from lo to hi. -/
def rng (lo hi : Nat) (c : Nat) : Bool := decide (lo ≤ c) && decide (c ≤ hi)
/-- The bytes from lo on, below k. -/
def frm (lo k : Nat) (c : Nat) : Bool := decide (lo ≤ c) && decide (c < k)
theorem frm_plus (lo k : Nat) (h : lo ≤ k) (c : Nat) : plus (frm lo k) k c = frm lo (k + 1) c := by
  unfold plus frm
  rw [Bool.eq_iff_iff]
  simp
  omega
theorem frm_rng (lo hi k : Nat) (h : hi < k) (h2 : k ≤ hi + 1 ∨ k ≤ lo) (c : Nat) : frm lo k c = rng lo hi c := by
  unfold rng frm
  rw [Bool.eq_iff_iff]
  simp
  omega
theorem frm_none (lo : Nat) (c : Nat) : nobs c = frm lo lo c := by
  unfold nobs frm
  rw [Bool.eq_iff_iff]
  simp
/-- Is a byte one of the first n of z? -/
def inz (z : Nat → Nat) : Nat → Nat → Bool
  | 0, _ => false
  | n + 1, c => decide (c = z n) || inz z n c

set_option maxRecDepth 100000 in
set_option maxHeartbeats 1000000 in
theorem refRange_any (lo hi : Nat) (w : World) (hlo : lo < 256) (hhi : hi < 256) :
    Calls Tryd.prog 16 #[.int .u8 lo, .int .u8 hi] w fun e w' => e = .returned (sv (rng lo hi)) ∧ Below w.heap.size w w' := by
  have hz := zeroSet
  have hb1 := (Below.refl w.heap.size w).alloc (Nat.le_refl _) (.cells (st nobs) 24)
  have hb3 := hide (hb1.alloc (by simp) (.cells (st nobs) 24))
  have h2 := hide ((SBox.new w w.heap.size nobs rfl).alloc (.cells (st nobs) 24))
  have h3 := hide (SBox.new (w.alloc (.cells (st nobs) 24)) (w.heap.size + 1) nobs (by simp))
  clear hb1
  unfold sv
  go_enter Tryd.func16, Tryd.ntmps16
  go_wp2_with fail
  clear hz
  go_loopw [6] (fun i wr => ∃ k : Nat, lo ≤ k ∧ (k ≤ hi + 1 ∨ k ≤ lo) ∧ i = .int .i64 k ∧ SBox wr w.heap.size nobs ∧ SBox wr (w.heap.size + 1) (frm lo k) ∧ Below w.heap.size w wr) (fun i _ => 256 - (intOf i).toNat)
  case atStart => exact ⟨lo, by omega, by omega, rfl, h2.out, h3.out.congr _ (fun b _ => frm_none lo b), hb3.out⟩
  case round =>
    obtain ⟨k, hk, hk2, rfl, hR, hO, hB⟩ := hrel
    have HB := hide hB
    by_cases hlt : k ≤ hi
    · have hk8 : (k : Int) % 256 = (k : Int) := by omega
      go_wp2_with (refine wpList_load_row rfl 24 _ rfl (w.heap.size + 1) rfl 24 (st (frm lo k)) (0, 0) _ hO Tryd.underlying24 rfl (sizeSet (frm lo k)) ?_)
      refine (with_any (frm lo k) k _ (by omega)).mono ?_
      rintro e w2 ⟨rfl, hb2⟩
      have hR2 := hR.below hb2 hR.lt
      have hO2 := hO.below hb2 hO.lt
      have HB2 := hide (HB.out.trans (hb2.mono (by have := hO.lt; omega)))
      clear hR hO hB hb2
      go_wp2_with (refine wpList_store_row rfl 24 _ _ rfl (w.heap.size + 1) (st (plus (frm lo k) k)) rfl rfl 24 (st (frm lo k)) hO2 (sizeSet (plus (frm lo k) k)) rfl (st_one (plus (frm lo k) k)) ?_)
      go_roundw
      case rel => exact ⟨k + 1, by omega, by omega, by go_num, hR2.row_other _ _ (by omega), (hO2.row _).congr _ (fun b _ => frm_plus lo k hk b), below_row HB2.out (by omega) _⟩
      case measure => simp [intOf]; omega
    · have HR := hide (hR.row (frm lo k))
      go_wp2_with (first | (refine wpList_load_row rfl 24 _ rfl (w.heap.size + 1) rfl 24 (st (frm lo k)) (0, 0) _ hO Tryd.underlying24 rfl (sizeSet (frm lo k)) ?_) | (refine wpList_store_row rfl 24 _ _ rfl w.heap.size (st (frm lo k)) rfl rfl 24 (st nobs) hR (sizeSet (frm lo k)) rfl (st_one (frm lo k)) ?_))
      refine bodyPost_ret_by (results_cell_row rfl _ _ w.heap.size 24 (st (frm lo k)) (0, 0) _ rfl HR.out Tryd.underlying24 rfl (sizeSet (frm lo k))) rfl ⟨congrArg Ending.returned (sv_congr _ _ fun b hb => frm_rng lo hi k (by omega) hk2 b), below_row HB.out (by omega) _⟩

set_option maxRecDepth 100000 in
set_option maxHeartbeats 1000000 in
theorem refOf_any (a : Option Addr) (len cap : Nat) (z : Nat → Nat) (w : World) (hl : len ≤ 9223372036854775807) (hz : Byt w a len z) :
    Calls Tryd.prog 14 #[.slice a len cap] w fun e w' => e = .returned (sv (inz z len)) ∧ Below w.heap.size w w' := by
  have hzero := zeroSet
  have hb1 := (Below.refl w.heap.size w).alloc (Nat.le_refl _) (.cells (st nobs) 24)
  have hb3 := hide (hb1.alloc (by simp) (.cells (st nobs) 24))
  have h2 := hide ((SBox.new w w.heap.size nobs rfl).alloc (.cells (st nobs) 24))
  have h3 := hide (SBox.new (w.alloc (.cells (st nobs) 24)) (w.heap.size + 1) nobs (by simp))
  have HZ := hide hz
  clear hb1 hz
  unfold sv
  go_enter Tryd.func14, Tryd.ntmps14
  go_wp2_with fail
  clear hzero
  go_loopw [4] (fun i wr => ∃ k : Nat, k ≤ len ∧ i = .int .i64 k ∧ SBox wr w.heap.size nobs ∧ SBox wr (w.heap.size + 1) (inz z k) ∧ Below w.heap.size w wr) (fun i _ => len - (intOf i).toNat)
  case atStart => exact ⟨0, by omega, rfl, h2.out, h3.out.congr _ (fun b _ => rfl), hb3.out⟩
  case round =>
    obtain ⟨k, hk, rfl, hR, hO, hB⟩ := hrel
    have HB := hide hB
    by_cases hlt : k < len
    · obtain ⟨hz256, h0 | ⟨b, off, rfl, hcz⟩⟩ := HZ.out.below hB
      · omega
      have hk256 := hz256 k
      have hc := hcz k hlt
      have c0 := hO.cell 0 (by omega)
      have c1 := hO.cell 1 (by omega)
      have c2 := hO.cell 2 (by omega)
      have c3 := hO.cell 3 (by omega)
      clear hcz
      go_upto_region 5 with fail
      go_still_tail 5, (by kernel_rfl)
      change wpList _ _ _ _ _ wr.drew
      have hR1 : SBox wr.drew w.heap.size nobs := hR
      have hO1 : SBox wr.drew (w.heap.size + 1) (inz z k) := hO
      have HB1 := hide (HB.out.drew)
      clear hR hO hB HB c0 c1 c2 c3 hc
      revert hR1 hO1 HB1
      generalize wr.drew = wx
      intro hR1 hO1 HB1
      go_wp2_with fail
      refine (with_any (inz z k) (z k) _ hk256).mono ?_
      rintro e w2 ⟨rfl, hb2⟩
      have hR2 := hR1.below hb2 hR1.lt
      have hO2 := hO1.below hb2 hO1.lt
      have HB2 := hide (HB1.out.trans (hb2.mono (by have := hO1.lt; omega)))
      clear hR1 hO1 HB1 hb2
      go_wp2_with (refine wpList_store_row rfl 24 _ _ rfl (w.heap.size + 1) (st (plus (inz z k) (z k))) rfl rfl 24 (st (inz z k)) hO2 (sizeSet (plus (inz z k) (z k))) rfl (st_one (plus (inz z k) (z k))) ?_)
      go_roundw
      case rel => exact ⟨k + 1, by omega, by go_num, hR2.row_other _ _ (by omega), (hO2.row _).congr _ (fun b _ => rfl), below_row HB2.out (by omega) _⟩
      case measure => simp [intOf]; omega
    · obtain rfl : k = len := by omega
      have HR := hide (hR.row (inz z k))
      go_wp2_with (first | (refine wpList_load_row rfl 24 _ rfl (w.heap.size + 1) rfl 24 (st (inz z k)) (0, 0) _ hO Tryd.underlying24 rfl (sizeSet (inz z k)) ?_) | (refine wpList_store_row rfl 24 _ _ rfl w.heap.size (st (inz z k)) rfl rfl 24 (st nobs) hR (sizeSet (inz z k)) rfl (st_one (inz z k)) ?_))
      refine bodyPost_ret_by (results_cell_row rfl _ _ w.heap.size 24 (st (inz z k)) (0, 0) _ rfl HR.out Tryd.underlying24 rfl (sizeSet (inz z k))) rfl ⟨rfl, below_row HB.out (by omega) _⟩
end Go.Proofs.YtmnjicpgdhnimaaDoor
