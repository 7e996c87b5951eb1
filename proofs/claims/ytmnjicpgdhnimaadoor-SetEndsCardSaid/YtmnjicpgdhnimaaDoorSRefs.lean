/-
  The reference's sets: Not, Range, Of.
-/
import Derived.Test.YtmnjicpgdhnimaaDoorSWith
namespace Go.Proofs.YtmnjicpgdhnimaaDoor
open Go.RowKit

theorem SBox.alloc {w : World} {g : Nat} {H : Nat → Bool} (h : SBox w g H) (o : Obj) : SBox (w.alloc o) g H := (Below.heap_alloc w o g h.lt).trans h
theorem SBox.new (w : World) (g : Nat) (H : Nat → Bool) (hg : g = w.heap.size) : SBox (w.alloc (.cells (st H) 24)) g H := by
  subst hg; exact heap_alloc_last _ _
theorem SBox.congr {w : World} {g : Nat} {H : Nat → Bool} (h : SBox w g H) (G : Nat → Bool) (e : ∀ b, b < 256 → H b = G b) : SBox w g G := by
  unfold SBox; rw [← st_congr H G e]; exact h
/-- The bytes below k of those of G. -/
def bel (k : Nat) (G : Nat → Bool) (c : Nat) : Bool := decide (c < k) && G c
theorem bel_plus (k : Nat) (G : Nat → Bool) (h : G k = true) (c : Nat) : plus (bel k G) k c = bel (k + 1) G c := by
  unfold plus bel
  by_cases e : c = k
  · subst e; simp [h]
  · have h1 : (c < k + 1) ↔ (c < k) := by omega
    simp [e, h1]
theorem bel_skip (k : Nat) (G : Nat → Bool) (h : G k = false) (c : Nat) : bel k G c = bel (k + 1) G c := by
  unfold bel
  by_cases e : c = k
  · subst e; simp [h]
  · have h1 : (c < k + 1) ↔ (c < k) := by omega
    simp [h1]
theorem bel_all (G : Nat → Bool) (c : Nat) (h : c < 256) : bel 256 G c = G c := by simp [bel, h]


set_option maxRecDepth 100000 in
set_option maxHeartbeats 1000000 in
theorem refNot_any (H : Nat → Bool) (w : World) :
    Calls Tryd.prog 29 #[sv H] w fun e w' => e = .returned (sv fun b => !H b) ∧ Below w.heap.size w w' := by
  have hz := zeroSet
  have hb1 := (Below.refl w.heap.size w).alloc (Nat.le_refl _) (.cells (st H) 24)
  have hb2 := hb1.alloc (by simp) (.cells (st nobs) 24)
  have hb3 := hide (hb2.alloc (by simp; omega) (.cells (st nobs) 24))
  have h1 := hide (((SBox.new w w.heap.size H rfl).alloc (.cells (st nobs) 24)).alloc (.cells (st nobs) 24))
  have h2 := hide ((SBox.new (w.alloc (.cells (st H) 24)) (w.heap.size + 1) nobs (by simp)).alloc (.cells (st nobs) 24))
  have h3 := hide (SBox.new ((w.alloc (.cells (st H) 24)).alloc (.cells (st nobs) 24)) (w.heap.size + 2) nobs (by simp))
  clear hb1 hb2
  unfold sv
  go_enter Tryd.func29, Tryd.ntmps29
  go_wp2_with fail
  clear hz
  go_loopw [4] (fun i wr => ∃ k : Nat, k ≤ 256 ∧ i = .int .i64 k ∧ SBox wr w.heap.size H ∧ SBox wr (w.heap.size + 1) nobs ∧ SBox wr (w.heap.size + 2) (bel k fun b => !H b) ∧ Below w.heap.size w wr) (fun i _ => 256 - (intOf i).toNat)
  case atStart => exact ⟨0, by omega, rfl, h1.out, h2.out, h3.out.congr _ (fun b _ => by simp [nobs, bel]), hb3.out⟩
  case round =>
    obtain ⟨k, hk, rfl, hH, hR, hO, hB⟩ := hrel
    have HB := hide hB
    by_cases hlt : k < 256
    · have hk8 : (k : Int) % 256 = (k : Int) := by omega
      go_wp2_with (refine wpList_load_row rfl 24 _ rfl w.heap.size rfl 24 (st H) (0, 0) _ hH Tryd.underlying24 rfl (sizeSet H) ?_)
      refine (refHas_any H k _ hlt).mono ?_
      rintro e w1 ⟨rfl, hb1⟩
      have h3l := hO.lt
      have hH1 := hH.below hb1 hH.lt
      have hR1 := hR.below hb1 hR.lt
      have hO1 := hO.below hb1 hO.lt
      have HB1 := hide (HB.out.trans (hb1.mono (by omega)))
      clear hH hR hO hB hb1
      cases hh : H k with
      | true =>
        have hh2 := hide hh
        clear hh
        go_wp2_with fail
        go_roundw
        case rel => exact ⟨k + 1, by omega, by go_num, hH1, hR1, hO1.congr _ (fun b _ => bel_skip k (fun b => !H b) (by simp [hh2.out]) b), HB1.out⟩
        case measure => simp [intOf]; omega
      | false =>
        have hh2 := hide hh
        clear hh
        go_wp2_with (refine wpList_load_row rfl 24 _ rfl (w.heap.size + 2) rfl 24 (st (bel k fun b => !H b)) (0, 0) _ hO1 Tryd.underlying24 rfl (sizeSet (bel k fun b => !H b)) ?_)
        refine (with_any (bel k fun b => !H b) k _ hlt).mono ?_
        rintro e w2 ⟨rfl, hb2⟩
        have hH2 := hH1.below hb2 hH1.lt
        have hR2 := hR1.below hb2 hR1.lt
        have hO2 := hO1.below hb2 hO1.lt
        have HB2 := hide (HB1.out.trans (hb2.mono (by have := hO1.lt; omega)))
        clear hH1 hR1 hO1 hb2
        go_wp2_with (refine wpList_store_row rfl 24 _ _ rfl (w.heap.size + 2) (st (plus (bel k fun b => !H b) k)) rfl rfl 24 (st (bel k fun b => !H b)) hO2 (sizeSet (plus (bel k fun b => !H b) k)) rfl (st_one (plus (bel k fun b => !H b) k)) ?_)
        go_roundw
        case rel => exact ⟨k + 1, by omega, by go_num, hH2.row_other _ _ (by omega), hR2.row_other _ _ (by omega), (hO2.row _).congr _ (fun b _ => bel_plus k (fun b => !H b) (by simp [hh2.out]) b), below_row HB2.out (by omega) _⟩
        case measure => simp [intOf]; omega
    · obtain rfl : k = 256 := by omega
      have HR := hide (hR.row (bel 256 fun b => !H b))
      go_wp2_with (first | (refine wpList_load_row rfl 24 _ rfl (w.heap.size + 2) rfl 24 (st (bel 256 fun b => !H b)) (0, 0) _ hO Tryd.underlying24 rfl (sizeSet (bel 256 fun b => !H b)) ?_) | (refine wpList_store_row rfl 24 _ _ rfl (w.heap.size + 1) (st (bel 256 fun b => !H b)) rfl rfl 24 (st nobs) hR (sizeSet (bel 256 fun b => !H b)) rfl (st_one (bel 256 fun b => !H b)) ?_))
      refine bodyPost_ret_by (results_cell_row rfl _ _ (w.heap.size + 1) 24 (st (bel 256 fun b => !H b)) (0, 0) _ rfl HR.out Tryd.underlying24 rfl (sizeSet (bel 256 fun b => !H b))) rfl ⟨congrArg Ending.returned (sv_congr _ _ fun b hb => bel_all _ b hb), below_row HB.out (by omega) _⟩
end Go.Proofs.YtmnjicpgdhnimaaDoor
