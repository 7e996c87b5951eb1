/-
  The reference's Fold.
-/
import Derived.Test.YtmnjicpgdhnimaaDoorSRefs
import Derived.Deep.Cut
import Derived.Deep.LoopGhost
namespace Go.Proofs.YtmnjicpgdhnimaaDoor
open Go.RowKit

/-- A set and its letters' other cases, of the letters below k (small ones). -/
def foB (H : Nat → Bool) (k c : Nat) : Bool := H c || (decide (97 ≤ c) && decide (c < k) && (H c || H (c - 32))) || (decide (65 ≤ c) && decide (c + 32 < k) && (H (c + 32) || H c))
def fold (H : Nat → Bool) : Nat → Bool := foB H 123
theorem foB_zero (H : Nat → Bool) (c : Nat) : H c = foB H 97 c := by
  unfold foB
  rw [show (decide (97 ≤ c) && decide (c < 97)) = false by simp, show (decide (65 ≤ c) && decide (c + 32 < 97)) = false by simp]
  simp
theorem foB_yes (H : Nat → Bool) (k c : Nat) (hk : 97 ≤ k) (h : (H k || H (k - 32)) = true) : plus (plus (foB H k) k) (k - 32) c = foB H (k + 1) c := by
  unfold foB plus
  by_cases e1 : c = k
  · subst e1
    simp [hk, h]
  · by_cases e2 : c = k - 32
    · have h5 : c + 32 = k := by omega
      have h6 : 65 ≤ c := by omega
      have h7 : k - 32 = c := by omega
      rw [h7] at h
      simp [e2.symm, h5, h6, h]
    · have h3 : (c < k + 1) ↔ (c < k) := by omega
      have h4 : (c + 32 < k + 1) ↔ (c + 32 < k) := by omega
      simp [e1, e2, h3, h4]
theorem foB_no (H : Nat → Bool) (k c : Nat) (hk : 97 ≤ k) (h : (H k || H (k - 32)) = false) : foB H k c = foB H (k + 1) c := by
  unfold foB
  by_cases e1 : c = k
  · subst e1
    simp [h]
    omega
  · by_cases e2 : c = k - 32
    · have h5 : c + 32 = k := by omega
      have h7 : k - 32 = c := by omega
      rw [h7] at h
      have h9 : (c < k + 1) ↔ (c < k) := by omega
      simp [h5, h, h9]
    · have h3 : (c < k + 1) ↔ (c < k) := by omega
      have h4 : (c + 32 < k + 1) ↔ (c + 32 < k) := by omega
      simp [h3, h4]

set_option maxRecDepth 100000 in
set_option maxHeartbeats 2000000 in
theorem refFold_any (H : Nat → Bool) (w : World) :
    Calls Tryd.prog 30 #[sv H] w fun e w' => e = .returned (sv (fold H)) ∧ Below w.heap.size w w' := by
  have hzero := zeroSet
  have hb1 := (Below.refl w.heap.size w).alloc (Nat.le_refl _) (.cells (st H) 24)
  have hb2 := hb1.alloc (by simp) (.cells (st nobs) 24)
  have hb3 := hide (below_row (hb2.alloc (by simp; omega) (.cells (st nobs) 24)) (show w.heap.size ≤ w.heap.size + 2 by omega) (st H))
  have h1 := ((SBox.new w w.heap.size H rfl).alloc (.cells (st nobs) 24))
  have h1' := hide ((h1.alloc (.cells (st nobs) 24)).row_other (w.heap.size + 2) (st H) (by omega))
  have h2 := hide (((SBox.new (w.alloc (.cells (st H) 24)) (w.heap.size + 1) nobs (by simp)).alloc (.cells (st nobs) 24)).row_other (w.heap.size + 2) (st H) (by omega))
  have h3 := SBox.new ((w.alloc (.cells (st H) 24)).alloc (.cells (st nobs) 24)) (w.heap.size + 2) nobs (by simp)
  have h3' := hide (h3.row H)
  clear hb1 hb2
  unfold sv
  go_enter Tryd.func30, Tryd.ntmps30
  go_wp2_with (first | (refine wpList_load_row rfl 24 _ rfl w.heap.size rfl 24 (st H) (0, 0) _ h1 Tryd.underlying24 rfl (sizeSet H) ?_) | (refine wpList_store_row rfl 24 _ _ rfl (w.heap.size + 2) (st H) rfl rfl 24 (st nobs) h3 (sizeSet H) rfl (st_one H) ?_))
  clear hzero h1 h3
  go_loopg [4] 26 (fun q i wr => ∃ k : Nat, k + q = 123 ∧ 97 ≤ k ∧ i = .int .u8 k ∧ SBox wr w.heap.size H ∧ SBox wr (w.heap.size + 1) nobs ∧ SBox wr (w.heap.size + 2) (foB H k) ∧ Below w.heap.size w wr)
  case atStart => exact ⟨97, by omega, by omega, rfl, h1'.out, h2.out, h3'.out.congr _ (fun b _ => foB_zero H b), hb3.out⟩
  case round =>
    obtain ⟨k, hk, hk97, rfl, hH, hR, hO, hB⟩ := hrel
    have HB := hide hB
    clear hB
    cases gk with
    | succ g =>
      have hki : (k : Int) ≤ 122 := by omega
      have hki2 : (97 : Int) ≤ k := by omega
      have hsub : (k : Int) - 32 = ((k - 32 : Nat) : Int) := by omega
      obtain ⟨r, hr⟩ : ∃ r, k - 32 = r := ⟨_, rfl⟩
      rw [hr] at hsub
      have hr2 : r < 256 := by omega
      have hkl : k < 256 := by omega
      have HR := hide hr
      clear hr
      go_wp2_with (refine wpList_load_row rfl 24 _ rfl w.heap.size rfl 24 (st H) (0, 0) _ hH Tryd.underlying24 rfl (sizeSet H) ?_)
      refine (refHas_any H k _ hkl).mono ?_
      rintro e w1 ⟨rfl, hb1⟩
      have hH1 := hH.below hb1 hH.lt
      have hR1 := hR.below hb1 hR.lt
      have hO1 := hO.below hb1 hO.lt
      have HB1 := hide (HB.out.trans (hb1.mono (by have := hO.lt; omega)))
      clear hH hR hO HB hb1
      have c0 := hH1.cell 0 (by omega)
      have c1 := hH1.cell 1 (by omega)
      have c2 := hH1.cell 2 (by omega)
      have c3 := hH1.cell 3 (by omega)
      cases hh : H k with
      | true =>
        have hh2 := hide hh
        clear hh
        clear c0 c1 c2 c3
        go_wp2_with (refine wpList_load_row rfl 24 _ rfl (w.heap.size + 2) rfl 24 (st (foB H k)) (0, 0) _ hO1 Tryd.underlying24 rfl (sizeSet (foB H k)) ?_)
        refine (with_any (foB H k) k _ hkl).mono ?_
        rintro e w2 ⟨rfl, hb2⟩
        have hH2 := hH1.below hb2 hH1.lt
        have hR2 := hR1.below hb2 hR1.lt
        have hO2 := hO1.below hb2 hO1.lt
        have HB2 := hide (HB1.out.trans (hb2.mono (by have := hO1.lt; omega)))
        clear hH1 hR1 hO1 HB1 hb2
        go_wp2_with fail
        refine (with_any (plus (foB H k) k) r _ hr2).mono ?_
        rintro e w3 ⟨rfl, hb3⟩
        have hH3 := hH2.below hb3 hH2.lt
        have hR3 := hR2.below hb3 hR2.lt
        have hO3 := hO2.below hb3 hO2.lt
        have HB3 := hide (HB2.out.trans (hb3.mono (by have := hO2.lt; omega)))
        clear hH2 hR2 hO2 HB2 hb3
        go_wp2_with (refine wpList_store_row rfl 24 _ _ rfl (w.heap.size + 2) (st (plus (plus (foB H k) k) r)) rfl rfl 24 (st (foB H k)) hO3 (sizeSet (plus (plus (foB H k) k) r)) rfl (st_one (plus (plus (foB H k) k) r)) ?_)
        go_roundg g
        case measure => omega
        case rel => exact ⟨k + 1, by omega, by omega, by go_num, hH3.row_other _ _ (by omega), hR3.row_other _ _ (by omega), (hO3.row _).congr _ (fun b _ => by rw [← HR.out]; exact foB_yes H k b hk97 (by simp [hh2.out])), below_row HB3.out (by omega) _⟩
      | false =>
        have hh2 := hide hh
        clear hh
        go_wp2_with fail
        refine (refHas_any H r _ hr2).mono ?_
        rintro e w2 ⟨rfl, hb2⟩
        have hH2 := hH1.below hb2 hH1.lt
        have hR2 := hR1.below hb2 hR1.lt
        have hO2 := hO1.below hb2 hO1.lt
        have HB2 := hide (HB1.out.trans (hb2.mono (by have := hO1.lt; omega)))
        clear hH1 hR1 hO1 HB1 hb2 c0 c1 c2 c3
        cases hg : H r with
        | false =>
          have hg2 := hide hg
          clear hg
          go_wp2_with fail
          go_roundg g
          case measure => omega
          case rel => exact ⟨k + 1, by omega, by omega, by go_num, hH2, hR2, hO2.congr _ (fun b _ => foB_no H k b hk97 (by rw [HR.out, hh2.out, hg2.out]; rfl)), HB2.out⟩
        | true =>
          have hg2 := hide hg
          clear hg
          go_wp2_with (refine wpList_load_row rfl 24 _ rfl (w.heap.size + 2) rfl 24 (st (foB H k)) (0, 0) _ hO2 Tryd.underlying24 rfl (sizeSet (foB H k)) ?_)
          refine (with_any (foB H k) k _ hkl).mono ?_
          rintro e w4 ⟨rfl, hb4⟩
          have hH4 := hH2.below hb4 hH2.lt
          have hR4 := hR2.below hb4 hR2.lt
          have hO4 := hO2.below hb4 hO2.lt
          have HB4 := hide (HB2.out.trans (hb4.mono (by have := hO2.lt; omega)))
          clear hH2 hR2 hO2 HB2 hb4
          go_wp2_with fail
          refine (with_any (plus (foB H k) k) r _ hr2).mono ?_
          rintro e w3 ⟨rfl, hb3⟩
          have hH3 := hH4.below hb3 hH4.lt
          have hR3 := hR4.below hb3 hR4.lt
          have hO3 := hO4.below hb3 hO4.lt
          have HB3 := hide (HB4.out.trans (hb3.mono (by have := hO4.lt; omega)))
          clear hH4 hR4 hO4 HB4 hb3
          go_wp2_with (refine wpList_store_row rfl 24 _ _ rfl (w.heap.size + 2) (st (plus (plus (foB H k) k) r)) rfl rfl 24 (st (foB H k)) hO3 (sizeSet (plus (plus (foB H k) k) r)) rfl (st_one (plus (plus (foB H k) k) r)) ?_)
          go_roundg g
          case measure => omega
          case rel => exact ⟨k + 1, by omega, by omega, by go_num, hH3.row_other _ _ (by omega), hR3.row_other _ _ (by omega), (hO3.row _).congr _ (fun b _ => by rw [← HR.out]; exact foB_yes H k b hk97 (by rw [HR.out, hh2.out, hg2.out]; rfl)), below_row HB3.out (by omega) _⟩
    | zero =>
      obtain rfl : k = 123 := by omega
      have HR := hide (hR.row (foB H 123))
      go_wp2_with (first | (refine wpList_load_row rfl 24 _ rfl (w.heap.size + 2) rfl 24 (st (foB H 123)) (0, 0) _ hO Tryd.underlying24 rfl (sizeSet (foB H 123)) ?_) | (refine wpList_store_row rfl 24 _ _ rfl (w.heap.size + 1) (st (foB H 123)) rfl rfl 24 (st nobs) hR (sizeSet (foB H 123)) rfl (st_one (foB H 123)) ?_))
      refine bodyPost_ret_by (results_cell_row rfl _ _ (w.heap.size + 1) 24 (st (foB H 123)) (0, 0) _ rfl HR.out Tryd.underlying24 rfl (sizeSet (foB H 123))) rfl ⟨rfl, below_row HB.out (by omega) _⟩
end Go.Proofs.YtmnjicpgdhnimaaDoor
