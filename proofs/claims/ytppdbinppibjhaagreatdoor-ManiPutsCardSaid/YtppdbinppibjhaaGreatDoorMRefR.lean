/-
  The reference's Right.
-/
import Derived.Test.YtppdbinppibjhaaGreatDoorMRights
import Derived.Test.YtppdbinppibjhaaGreatDoorMPut
import Derived.Test.YtppdbinppibjhaaGreatDoorMShAll
set_option maxHeartbeats 2000000
set_option maxRecDepth 100000
set_option linter.unusedVariables false
set_option linter.unusedSimpArgs false
namespace Go.Proofs.YtppdbinppibjhaaGreatDoor
open Go.RowKit Go.Shelf
theorem betZ_1 {lo hi n : Int} : betZ lo hi (fun _ => n) 1 = (decide (lo ≤ n) && decide (n ≤ hi)) := by
 rw [Bool.eq_iff_iff, betZ_iff, Bool.and_eq_true, decide_eq_true_eq, decide_eq_true_eq]
 exact ⟨fun h => h 0 (by omega), fun h i _ => h⟩
def aheadD (D : List Int) : Nat → Int
 | 0 => -1
 | j + 1 => D.getD j 0
theorem upToR_at (D : List Int) : upToR 3999 (-1) D = true ↔ ∀ i, i < D.length → aheadD D i < D.getD i 0 ∧ D.getD i 0 < 4000 := by
 rw [upToR_iff]
 constructor
 ·intro h i hi
  have := h i hi
  cases i with
  | zero => exact ⟨this.2, by omega⟩
  | succ i => exact ⟨this.2, by omega⟩
 ·intro h i hi
  have := h i hi
  cases i with
  | zero => exact ⟨by omega, this.1⟩
  | succ i => exact ⟨by omega, this.1⟩
theorem refRightM_any (G : Int) (a : Option Addr) (n cap : Nat) (P : Nat → Shd) (w : World) (hn : n ≤ 140737488351232) (hG : (Lit.int .i64 G).wf = true) (hP : Shds w a n P) (hD : ∀ i, i < n → (P i).D.length ≤ 140737488351232) :
  Calls Tryz.prog 16 #[.agg #[.int .i64 G, .slice a n cap]] w fun e w' => e = .returned (.bool (rightM ⟨G, stsN P n⟩)) ∧ Below w.heap.size w w' := by
 obtain ⟨W1, hW1⟩ : ∃ W1, w.alloc (.cells #[.int .i64 G, .slice a n cap] 24) = W1 := ⟨_, rfl⟩
 have hb1 : Below w.heap.size w W1 := by rw [← hW1]; exact below_alloc _ _
 have hs1 : W1.heap.size = w.heap.size + 1 := by rw [← hW1]; simp
 have h1 : W1.heap[w.heap.size]? = some (.cells #[.int .i64 G, .slice a n cap] 24 (0, 0)) := by rw [← hW1]; exact heap_alloc_new _ _
 obtain ⟨m0, m1⟩ := cells2_at h1
 have hP1 := hP.below hb1
 have hrm := rightM_is G P n
 have HW1 := hide hW1
 have HB := hide (And.intro hb1 hs1)
 have HC := hide (And.intro m0 m1)
 obtain ⟨R, hR⟩ : ∃ R, rightM ⟨G, stsN P n⟩ = R := ⟨_, rfl⟩
 rw [hR] at hrm ⊢
 clear hW1 hb1 hs1 h1 hP hR
 go_enter Tryz.func16, Tryz.ntmps16
 by_cases hg0 : G < 0
 ·have hR : R = false := by
   rw [hrm, betZ_1, decide_eq_false (by omega : ¬ (0 : Int) ≤ G)]; rfl
  have HR := hide hR
  clear hrm hR hP1 hD
  go_wp2_with fail
  rw [HW1.out]
  go_wp2_with fail
  go_ret
  exact ⟨by rw [HR.out]; rfl, HB.out.1⟩
 by_cases hg1 : 1099511627776 < G
 ·have hR : R = false := by
   rw [hrm, betZ_1, decide_eq_false (by omega : ¬ G ≤ 1099511627776), Bool.and_false]; rfl
  have HR := hide hR
  clear hrm hR hP1 hD
  go_wp2_with fail
  rw [HW1.out]
  go_wp2_with fail
  go_ret
  exact ⟨by rw [HR.out]; rfl, HB.out.1⟩
 by_cases hn4 : 40 < n
 ·have hnz : (40 : Int) < (n : Int) := by omega
  have hR : R = false := by
   rw [hrm, decide_eq_false (by omega : ¬ (n : Int) ≤ 40), Bool.and_false]; rfl
  have HR := hide hR
  clear hrm hR hP1 hD
  go_wp2_with fail
  rw [HW1.out]
  go_wp2_with fail
  go_ret
  exact ⟨by rw [HR.out]; rfl, HB.out.1⟩
 have hnz : (n : Int) ≤ 40 := by omega
 have hR : R = rightS G 0 (stsN P n) := by
  rw [hrm, betZ_1, decide_eq_true (by omega : (0 : Int) ≤ G), decide_eq_true (by omega : G ≤ 1099511627776), decide_eq_true hnz]; rfl
 have HR := hide hR
 clear hrm hR
 go_wp2_with fail
 rw [HW1.out]
 go_loopg [3, 4] n (fun q s3 s4 wr => ∃ k : Nat, k + q = n ∧ s4 = .int .i64 k ∧ s3 = .int .i64 (aheadS 0 P k) ∧ rightS G 0 (stsN P k) = true ∧ Below W1.heap.size W1 wr)
 case atStart => exact ⟨0, by omega, rfl, rfl, rfl, Below.refl _ _⟩
 case round =>
  obtain ⟨k, hkq, rfl, rfl, hrk, hbr⟩ := hrel
  have n0 := cell_thru m0 hbr
  have n1 := cell_thru m1 hbr
  have HBR := hide hbr
  cases gk with
  | zero =>
    obtain rfl : k = n := by omega
    have HK := hide hrk
    clear hP1 hD hrk hbr
    go_wp2_with fail
    go_ret
    exact ⟨by rw [HR.out, HK.out]; rfl, below_thru HB.out.1 HBR.out⟩
  | succ q =>
    have hkn : k < n := by omega
    have hkz : (k : Int) < (n : Int) := by omega
    have hk0 : (0 : Int) ≤ (k : Int) := by omega
    obtain ⟨ga, oa, rfl, ⟨x0, x1, x2, x3⟩, ok⟩ := hP1.cells k hkn
    have x0' := cell_thru x0 hbr
    have x1' := cell_thru x1 hbr
    have x2' := cell_thru x2 hbr
    have x3' := cell_thru x3 hbr
    have hbD := ok.bD.below hbr
    have hbad : okS G (aheadS 0 P k) (P k).st = false → R = false := fun h => HR.out.trans (rightS_bad hkn h)
    have hokd : ∀ b : Bool, okS G (aheadS 0 P k) (P k).st = b → rightS G 0 (stsN P (k + 1)) = b := fun b h => by rw [rightS_succ, hrk, h]; rfl
    have hoks : okS G (aheadS 0 P k) (P k).st = (((decide (aheadS 0 P k < (P k).N) && decide ((P k).N ≤ G)) && (decide (0 ≤ (P k).Z) && decide ((P k).Z ≤ 67108864))) && upToR 3999 (-1) (P k).D) := rfl
    have hll := hD k hkn
    clear ok x0 x1 x2 x3 hP1 hD hbr
    generalize aheadS 0 P k = la at *
    generalize okS G la (P k).st = okk at *
    obtain ⟨la', hN⟩ : ∃ N, (P k).N = N := ⟨_, rfl⟩
    have HLA := hide (show aheadS 0 P (k + 1) = la' from hN)
    obtain ⟨Z, hZ⟩ : ∃ Z, (P k).Z = Z := ⟨_, rfl⟩
    obtain ⟨S, hS⟩ : ∃ S, (P k).S = S := ⟨_, rfl⟩
    obtain ⟨D, hDD⟩ : ∃ D, (P k).D = D := ⟨_, rfl⟩
    obtain ⟨m, hm⟩ : ∃ m, D.length = m := ⟨_, rfl⟩
    obtain ⟨pD, hpD⟩ : ∃ pD, (P k).pD = pD := ⟨_, rfl⟩
    obtain ⟨cD, hcD⟩ : ∃ cD, (P k).cD = cD := ⟨_, rfl⟩
    rw [hN] at x0' hoks
    rw [hZ] at x1' hoks
    rw [hS] at x2'
    rw [hDD] at x3' hoks hll hbD
    rw [hm, hpD, hcD] at x3'
    rw [hm] at hll
    rw [hpD, hm] at hbD
    clear hN hZ hS hDD hpD hcD
    obtain ⟨W2, hW2⟩ : ∃ W2, wr.alloc (.cells #[.int .i64 la', .int .i64 Z, .int .u32 (S : Nat), .slice pD m cD] 54) = W2 := ⟨_, rfl⟩
    have hb2 : Below wr.heap.size wr W2 := by rw [← hW2]; exact below_alloc _ _
    have h2 : W2.heap[wr.heap.size]? = some (.cells #[.int .i64 la', .int .i64 Z, .int .u32 (S : Nat), .slice pD m cD] 54 (0, 0)) := by rw [← hW2]; exact heap_alloc_new _ _
    obtain ⟨y0, y1, y2, y3⟩ := cells4_at h2
    have n0' := cell_thru n0 hb2
    have n1' := cell_thru n1 hb2
    have hbD2 := hbD.below hb2
    have HB2 := hide (below_thru HB.out.1 (below_thru HBR.out hb2))
    have HBR2 := hide (below_thru HBR.out hb2)
    have HW2 := hide hW2
    have HY := hide (And.intro n0' (And.intro n1' (And.intro y0 (And.intro y1 (And.intro y2 y3)))))
    rw [← hW2] at n0' n1' y0 y1 y2 y3
    clear hW2 hb2 h2 hbD
    by_cases c1 : la' ≤ la
    ·have hf := hbad (by rw [hoks, decide_eq_false (by omega : ¬ la < la')]; simp)
     have HR2 := hide hf
     clear hbad hokd hoks hf hbD2 hrk hm hll
     go_wp2_with fail
     rw [HW2.out]
     go_ret
     exact ⟨by rw [HR2.out]; rfl, HB2.out⟩
    by_cases c2 : G < la'
    ·have hf := hbad (by rw [hoks, decide_eq_false (by omega : ¬ la' ≤ G)]; simp)
     have HR2 := hide hf
     clear hbad hokd hoks hf hbD2 hrk hm hll
     go_wp2_with fail
     rw [HW2.out]
     go_ret
     exact ⟨by rw [HR2.out]; rfl, HB2.out⟩
    by_cases c3 : Z < 0
    ·have hf := hbad (by rw [hoks, decide_eq_false (by omega : ¬ 0 ≤ Z)]; simp)
     have HR2 := hide hf
     clear hbad hokd hoks hf hbD2 hrk hm hll
     go_wp2_with fail
     rw [HW2.out]
     go_ret
     exact ⟨by rw [HR2.out]; rfl, HB2.out⟩
    by_cases c4 : 67108864 < Z
    ·have hf := hbad (by rw [hoks, decide_eq_false (by omega : ¬ Z ≤ 67108864)]; simp)
     have HR2 := hide hf
     clear hbad hokd hoks hf hbD2 hrk hm hll
     go_wp2_with fail
     rw [HW2.out]
     go_ret
     exact ⟨by rw [HR2.out]; rfl, HB2.out⟩
    have hoks' : okk = upToR 3999 (-1) D := by
     rw [hoks, decide_eq_true (by omega : la < la'), decide_eq_true (by omega : la' ≤ G), decide_eq_true (by omega : 0 ≤ Z), decide_eq_true (by omega : Z ≤ 67108864)]
     simp
    have HO := hide (And.intro hbad (And.intro hokd (And.intro hoks' (And.intro hm (And.intro hbD2 hll)))))
    clear hbad hokd hoks hoks' hbD2 hrk hm hll
    go_wp2_with fail
    rw [HW2.out]
    obtain ⟨z0, z1, z2, z3, z4, z5⟩ := HY.out
    clear n0' n1' y0 y1 y2 y3
    go_loopg [6, 7] m (fun q2 s6 s7 wr2 => ∃ j : Nat, j + q2 = m ∧ s7 = .int .i64 j ∧ s6 = .int .i64 (aheadD D j) ∧ (∀ i, i < j → aheadD D i < D.getD i 0 ∧ D.getD i 0 < 4000) ∧ wr2 = W2)
    case atStart => exact ⟨0, by omega, rfl, rfl, fun i hi => by omega, rfl⟩
    case round =>
     obtain ⟨j, hjq, rfl, rfl, hall, rfl⟩ := hrel
     cases gk with
     | zero =>
       obtain rfl : j = m := by omega
       have hrt : rightS G 0 (stsN P (k + 1)) = true := HO.out.2.1 true (by rw [HO.out.2.2.1, upToR_at, HO.out.2.2.2.1]; exact hall)
       have HRT := hide hrt
       clear hall hrt
       go_wp2_with fail
       go_roundg q
       case measure => omega
       case rel => exact ⟨k + 1, by omega, by go_num, by rw [HLA.out], HRT.out, HBR2.out⟩
     | succ q2 =>
       have hjm : j < m := by omega
       have hjz : (j : Int) < (m : Int) := by omega
       have hj0 : (0 : Int) ≤ (j : Int) := by omega
       have hjb : (j : Int) < 140737488351233 := by have := HO.out.2.2.2.2.2; omega
       obtain ⟨gd, od, rfl, cc⟩ := HO.out.2.2.2.2.1.cell (by omega)
       have cj := cc j hjm
       have HALL := hide hall
       have hbadj : ¬ (aheadD D j < D.getD j 0 ∧ D.getD j 0 < 4000) → R = false := fun h => HO.out.1 (by
        rw [HO.out.2.2.1]
        cases hu : upToR 3999 (-1) D with
        | false => rfl
        | true => exact absurd ((upToR_at D).1 hu j (by rw [HO.out.2.2.2.1]; exact hjm)) h)
       have hsucD : aheadD D (j + 1) = D.getD j 0 := rfl
       clear cc hall
       obtain ⟨dj, hdj⟩ : ∃ d, D.getD j 0 = d := ⟨_, rfl⟩
       obtain ⟨ah, hah⟩ : ∃ d, aheadD D j = d := ⟨_, rfl⟩
       have HDJ := hide (And.intro hdj (And.intro hah hsucD))
       simp only [hdj] at cj hbadj
       rw [hah] at hbadj ⊢
       clear hdj hah hsucD
       by_cases d1 : dj ≤ ah
       ·have HR2 := hide (hbadj (by omega))
        clear hbadj
        go_wp2_with fail
        go_ret
        exact ⟨by rw [HR2.out]; rfl, HB2.out⟩
       by_cases d2 : 4000 ≤ dj
       ·have HR2 := hide (hbadj (by omega))
        clear hbadj
        go_wp2_with fail
        go_ret
        exact ⟨by rw [HR2.out]; rfl, HB2.out⟩
       clear hbadj
       go_wp2_with fail
       go_roundg q2
       case measure => omega
       case rel => exact ⟨j + 1, by omega, by go_num, by rw [HDJ.out.2.2, HDJ.out.1], fun i hi => by
        by_cases h : i < j
        ·exact HALL.out i h
        ·obtain rfl : i = j := by omega
         rw [HDJ.out.1, HDJ.out.2.1]
         omega, rfl⟩
end Go.Proofs.YtppdbinppibjhaaGreatDoor
