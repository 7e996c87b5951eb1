/-
  The program's Union.
-/
import Derived.Test.YtmnjicpgdhnimaaDoorSUn
import Derived.Test.YtmnjicpgdhnimaaDoorSOfP
namespace Go.Proofs.YtmnjicpgdhnimaaDoor
open Go.RowKit

/-- The union's numbers: of the first n sets whole, of the set n the first i. -/
def unP (S : Nat → Nat → Bool) (n i b : Nat) : Bool := anyS S n b || (decide (b / 64 < i) && S n b)
theorem unP_zero (S : Nat → Nat → Bool) (n b : Nat) : anyS S n b = unP S n 0 b := by simp [unP]
theorem unP_four (S : Nat → Nat → Bool) (n b : Nat) (hb : b < 256) : unP S n 4 b = anyS S (n + 1) b := by
  have h : b / 64 < 4 := by omega
  simp [unP, anyS, h]
theorem unP_word (S : Nat → Nat → Bool) (n i : Nat) : bits .or .u64 ((wd (unP S n i) i : Nat) : Int) ((wd (S n) i : Nat) : Int) = ((wd (unP S n (i + 1)) i : Nat) : Int) := by
  rw [u64_or_nat _ _ (wd_lt _ _) (wd_lt _ _)]
  congr 1
  refine wd_ext _ _ _ (show _ < 2 ^ 64 from Nat.or_lt_two_pow (wd_lt _ _) (wd_lt _ _)) fun k hk => ?_
  rw [Nat.testBit_or, wd_bit _ _ _ hk, wd_bit _ _ _ hk]
  unfold unP
  have h1 : ¬ (64 * i + k) / 64 < i := by omega
  have h2 : (64 * i + k) / 64 < i + 1 := by omega
  simp [h1, h2]
theorem unP_other (S : Nat → Nat → Bool) (n i j : Nat) (h : j ≠ i) : wd (unP S n (i + 1)) j = wd (unP S n i) j := by
  refine (wd_ext _ _ _ (wd_lt _ _) fun k hk => ?_).symm
  rw [wd_bit _ _ _ hk]
  unfold unP
  have h1 : ((64 * j + k) / 64 < i + 1) ↔ ((64 * j + k) / 64 < i) := by omega
  simp [h1]

set_option maxRecDepth 100000 in
set_option maxHeartbeats 2000000 in
theorem union_any (a : Option Addr) (len cap : Nat) (S : Nat → Nat → Bool) (w : World) (hl : len ≤ 9223372036854775807) (hS : Sets w a len S) :
    Calls Tryd.prog 17 #[.slice a len cap] w fun e w' => e = .returned (sv (anyS S len)) ∧ Below w.heap.size w w' := by
  have hzero := zeroSet
  have hb1 := (Below.refl w.heap.size w).alloc (Nat.le_refl _) (.cells (st nobs) 24)
  have hb3 := hide (hb1.alloc (by simp) (.cells (st nobs) 24))
  have h2 := hide ((SBox.new w w.heap.size nobs rfl).alloc (.cells (st nobs) 24))
  have h3 := hide (SBox.new (w.alloc (.cells (st nobs) 24)) (w.heap.size + 1) nobs (by simp))
  have HZ := hide hS
  clear hb1 hS
  unfold sv
  go_enter Tryd.func17, Tryd.ntmps17
  go_wp2_with fail
  go_loopg [5, 9] len (fun q s5 i wr => ∃ k : Nat, k + q = len ∧ i = .int .i64 k ∧ SBox wr w.heap.size nobs ∧ SBox wr (w.heap.size + 1) (anyS S k) ∧ Below w.heap.size w wr)
  case atStart => exact ⟨0, by omega, rfl, h2.out, h3.out.congr _ (fun b _ => rfl), hb3.out⟩
  case round =>
    obtain ⟨k, hk, rfl, hR, hO, hB⟩ := hrel
    have HB := hide hB
    cases gk with
    | succ g =>
      have hlt : k < len := by omega
      obtain h0 | ⟨b, off, rfl, hcz⟩ := HZ.out.below hB
      · omega
      have c0 := hcz k hlt 0 (by omega)
      have c1 := hcz k hlt 1 (by omega)
      have c2 := hcz k hlt 2 (by omega)
      have c3 := hcz k hlt 3 (by omega)
      simp only [Nat.add_zero] at c0
      clear hcz hB
      have hN := SBox.new wr wr.heap.size nobs rfl
      have hbs := hO.lt
      have hN2 := hide (hN.row (S k))
      have hR2 := hide ((hR.alloc (.cells (st nobs) 24)).row_other wr.heap.size (st (S k)) (by omega))
      have hO2 := hide ((hO.alloc (.cells (st nobs) 24)).row_other wr.heap.size (st (S k)) (by omega))
      have HB2 := hide (below_row (HB.out.alloc (by omega) (.cells (st nobs) 24)) (show w.heap.size ≤ wr.heap.size by omega) (st (S k)))
      have hbs2 := hide hbs
      clear hR hO HB hbs
      go_wp2_with (refine wpList_store_row rfl 24 _ _ rfl wr.heap.size (st (S k)) rfl rfl 24 (st nobs) hN (sizeSet (S k)) rfl (st_one (S k)) ?_)
      clear hN c0 c1 c2 c3
      revert hN2 hR2 hO2 HB2
      generalize (wr.alloc (.cells (st nobs) 24)).setRow wr.heap.size (st (S k)) = wy
      intro hN2 hR2 hO2 HB2
      obtain ⟨bx, hbx⟩ : ∃ bx, wr.heap.size = bx := ⟨_, rfl⟩
      rw [hbx] at hN2 hbs2 ⊢
      clear hbx
      go_loopg [6, 13] 4 (fun q s6 i wx => ∃ m : Nat, m + q = 4 ∧ i = .int .i64 m ∧ SBox wx w.heap.size nobs ∧ SBox wx (w.heap.size + 1) (unP S k m) ∧ SBox wx bx (S k) ∧ Below w.heap.size w wx)
      case atStart => exact ⟨0, by omega, rfl, hR2.out, hO2.out.congr _ (fun b _ => unP_zero S k b), hN2.out, HB2.out⟩
      case round =>
        clear hN2 hR2 hO2 HB2
        obtain ⟨m, hm, rfl, hR, hO, hN, hB⟩ := hrel
        have HB := hide hB
        cases gk with
        | succ g2 =>
          have hlti : (m : Int) < 4 := by omega
          have hm4 : m < 4 := by omega
          have hw := hO.cell m hm4
          have hf := hO.frozen m
          have hx := hN.cell m hm4
          have ho := unP_word S k m
          have hne := hbs2.out
          have HS : Hid (SBox (wr.setCell ⟨w.heap.size + 1, m, none⟩ (.int .u64 (wd (unP S k (m + 1)) m : Nat))) (w.heap.size + 1) (unP S k (m + 1))) := hO.set m _ hm4 rfl fun j _ hj => unP_other S k m j hj
          have HT : Hid (SBox (wr.setCell ⟨w.heap.size + 1, m, none⟩ (.int .u64 (wd (unP S k (m + 1)) m : Nat))) w.heap.size nobs) := (Below.heap_setCell wr ⟨w.heap.size + 1, m, none⟩ _ w.heap.size (by simp)).trans hR
          have HU : Hid (SBox (wr.setCell ⟨w.heap.size + 1, m, none⟩ (.int .u64 (wd (unP S k (m + 1)) m : Nat))) bx (S k)) := (Below.heap_setCell wr ⟨w.heap.size + 1, m, none⟩ _ bx (by simp; omega)).trans hN
          have HBS := hide (HB.out.setCell (p := ⟨w.heap.size + 1, m, none⟩) (Nat.le_succ _) (.int .u64 (wd (unP S k (m + 1)) m : Nat)))
          clear hB hne hR hO hN HB
          go_wp2_with fail
          go_region
          go_wp2_with fail
          go_roundg g2
          case measure => omega
          case rel => exact ⟨m + 1, by omega, by go_num, HT.out, HS.out, HU.out, HBS.out.drew⟩
        | zero =>
          obtain rfl : m = 4 := by omega
          clear hB
          go_wp2_with fail
          go_roundg g
          case measure => omega
          case rel => exact ⟨k + 1, by omega, by go_num, hR, hO.congr _ (fun b hb => unP_four S k b hb), HB.out⟩
    | zero =>
      obtain rfl : k = len := by omega
      have HR := hide (hR.row (anyS S k))
      go_wp2_with (first | (refine wpList_load_row rfl 24 _ rfl (w.heap.size + 1) rfl 24 (st (anyS S k)) (0, 0) _ hO Tryd.underlying24 rfl (sizeSet (anyS S k)) ?_) | (refine wpList_store_row rfl 24 _ _ rfl w.heap.size (st (anyS S k)) rfl rfl 24 (st nobs) hR (sizeSet (anyS S k)) rfl (st_one (anyS S k)) ?_))
      refine bodyPost_ret_by (results_cell_row rfl _ _ w.heap.size 24 (st (anyS S k)) (0, 0) _ rfl HR.out Tryd.underlying24 rfl (sizeSet (anyS S k))) rfl ⟨rfl, below_row HB.out (by omega) _⟩
end Go.Proofs.YtmnjicpgdhnimaaDoor
