/-
  The reference's Meet.
-/
import Derived.Test.YtmnjicpgdhnimaaDoorSUn
namespace Go.Proofs.YtmnjicpgdhnimaaDoor
open Go.RowKit

/-- Have all of the first n sets the byte? -/
def allS (S : Nat → Nat → Bool) : Nat → Nat → Bool
  | 0, _ => true
  | n + 1, c => allS S n c && S n c

set_option maxRecDepth 100000 in
set_option maxHeartbeats 2000000 in
theorem refMeet_any (a : Option Addr) (len cap : Nat) (S : Nat → Nat → Bool) (w : World) (hl : len ≤ 9223372036854775807) (hS : Sets w a len S) :
    Calls Tryd.prog 20 #[.slice a len cap] w fun e w' => e = .returned (sv (allS S len)) ∧ Below w.heap.size w w' := by
  have hzero := zeroSet
  have hb1 := (Below.refl w.heap.size w).alloc (Nat.le_refl _) (.cells (st nobs) 24)
  have hb3 := hide (hb1.alloc (by simp) (.cells (st nobs) 24))
  have h2 := hide ((SBox.new w w.heap.size nobs rfl).alloc (.cells (st nobs) 24))
  have h3 := hide (SBox.new (w.alloc (.cells (st nobs) 24)) (w.heap.size + 1) nobs (by simp))
  have HZ := hide hS
  clear hb1 hS
  unfold sv
  go_enter Tryd.func20, Tryd.ntmps20
  go_wp2_with fail
  clear hzero
  go_loopg [4] 256 (fun q i wr => ∃ k : Nat, k + q = 256 ∧ i = .int .i64 k ∧ SBox wr w.heap.size nobs ∧ SBox wr (w.heap.size + 1) (bel k (allS S len)) ∧ Below w.heap.size w wr)
  case atStart => exact ⟨0, by omega, rfl, h2.out, h3.out.congr _ (fun b _ => by simp [bel, nobs]), hb3.out⟩
  case round =>
    obtain ⟨k, hk, rfl, hR, hO, hB⟩ := hrel
    have HB := hide hB
    cases gk with
    | succ g =>
      have hlt : k < 256 := by omega
      have hlti : (k : Int) < 256 := by omega
      have hk8 : (k : Int) % 256 = (k : Int) := by omega
      clear hB
      go_wp2_with fail
      go_loopg [5, 6] len (fun q s5 i ws => ∃ m : Nat, m + q = len ∧ i = .int .i64 m ∧ s5 = .bool (allS S m k) ∧ SBox ws w.heap.size nobs ∧ SBox ws (w.heap.size + 1) (bel k (allS S len)) ∧ Below w.heap.size w ws)
      case atStart => exact ⟨0, by omega, rfl, rfl, hR, hO, HB.out⟩
      case round =>
        clear hR hO HB
        obtain ⟨m, hm, rfl, rfl, hR, hO, hB⟩ := hrel
        have HB := hide hB
        cases gk with
        | succ g2 =>
          have hlm : m < len := by omega
          obtain h0 | ⟨b, off, rfl, hcz⟩ := HZ.out.below hB
          · omega
          have c0 := hcz m hlm 0 (by omega)
          have c1 := hcz m hlm 1 (by omega)
          have c2 := hcz m hlm 2 (by omega)
          have c3 := hcz m hlm 3 (by omega)
          simp only [Nat.add_zero] at c0
          clear hcz hB
          cases hall : allS S m k with
          | false =>
            have hn := hide (show allS S (m + 1) k = false by simp [allS, hall])
            clear hall
            go_wp2_with fail
            go_roundg g2
            case measure => omega
            case rel => exact ⟨m + 1, by omega, by go_num, by rw [hn.out], hR, hO, HB.out⟩
          | true =>
            have hn := hide (show allS S (m + 1) k = S m k by simp [allS, hall])
            clear hall
            go_wp2_with fail
            refine (refHas_any (S m) k _ hlt).mono ?_
            rintro e w1 ⟨rfl, hb1⟩
            have hR1 := hR.below hb1 hR.lt
            have hO1 := hO.below hb1 hO.lt
            have HB1 := hide (HB.out.trans (hb1.mono (by have := hO.lt; omega)))
            clear hR hO HB hb1 c0 c1 c2 c3
            go_wp2_with fail
            go_roundg g2
            case measure => omega
            case rel => exact ⟨m + 1, by omega, by go_num, by rw [hn.out], hR1, hO1, HB1.out⟩
        | zero =>
          obtain rfl : m = len := by omega
          clear hB
          cases hall : allS S m k with
          | false =>
            have hh := hide hall
            clear hall
            go_wp2_with fail
            go_roundg g
            case measure => omega
            case rel => exact ⟨k + 1, by omega, by go_num, hR, hO.congr _ (fun b _ => bel_skip k (allS S m) hh.out b), HB.out⟩
          | true =>
            have hh := hide hall
            clear hall
            go_wp2_with (refine wpList_load_row rfl 24 _ rfl (w.heap.size + 1) rfl 24 (st (bel k (allS S m))) (0, 0) _ hO Tryd.underlying24 rfl (sizeSet (bel k (allS S m))) ?_)
            refine (with_any (bel k (allS S m)) k _ hlt).mono ?_
            rintro e w2 ⟨rfl, hb2⟩
            have hR2 := hR.below hb2 hR.lt
            have hO2 := hO.below hb2 hO.lt
            have HB2 := hide (HB.out.trans (hb2.mono (by have := hO.lt; omega)))
            clear hR hO HB hb2
            go_wp2_with (refine wpList_store_row rfl 24 _ _ rfl (w.heap.size + 1) (st (plus (bel k (allS S m)) k)) rfl rfl 24 (st (bel k (allS S m))) hO2 (sizeSet (plus (bel k (allS S m)) k)) rfl (st_one (plus (bel k (allS S m)) k)) ?_)
            go_roundg g
            case measure => omega
            case rel => exact ⟨k + 1, by omega, by go_num, hR2.row_other _ _ (by omega), (hO2.row _).congr _ (fun b _ => bel_plus k (allS S m) hh.out b), below_row HB2.out (by omega) _⟩
    | zero =>
      obtain rfl : k = 256 := by omega
      have HR := hide (hR.row (bel 256 (allS S len)))
      go_wp2_with (first | (refine wpList_load_row rfl 24 _ rfl (w.heap.size + 1) rfl 24 (st (bel 256 (allS S len))) (0, 0) _ hO Tryd.underlying24 rfl (sizeSet (bel 256 (allS S len))) ?_) | (refine wpList_store_row rfl 24 _ _ rfl w.heap.size (st (bel 256 (allS S len))) rfl rfl 24 (st nobs) hR (sizeSet (bel 256 (allS S len))) rfl (st_one (bel 256 (allS S len))) ?_))
      refine bodyPost_ret_by (results_cell_row rfl _ _ w.heap.size 24 (st (bel 256 (allS S len))) (0, 0) _ rfl HR.out Tryd.underlying24 rfl (sizeSet (bel 256 (allS S len)))) rfl ⟨congrArg Ending.returned (sv_congr _ _ fun b hb => bel_all (allS S len) b hb), below_row HB.out (by omega) _⟩
end Go.Proofs.YtmnjicpgdhnimaaDoor
