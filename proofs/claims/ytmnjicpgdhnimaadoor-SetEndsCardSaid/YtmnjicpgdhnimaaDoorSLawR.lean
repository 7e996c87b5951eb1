/-
  mudlarklaw08.ranges: two rows of ranges compared.
-/
import Derived.Test.YtmnjicpgdhnimaaDoorSRgM
import Derived.BigQuiet
import Derived.Deep.QuietTactic
namespace Go.Proofs.YtmnjicpgdhnimaaDoor
open Go.RowKit

set_option maxHeartbeats 1000000 in
theorem eqPair (a0 a1 b0 b1 : Int) (w : World) : (Op.equalIn 10000 45 (.agg #[.int .u8 a0, .int .u8 a1]) (.agg #[.int .u8 b0, .int .u8 b1])).run Tryd.prog w = .ok (a0 == b0 && a1 == b1) w := by
  have u3 := Tryd.underlying5
  have a3' := Tryd.isAgg5
  have z3 := Tryd.sizeOf5
  rw [show (10000 : Nat) = 9999 + 1 from rfl, Op.equalIn]
  simp only [Sem.run_bind, run_underlying Tryd.underlying45, Result.andThen_ok]
  simp only [Std.Legacy.Range.forIn_eq_forIn_range', Std.Legacy.Range.size, Nat.sub_zero, Nat.add_sub_cancel, Nat.div_one, List.range'_succ, List.range'_zero, List.forIn_cons, List.forIn_nil]
  go_simp
  by_cases h1 : a0 = b0 <;> by_cases h2 : a1 = b1 <;> simp [h1, h2]
theorem eqPair_same (a0 a1 : Int) (w : World) : (Op.equalIn 10000 45 (.agg #[.int .u8 a0, .int .u8 a1]) (.agg #[.int .u8 a0, .int .u8 a1])).run Tryd.prog w = .ok true w := by
  rw [eqPair]; simp
/-- What is owned of ranges, cell by cell. -/
theorem owns_pair {w : World} {B n : Nat} {A : Option Addr} {C : Nat} {R : List (Nat × Nat)} (h : w.ownsRow B 45 2 (.slice A n C) n (rgc R)) (hn : R.length = n) (h0 : 0 < n) :
    ∃ g, A = some ⟨g, 0, none⟩ ∧ n ≤ C ∧ ∀ i, i < n → w.cell? ⟨g, i * 2, none⟩ = some (.int .u8 ((R.getD i (0, 0)).1 : Nat)) ∧ w.cell? ⟨g, i * 2 + 1, none⟩ = some (.int .u8 ((R.getD i (0, 0)).2 : Nat)) := by
  obtain ⟨g, C', e, _, _, hC, _⟩ := owns_cellS h (rgc_get R 0 (by omega)).1
  cases e
  refine ⟨g, rfl, hC, fun i hi => ?_⟩
  obtain ⟨h1, h2⟩ := rgc_get R i (by omega)
  obtain ⟨g1, C1, e1, c1, _⟩ := owns_cellS h h1
  obtain ⟨g2, C2, e2, c2, _⟩ := owns_cellS h h2
  cases e1
  cases e2
  exact ⟨c1, c2⟩

set_option maxRecDepth 100000 in
set_option maxHeartbeats 2000000 in
theorem lawRanges_any (a b : Option Addr) (n ca cb Ba Bb : Nat) (R : List (Nat × Nat)) (w : World) (hn : R.length = n) (hn2 : n ≤ 1000) (ha : w.ownsRow Ba 45 2 (.slice a n ca) n (rgc R)) (hb : w.ownsRow Bb 45 2 (.slice b n cb) n (rgc R)) :
    Calls Tryd.prog 35 #[.slice a n ca, .slice b n cb] w fun e w' => e = .returned (.bool true) ∧ Below w.heap.size w w' := by
  have HA := hide ha
  have HB := hide hb
  have HN := hide hn
  clear ha hb hn
  go_enter Tryd.func35, Tryd.ntmps35
  go_wp2_with fail
  go_loopg [5] n (fun q s5 wr => ∃ k : Nat, k + q = n ∧ s5 = .int .i64 k ∧ Below w.heap.size w wr)
  case atStart => exact ⟨0, by omega, rfl, Below.refl _ _⟩
  case round =>
    obtain ⟨k, hkq, rfl, hbr⟩ := hrel
    have HBR := hide hbr
    cases gk with
    | zero =>
      obtain rfl : k = n := by omega
      clear hbr
      go_wp2_with fail
      go_ret
      exact ⟨rfl, HBR.out⟩
    | succ q =>
      have hk1 : (k : Int) < (n : Int) := by omega
      have hk0 : (0 : Int) ≤ (k : Int) := by omega
      obtain ⟨ga, rfl, _, hca⟩ := owns_pair (owns_thruS HA.out hbr) HN.out (by omega)
      obtain ⟨gb, rfl, _, hcb⟩ := owns_pair (owns_thruS HB.out hbr) HN.out (by omega)
      obtain ⟨c0, c1⟩ := hca k (by omega)
      obtain ⟨d0, d1⟩ := hcb k (by omega)
      generalize (R.getD k (0, 0)).1 = x at *
      generalize (R.getD k (0, 0)).2 = y at *
      have he := fun W => eqPair_same (x : Int) (y : Int) W
      clear hca hcb hbr
      go_wp2_with fail
      go_region
      all_goals
        go_wp2_with fail
        go_roundg q
        case measure => omega
        case rel => exact ⟨k + 1, by omega, by go_num, HBR.out.drew⟩
end Go.Proofs.YtmnjicpgdhnimaaDoor
