/-
  Two sets compared.
-/
import Derived.Test.YtmnjicpgdhnimaaDoorSMath
import Derived.Laws.StructEq
namespace Go.Proofs.YtmnjicpgdhnimaaDoor
open Go.RowKit

set_option maxHeartbeats 1000000 in
theorem eqSet (a0 a1 a2 a3 b0 b1 b2 b3 : Int) (w : World) : (Op.equalIn 10000 24 (.agg #[.int .u64 a0, .int .u64 a1, .int .u64 a2, .int .u64 a3]) (.agg #[.int .u64 b0, .int .u64 b1, .int .u64 b2, .int .u64 b3])).run Tryd.prog w = .ok (a0 == b0 && (a1 == b1 && (a2 == b2 && a3 == b3))) w := by
  have u3 := Tryd.underlying22
  have a3' := Tryd.isAgg22
  have z3 := Tryd.sizeOf22
  rw [show (10000 : Nat) = 9999 + 1 from rfl, Op.equalIn]
  simp only [Sem.run_bind, run_underlying Tryd.underlying24, Result.andThen_ok]
  simp only [Std.Legacy.Range.forIn_eq_forIn_range', Std.Legacy.Range.size, Nat.sub_zero, Nat.add_sub_cancel, Nat.div_one, List.range'_succ, List.range'_zero, List.forIn_cons, List.forIn_nil]
  go_simp
  by_cases h1 : a0 = b0 <;> by_cases h2 : a1 = b1 <;> by_cases h3 : a2 = b2 <;> by_cases h4 : a3 = b3 <;> simp [h1, h2, h3, h4]
theorem eqSt (H G : Nat → Bool) (w : World) (r : Bool) (h : r = true ↔ ∀ b, b < 256 → H b = G b) : (Op.equalIn 10000 24 (.agg (st H)) (.agg (st G))).run Tryd.prog w = .ok r w := by
  refine (eqSet _ _ _ _ _ _ _ _ w).trans ?_
  congr 1
  rw [Bool.eq_iff_iff, h]
  simp only [Bool.and_eq_true, beq_iff_eq]
  constructor
  · rintro ⟨h0, h1, h2, h3⟩
    refine st_inj H G ?_
    unfold st sc
    rw [h0, h1, h2, h3]
  · intro e
    exact ⟨by rw [wd_congr H G 0 (by omega) e], by rw [wd_congr H G 1 (by omega) e], by rw [wd_congr H G 2 (by omega) e], by rw [wd_congr H G 3 (by omega) e]⟩
end Go.Proofs.YtmnjicpgdhnimaaDoor
