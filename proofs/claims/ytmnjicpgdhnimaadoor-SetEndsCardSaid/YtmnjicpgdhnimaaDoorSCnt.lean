/-
  math/bits.OnesCount64: how many bits are set.
-/
import Derived.Test.YtmnjicpgdhnimaaDoorSPop
namespace Go.Proofs.YtmnjicpgdhnimaaDoor
open Go.RowKit

theorem cnt_congr (f g : Nat → Bool) : ∀ n, (∀ k, k < n → f k = g k) → cnt f n = cnt g n
  | 0, _ => rfl
  | n + 1, h => by
    unfold cnt
    rw [cnt_congr f g n fun k hk => h k (by omega), h n (by omega)]
theorem cnt_add (f : Nat → Bool) (m : Nat) : ∀ n, cnt f (m + n) = cnt f m + cnt (fun k => f (m + k)) n
  | 0 => by simp [cnt]
  | n + 1 => by
    rw [← Nat.add_assoc]
    show cnt f (m + n) + (if f (m + n) then 1 else 0) = cnt f m + (cnt (fun k => f (m + k)) n + (if f (m + n) then 1 else 0))
    rw [cnt_add f m n]; omega
def sm : Nat → Nat → Nat
  | 0, _ => 0
  | n + 1, x => pc (x % 256) + sm n (x / 256)
theorem cnt_sm : ∀ n x, cnt (fun k => x.testBit k) (8 * n) = sm n x
  | 0, _ => rfl
  | n + 1, x => by
    rw [show 8 * (n + 1) = 8 + 8 * n by omega, cnt_add]
    unfold sm
    congr 1
    · have h := pc_cnt ⟨x % 256, by omega⟩
      dsimp only at h
      rw [h]
      refine cnt_congr _ _ _ fun k hk => ?_
      rw [show (256 : Nat) = 2 ^ 8 from rfl, Nat.testBit_mod_two_pow]
      simp [hk]
    · rw [← cnt_sm n (x / 256)]
      refine cnt_congr _ _ _ fun k hk => ?_
      rw [show (256 : Nat) = 2 ^ 8 from rfl, Nat.testBit_div_two_pow, Nat.add_comm]
theorem o_all (x : Nat) : o6 (o5 (o4 (o3 (o2 (o1 x))))) % 128 = cnt (fun k => x.testBit k) 64 := by
  rw [o321, show (64 : Nat) = 8 * 8 from rfl, cnt_sm]
  have hle : ∀ a, pc (a % 256) ≤ 8 := fun a => pc_le ⟨a % 256, by omega⟩
  simp only [sm, mp]
  rw [o654 _ _ _ _ _ _ _ _ (hle x) (hle (x / 256)) (hle (x / 256 / 256)) (hle (x / 256 / 256 / 256)) (hle (x / 256 / 256 / 256 / 256)) (hle (x / 256 / 256 / 256 / 256 / 256)) (hle (x / 256 / 256 / 256 / 256 / 256 / 256)) (hle (x / 256 / 256 / 256 / 256 / 256 / 256 / 256)) _ (by omega)]
  omega
theorem and127 (y : Nat) (hy : y < 18446744073709551616) : bits .and .i64 (wrap64 (y : Int)) 127 = ((y % 128 : Nat) : Int) := by
  show IntKind.i64.wrap ((BitVec.ofInt 64 (wrap64 (y : Int)) &&& BitVec.ofInt 64 127).toNat : Int) = _
  have h1 : (BitVec.ofInt 64 (wrap64 (y : Int))).toNat = y := by
    rw [BitVec.toNat_ofInt]; unfold wrap64; omega
  have h2 : (BitVec.ofInt 64 127).toNat = 2 ^ 7 - 1 := by decide
  rw [BitVec.toNat_and, h1, h2, Nat.and_two_pow_sub_one_eq_mod, IntKind.wrap_i64]
  have : y % 2 ^ 7 = y % 128 := rfl
  rw [this]
  omega
theorem ones_any (x : Nat) (w : World) (hx : x < 18446744073709551616) :
    Calls Tryd.prog 41 #[.int .u64 x] w fun e w' => e = .returned (.int .i64 (cnt (fun k => x.testBit k) 64 : Nat)) ∧ w = w' := by
  refine (ones_walk x w hx).mono ?_
  rintro e w' ⟨rfl, rfl⟩
  rw [and127 _ (o6_lt _), o_all]
  exact ⟨rfl, rfl⟩
end Go.Proofs.YtmnjicpgdhnimaaDoor
