/-
  The program's Of, Not.
-/
import Derived.Test.YtmnjicpgdhnimaaDoorSOf
import Derived.Deep.Cut
import Derived.Deep.LoopGhost
namespace Go.Proofs.YtmnjicpgdhnimaaDoor
open Go.RowKit

theorem shl_one (k : Nat) (hk : k < 64) : IntKind.u64.wrap ((2 : Int) ^ k) = ((up k : Nat) : Int) := by
  have hp := up_lt k hk
  have e : (2 : Int) ^ k = ((up k : Nat) : Int) := by simp [up]
  rw [e, IntKind.wrap_u64]; omega
theorem or_plus (H : Nat → Bool) (b i k : Nat) (hi : b / 64 = i) (hk : b % 64 = k) : bits .or .u64 ((wd H i : Nat) : Int) ((up k : Nat) : Int) = ((wd (plus H b) i : Nat) : Int) := by
  subst hi; subst hk
  rw [u64_or_nat _ _ (wd_lt H _) (by have := up_lt (b % 64) (by omega); omega), ← wd_plus]
  rfl

set_option maxRecDepth 100000 in
set_option maxHeartbeats 1000000 in
theorem of_any (a : Option Addr) (len cap : Nat) (z : Nat → Nat) (w : World) (hl : len ≤ 9223372036854775807) (hz : Byt w a len z) :
    Calls Tryd.prog 13 #[.slice a len cap] w fun e w' => e = .returned (sv (inz z len)) ∧ Below w.heap.size w w' := by
  have hzero := zeroSet
  have hb1 := (Below.refl w.heap.size w).alloc (Nat.le_refl _) (.cells (st nobs) 24)
  have hb3 := hide (hb1.alloc (by simp) (.cells (st nobs) 24))
  have h2 := hide ((SBox.new w w.heap.size nobs rfl).alloc (.cells (st nobs) 24))
  have h3 := hide (SBox.new (w.alloc (.cells (st nobs) 24)) (w.heap.size + 1) nobs (by simp))
  have HZ := hide hz
  clear hb1 hz
  unfold sv
  go_enter Tryd.func13, Tryd.ntmps13
  go_wp2_with fail
  clear hzero
  go_loopg [8] len (fun q i wr => ∃ k : Nat, k + q = len ∧ i = .int .i64 k ∧ SBox wr w.heap.size nobs ∧ SBox wr (w.heap.size + 1) (inz z k) ∧ Below w.heap.size w wr)
  case atStart => exact ⟨0, by omega, rfl, h2.out, h3.out.congr _ (fun b _ => rfl), hb3.out⟩
  case round =>
    obtain ⟨k, hk, rfl, hR, hO, hB⟩ := hrel
    have HB := hide hB
    cases gk with
    | succ g =>
      have hlt : k < len := by omega
      obtain ⟨hz256, h0 | ⟨b, off, rfl, hcz⟩⟩ := HZ.out.below hB
      · omega
      have hc := hcz k hlt
      have hx256 := hz256 k
      obtain ⟨x, hx⟩ : ∃ x, z k = x := ⟨_, rfl⟩
      rw [hx] at hc hx256
      have HX := hide hx
      clear hcz hx
      obtain ⟨i, hi⟩ : ∃ i, x / 64 = i := ⟨_, rfl⟩
      obtain ⟨j, hj⟩ : ∃ j, x % 64 = j := ⟨_, rfl⟩
      have hi4 : i < 4 := by omega
      have hj64 : j < 64 := by omega
      have hb1 : (x : Int) / 64 = (i : Int) := by omega
      have hb2 : (x : Int) % 64 = (j : Int) := by omega
      have hw := hO.cell i hi4
      have hf := hO.frozen i
      have hlt2 := wd_lt (inz z k) i
      have hs := shl_one j hj64
      have ho := or_plus (inz z k) x i j hi hj
      have HI := hide hi
      clear hi hj hB
      go_wp2_with fail
      clear hs ho hw hf
      have HS := hO.plus x i hx256 HI.out _ rfl
      have HT : SBox (wr.setCell ⟨w.heap.size + 1, i, none⟩ (.int .u64 (wd (plus (inz z k) x) i : Nat))) w.heap.size nobs := (Below.heap_setCell wr ⟨w.heap.size + 1, i, none⟩ _ w.heap.size (by simp)).trans hR
      have HBS := HB.out.setCell (p := ⟨w.heap.size + 1, i, none⟩) (Nat.le_succ _) (.int .u64 (wd (plus (inz z k) x) i : Nat))
      go_roundg g
      case measure => omega
      case rel => exact ⟨k + 1, by omega, by go_num, HT, HS.congr _ (fun c _ => by show _ = (decide (c = z k) || _); rw [HX.out]; rfl), HBS⟩
    | zero =>
      obtain rfl : k = len := by omega
      have HR := hide (hR.row (inz z k))
      go_wp2_with (first | (refine wpList_load_row rfl 24 _ rfl (w.heap.size + 1) rfl 24 (st (inz z k)) (0, 0) _ hO Tryd.underlying24 rfl (sizeSet (inz z k)) ?_) | (refine wpList_store_row rfl 24 _ _ rfl w.heap.size (st (inz z k)) rfl rfl 24 (st nobs) hR (sizeSet (inz z k)) rfl (st_one (inz z k)) ?_))
      refine bodyPost_ret_by (results_cell_row rfl _ _ w.heap.size 24 (st (inz z k)) (0, 0) _ rfl HR.out Tryd.underlying24 rfl (sizeSet (inz z k))) rfl ⟨rfl, below_row HB.out (by omega) _⟩

theorem not_plus (H : Nat → Bool) (i : Nat) : bits .xor .u64 IntKind.u64.max ((wd H i : Nat) : Int) = ((wd (fun b => !H b) i : Nat) : Int) := by
  have h := u64_xor_nat 18446744073709551615 (wd H i) (by omega) (wd_lt H i)
  have e : 18446744073709551615 ^^^ wd H i = wd (fun b => !H b) i := by
    refine wd_ext _ _ _ (show _ < 2 ^ 64 from Nat.xor_lt_two_pow (by omega) (wd_lt H i)) fun k hk => ?_
    rw [Nat.testBit_xor, wd_bit H i k hk, show (18446744073709551615 : Nat) = 2 ^ 64 - 1 from rfl, Nat.testBit_two_pow_sub_one]
    simp [hk]
  rw [e] at h
  exact h
/-- The first i numbers of a set turned. -/
def turned (H : Nat → Bool) (i b : Nat) : Bool := if b / 64 < i then !H b else H b
theorem wd_turned (H : Nat → Bool) (i j : Nat) : wd (turned H i) j = if j < i then wd (fun b => !H b) j else wd H j := by
  by_cases h : j < i
  · rw [if_pos h]
    refine (wd_ext _ _ _ (wd_lt _ _) fun k hk => ?_).symm
    rw [wd_bit _ _ _ hk]
    unfold turned
    rw [if_pos (by omega)]
  · rw [if_neg h]
    refine (wd_ext _ _ _ (wd_lt _ _) fun k hk => ?_).symm
    rw [wd_bit _ _ _ hk]
    unfold turned
    rw [if_neg (by omega)]

set_option maxRecDepth 100000 in
set_option maxHeartbeats 1000000 in
theorem not_any (H : Nat → Bool) (w : World) :
    Calls Tryd.prog 22 #[sv H] w fun e w' => e = .returned (sv fun b => !H b) ∧ Below w.heap.size w w' := by
  have hzero := zeroSet
  have hb1 := (Below.refl w.heap.size w).alloc (Nat.le_refl _) (.cells (st H) 24)
  have hb3 := hide (hb1.alloc (by simp) (.cells (st nobs) 24))
  have h2 := hide ((SBox.new w w.heap.size H rfl).alloc (.cells (st nobs) 24))
  have h3 := hide (SBox.new (w.alloc (.cells (st H) 24)) (w.heap.size + 1) nobs (by simp))
  clear hb1
  unfold sv
  go_enter Tryd.func22, Tryd.ntmps22
  go_wp2_with fail
  clear hzero
  go_loopg [4] 4 (fun q i wr => ∃ k : Nat, k + q = 4 ∧ i = .int .i64 k ∧ SBox wr w.heap.size (turned H k) ∧ SBox wr (w.heap.size + 1) nobs ∧ Below w.heap.size w wr)
  case atStart => exact ⟨0, by omega, rfl, h2.out.congr _ (fun b _ => by simp [turned]), h3.out, hb3.out⟩
  case round =>
    obtain ⟨k, hk, rfl, hO, hR, hB⟩ := hrel
    have HB := hide hB
    cases gk with
    | succ g =>
      have hlt : (k : Int) < 4 := by omega
      have hk4 : k < 4 := by omega
      have hw := hO.cell k hk4
      rw [wd_turned, if_neg (by omega)] at hw
      have hf := hO.frozen k
      have hx := not_plus H k
      clear hB
      go_wp2_with fail
      clear hx hw hf
      have HS : SBox (wr.setCell ⟨w.heap.size, k, none⟩ (.int .u64 (wd (fun b => !H b) k : Nat))) w.heap.size (turned H (k + 1)) :=
        hO.set k _ hk4 (by rw [wd_turned, if_pos (by omega)]) fun j _ hj => by
          rw [wd_turned, wd_turned]
          by_cases h : j < k
          · rw [if_pos h, if_pos (by omega)]
          · rw [if_neg h, if_neg (by omega)]
      have HT : SBox (wr.setCell ⟨w.heap.size, k, none⟩ (.int .u64 (wd (fun b => !H b) k : Nat))) (w.heap.size + 1) nobs := (Below.heap_setCell wr ⟨w.heap.size, k, none⟩ _ (w.heap.size + 1) (by simp)).trans hR
      have HBS := HB.out.setCell (p := ⟨w.heap.size, k, none⟩) (Nat.le_refl _) (.int .u64 (wd (fun b => !H b) k : Nat))
      go_roundg g
      case measure => omega
      case rel => exact ⟨k + 1, by omega, by go_num, HS, HT, HBS⟩
    | zero =>
      obtain rfl : k = 4 := by omega
      have HR := hide (hR.row (turned H 4))
      go_wp2_with (first | (refine wpList_load_row rfl 24 _ rfl w.heap.size rfl 24 (st (turned H 4)) (0, 0) _ hO Tryd.underlying24 rfl (sizeSet (turned H 4)) ?_) | (refine wpList_store_row rfl 24 _ _ rfl (w.heap.size + 1) (st (turned H 4)) rfl rfl 24 (st nobs) hR (sizeSet (turned H 4)) rfl (st_one (turned H 4)) ?_))
      refine bodyPost_ret_by (results_cell_row rfl _ _ (w.heap.size + 1) 24 (st (turned H 4)) (0, 0) _ rfl HR.out Tryd.underlying24 rfl (sizeSet (turned H 4))) rfl ⟨congrArg Ending.returned (sv_congr _ _ fun b hb => by unfold turned; rw [if_pos (by omega)]), below_row HB.out (Nat.le_succ _) _⟩
end Go.Proofs.YtmnjicpgdhnimaaDoor
