/-
  CrcBurst's walk.
-/
import Derived.Test.YtdcpgoijjnkjaaaRow
import Derived.BigRegion
import Derived.Deep.DeepMust
import Derived.RegionTactic
namespace Go.Proofs.Ytdcpgoijjnkjaaa
open Go.RowKit

theorem info_u8 : (Try.prog.info? 5).map (fun i => (i.zero, i.size, i.bytes)) = some (some (.int .u8 0), 1, 1) := by kernel_rfl

/-- The cells of the bytes z. -/
def cellsOf (z : Nat → Nat) (len : Nat) : List Value := (List.range len).map fun i => .int .u8 (z i : Nat)
theorem cellsOf_length (z : Nat → Nat) (len : Nat) : (cellsOf z len).length = len := by simp [cellsOf]
theorem cellsOf_get (z : Nat → Nat) (len i : Nat) (h : i < len) : (cellsOf z len)[i]? = some (.int .u8 (z i : Nat)) := by
  simp [cellsOf, h]
theorem cellsOf_news {w : World} {b off len : Nat} {z : Nat → Nat} (hc : ∀ i, i < len → w.cell? ⟨b, off + i, none⟩ = some (.int .u8 (z i : Nat))) : ∀ j u, (cellsOf z len)[j]? = some u → w.cell? ((⟨b, off, none⟩ : Addr).add j) = some u := by
  intro j u h
  have hj : j < len := by
    have := (List.getElem?_eq_some_iff.1 h).1
    rwa [cellsOf_length] at this
  rw [cellsOf_get z len j hj] at h
  have e : (⟨b, off, none⟩ : Addr).add j = ⟨b, off + j, none⟩ := by
    unfold Addr.add
    split
    · rename_i e; rw [e, Nat.add_zero]
    · rfl
  rw [e, hc j hj, h]
theorem cellsOf_one (z : Nat → Nat) (len : Nat) : ∀ u ∈ cellsOf z len, u.oneCell' = true := by
  intro u hu
  simp only [cellsOf, List.mem_map] at hu
  obtain ⟨i, _, rfl⟩ := hu
  rfl
/-- What an append of bytes to a fresh slice leaves. -/
theorem Blk.of_owns {w : World} {B n : Nat} {v : Value} {z : Nat → Nat} (h : w.ownsRow B 5 1 v n (cellsOf z n)) (hz : ∀ i, z i < 256) (hn : 0 < n) : ∃ g cap, v = .slice (some ⟨g, 0, none⟩) n cap ∧ B ≤ g ∧ n ≤ cap ∧ cap ≤ 9223372036854775807 ∧ Blk w g n z := by
  obtain ⟨hl, ⟨_, h0⟩ | ⟨g, cap, cur, hv, hB, hg, hnc, hcm, hcs, hx⟩⟩ := h
  · omega
  · unfold maxLen at hcm
    refine ⟨g, cap, hv, hB, hnc, hcm, hz, cur, hg, fun i hi => ?_⟩
    have h1 := cellsOf_get z n i hi
    rw [← hx, List.getElem?_take_of_lt (by omega)] at h1
    simpa using h1

theorem shr_bit32 (m k : Nat) (hm : m < 4294967296) : (bits BinOp.and IntKind.u32 ((m : Int) / 2 ^ k) 1 == 1) = m.testBit k := by
  have h : ((m : Int) / 2 ^ k) = ((hiN m k : Nat) : Int) := by unfold hiN; simp
  rw [h, low_bit (hiN m k) (Nat.lt_of_le_of_lt (Nat.div_le_self _ _) hm), Nat.testBit_eq_decide_div_mod_eq]
  rfl

theorem same_yes (m k : Nat) (h : m.testBit k = true) : decide (m % 2 ^ (k + 1) = 0) = false := by
  have h2 := (testBit_iff m k).1 h
  rw [mod_bit, h2]
  have := Nat.two_pow_pos k
  simp
theorem same_no (m k : Nat) (h : ¬ m.testBit k = true) : decide (m % 2 ^ (k + 1) = 0) = decide (m % 2 ^ k = 0) := by
  have h2 : m / 2 ^ k % 2 = 0 := by
    have := mt (testBit_iff m k).2 h
    omega
  rw [mod_bit, h2, Nat.mul_zero, Nat.add_zero]
theorem turn_cell (t e : Nat) (ht : t < 256) (he : e < 8) : bits BinOp.xor IntKind.u8 (t : Int) (2 ^ e % 256) = ((t ^^^ 2 ^ e : Nat) : Int) := by
  have h1 : 2 ^ e < 256 := Nat.pow_lt_pow_right (a := 2) (m := e) (n := 8) (by omega) he
  have h2 : ((2 : Int) ^ e % 256) = ((2 ^ e : Nat) : Int) := by
    have h3 : ((2 : Int) ^ e) = ((2 ^ e : Nat) : Int) := by simp
    rw [h3]
    generalize 2 ^ e = q at h1
    omega
  rw [h2]
  exact u8_xor_nat t (2 ^ e) ht h1

set_option maxRecDepth 100000 in
set_option maxHeartbeats 1000000 in
theorem burst_walk (a : Option Addr) (len cap m : Nat) (x : Int) (z : Nat → Nat) (w : World) (hx : (Lit.int .i64 x).wf = true) (hm : m < 4294967296) (hl : len ≤ cap) (hc : cap ≤ 9223372036854775807) (hz : Byt w a len z) :
    Calls Try.prog 5 #[.slice a len cap, .int .i64 x, .int .u32 m] w fun e w' => e = .returned (.bool true) ∧ Below w.heap.size w w' := by
  by_cases h1 : 20000 < len
  · go_enter Try.func5, Try.ntmps5
    go_wp2_with fail
    refine (awake_any w).mono ?_
    rintro e w1 ⟨rfl, hb1⟩
    go_wp2
    go_ret
    exact ⟨rfl, hb1⟩
  by_cases h2 : len = 0
  · subst h2
    go_enter Try.func5, Try.ntmps5
    go_wp2_with fail
    refine (awake_any w).mono ?_
    rintro e w1 ⟨rfl, hb1⟩
    go_wp2
    go_ret
    exact ⟨rfl, hb1⟩
  by_cases h3 : m = 0
  · subst h3
    have h2' : ((len : Int) == 0) = false := by simp; omega
    go_enter Try.func5, Try.ntmps5
    go_wp2_with fail
    refine (awake_any w).mono ?_
    rintro e w1 ⟨rfl, hb1⟩
    go_wp2
    go_ret
    exact ⟨rfl, hb1⟩
  have h2' : ((len : Int) == 0) = false := by simp; omega
  have h3' : ((m : Int) == 0) = false := by simp; omega
  obtain ⟨hz1, hz2⟩ := hz
  obtain ⟨b, off, rfl, hcell⟩ : ∃ b off, a = some ⟨b, off, none⟩ ∧ ∀ i, i < len → w.cell? ⟨b, off + i, none⟩ = some (.int .u8 (z i : Nat)) := by
    rcases hz2 with h | h
    · omega
    · exact h
  obtain ⟨i0, hi, hq0, hq1, hq2⟩ := info_parts info_u8
  go_enter Try.func5, Try.ntmps5
  go_wp2_with fail
  refine (awake_any w).mono ?_
  rintro e w1 ⟨rfl, hb1⟩
  have hown : (w1.alloc (.cells #[] 5)).ownsRow w.heap.size 5 1 (.slice (some ⟨w1.heap.size, 0, none⟩) 0 0) 0 [] := World.ownsRow_made w1 #[] 0 hb1.size (by unfold maxLen; omega) rfl
  have hsrc := cellsOf_news (w := w1.alloc (.cells #[] 5)) (fun i hi => cell_alloc_l _ ((hb1.cell (p := ⟨b, off + i, none⟩) (block_lt_of_cell (hcell i hi))).trans (hcell i hi)))
  have hone := cellsOf_one z len
  have hlen := cellsOf_length z len
  go_wp2_with (at_builtin; go_must (refine wpList_append_own _ rfl (.tmp 25) (.tmp 26) 24 rfl w.heap.size 5 i0 (.int .u8 0) 1 1 Try.underlying24 hi hq0 hq1 hq2 rfl (by decide) _ 0 [] rfl hown ⟨b, off, none⟩ len cap (cellsOf z len) rfl (by omega) hsrc hone (by unfold maxLen; omega) (by omega) (Nat.le_trans hb1.size (by simp)) ?_); intro v' w2 hown' hgrow _)
  obtain ⟨g, cap2, rfl, hBg, hnc, hcm2, hblk⟩ := Blk.of_owns (z := z) (by simpa using hown') hz1 (by omega)
  have hb2 : Below w.heap.size w w2 := (hb1.alloc hb1.size _).grown hgrow (Nat.le_trans hb1.size (by simp)) (fun k e => by cases e; exact hb1.size)
  clear hown' hgrow hown hsrc hone hlen
  have hp := pick_any x (8 * len) w2 hx (by omega) (by omega)
  rw [show (((8 * len : Nat)) : Int) = 8 * (len : Int) from by simp] at hp
  have hf := pickN_lt x (8 * len) (by omega)
  generalize pickN x (8 * len) = f at hp hf
  refine hp.mono ?_
  rintro e w3 ⟨rfl, rfl⟩
  clear hp
  go_wp2_with fail
  go_loopw [9, 10] (fun s i wr => ∃ k : Nat, k ≤ 32 ∧ f + k ≤ 8 * len ∧ i = .int .i64 k ∧ s = .bool (decide (m % 2 ^ k = 0)) ∧ Blk wr g len (turnN z m f k) ∧ Below w.heap.size w wr) (fun _ i _ => 32 - (intOf i).toNat)
  case atStart => exact ⟨0, by omega, by omega, rfl, by simp [Nat.mod_one], hblk, hb2⟩
  case round =>
    obtain ⟨k, hk, hfk, rfl, rfl, hB, hb⟩ := hrel
    by_cases hlt : k < 32 ∧ f + k < 8 * len
    · obtain ⟨hk1, hk2⟩ := hlt
      by_cases hbit : m.testBit k = true
      · have hbit' : (bits BinOp.and IntKind.u32 ((m : Int) / 2 ^ k) 1 == 1) = true := by rw [shr_bit32 m k hm]; exact hbit
        have hq : (f + k) / 8 < len := by omega
        have hqi : ((f : Int) + (k : Int)) / 8 < (len : Int) := by omega
        have hcq := hB.cell hq
        have hfq := hB.frozen ((f + k) / 8)
        go_wp2
        go_region
        go_wp2
        go_roundw
        case rel =>
          refine ⟨k + 1, by omega, by omega, by go_num, by rw [same_yes m k hbit], ?_, (hb.setCell (p := ⟨g, (f + k) / 8, none⟩) hBg _).drew⟩
          rw [turn_cell _ _ (hB.1 _) (by omega)]
          exact (hB.set ((f + k) / 8) _ (turnN_lt z m f hz1 (k + 1)) (by rw [turnN_succ, if_pos ⟨hbit, rfl⟩]) (fun j hj => by rw [turnN_succ, if_neg (fun h => hj h.2)])).drew
        case measure => simp [intOf]; omega
      · have hbit' : (bits BinOp.and IntKind.u32 ((m : Int) / 2 ^ k) 1 == 1) = false := by rw [shr_bit32 m k hm]; simpa using hbit
        go_wp2
        go_roundw
        case rel =>
          refine ⟨k + 1, by omega, by omega, by go_num, by rw [same_no m k hbit], ?_, hb⟩
          have e : turnN z m f (k + 1) = turnN z m f k := by
            funext j
            rw [turnN_succ, if_neg (fun h => hbit h.1)]
          rw [e]; exact hB
        case measure => simp [intOf]; omega
    · have hs1 := fun (h : m % 2 ^ k ≠ 0) => burst z m f k len hk hfk (by omega)
      by_cases hsm : m % 2 ^ k = 0
      · clear hs1
        by_cases hk32 : k < 32
        all_goals
          go_wp2
          go_ret
          exact ⟨rfl, hb⟩
      · have hne : (((sumN z len : Nat) : Int) != ((sumN (turnN z m f k) len : Nat) : Int)) = true := by
          have := hs1 hsm
          simp; omega
        clear hs1
        have hz0 : Byt wr (some ⟨b, off, none⟩) len z := Byt.below ⟨hz1, .inr ⟨b, off, rfl, hcell⟩⟩ hb
        have c2 := fun (w3 : World) (h : Blk w3 g len (turnN z m f k)) (g3 : Nat) (hg3 : g3 = w3.heap.size) => sum_new g3 (some ⟨g, 0, none⟩) len cap2 (turnN z m f k) w3 hg3 hnc hcm2 h.byt
        by_cases hk32 : k < 32
        all_goals
          go_wp2_with fail
          refine (sum_new _ _ len cap z wr (by simp) hl hc hz0).mono ?_
          rintro e w4 ⟨rfl, hb4⟩
          go_wp2_with fail
          refine (c2 w4 (hB.below hb4) _ (by simp)).mono ?_
          rintro e w5 ⟨rfl, hb5⟩
          go_wp2
          go_ret
          exact ⟨rfl, hb.trans ((hb4.trans (hb5.mono hb4.size)).mono hb.size)⟩
end Go.Proofs.Ytdcpgoijjnkjaaa
