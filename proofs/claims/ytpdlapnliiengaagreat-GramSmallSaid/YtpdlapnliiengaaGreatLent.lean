/-
  Contracts of the kit's functions that lend rows of bytes and look whether they are kept.
-/
import Derived.Test.YtpdlapnliiengaaGreatKit
import Derived.BigQuiet
import Derived.Deep.QuietTactic
import Derived.Deep.DeepMust
import Derived.WalkSmall
import Derived.Deep.RegionHeld3
import Derived.Deep.DeepCutAuto
import Derived.Deep.LoopGhost
namespace Go.Proofs.YtpdlapnliiengaaGreat
open Go.RowKit

/-- A mark in spare room. -/
def markB (i : Nat) : Nat := (8000024 + i) * 11400714819323198485 % 18446744073709551616 / 72057594037927936 % 256
theorem markB_lt (i : Nat) : markB i < 256 := Nat.mod_lt _ (by omega)
theorem mark_eq (i : Nat) : IntKind.u64.wrap ((8000024 + (i : Int)) * 11400714819323198485) / 72057594037927936 % 256 = ((markB i : Nat) : Int) := by
  rw [IntKind.wrap_u64]; simp [markB]
set_option maxHeartbeats 400000 in
theorem markByte_any (i : Nat) (w : World) (hi : i < 1000) :
    Calls Tryz.prog 20 #[.int .i64 1, .int .i64 i] w fun e w' => e = .returned (.int .u8 (markB i : Nat)) ∧ w = w' := by
  go_enter Tryz.func20, Tryz.ntmps20
  go_wp2
  go_ret
  exact ⟨ret_int (mark_eq i), rfl⟩
/-- A row and the marks behind it. -/
def lent (z : Nat → Nat) (len : Nat) (i : Nat) : Nat := if i < len then z i else markB (i - len)
theorem lent_lt (z : Nat → Nat) (len i : Nat) (hz : ∀ i, z i < 256) : lent z len i < 256 := by
  unfold lent
  split
  · exact hz i
  · exact markB_lt _
theorem lent_take (z : Nat → Nat) (len : Nat) : cellsOf (lent z len) len = cellsOf z len := by
  unfold cellsOf
  apply List.map_congr_left
  intro i hi
  rw [lent, if_pos (List.mem_range.1 hi)]
set_option maxRecDepth 100000 in
set_option maxHeartbeats 400000 in
theorem lentBytes_any (a : Option Addr) (len cap : Nat) (z : Nat → Nat) (w : World) (hl : len ≤ 20000) (hn : a = none → cap = 0) (hlc : len ≤ cap) (hz : Byt w a len z) :
    Calls Tryz.prog 6 #[.slice a len cap] w fun e w' => ∃ g, e = .returned (.slice (some ⟨g, 0, none⟩) len (len + 12)) ∧ w.heap.size ≤ g ∧ Blk w' g (len + 12) (lent z len) ∧ Below w.heap.size w w' := by
  obtain ⟨i0, hi, hq0, hq1, hq2⟩ := info_parts info_u8
  have hlen := cellsOf_length z len
  have hone := cellsOf_one z len
  have hnone : a = none → len = 0 ∧ cap = 0 := fun h => by have := hn h; omega
  have hsrc : ∀ W : World, Below w.heap.size w W → ∀ ad, a = some ad → ∀ j u, (cellsOf z len)[j]? = some u → W.cell? (ad.add j) = some u := by
    intro W hW ad had
    rcases hz.2 with h | ⟨b, off, h, hc⟩
    · intro j u hj
      subst h
      simp [cellsOf] at hj
    · rw [h] at had
      cases had
      exact cellsOf_news (fun i hi => cell_thru (hc i hi) hW)
  go_enter Tryz.func6, Tryz.ntmps6
  go_wp2_with (first
    | (at_make; go_must (refine wpList_make_own _ rfl (.const (.int .i64 0)) (.tmp 7) 22 rfl w.heap.size 5 i0 (.int .u8 0) 1 Tryz.underlying22 hi hq0 hq1 .i64 .i64 _ (len + 12) rfl rfl (by simp) (by rw [hq2]; omega) (by unfold maxLen; omega) (Nat.le_refl _) ?_); intro w1 hown1 hg1; have hb1 := below_grown hg1)
    | (at_builtin; go_must (refine wpList_append_fits_any _ rfl (.tmp 9) (.tmp 10) 22 rfl w.heap.size 5 i0 1 Tryz.underlying22 hi hq1 w.heap.size 0 (len + 12) [] rfl hown1 a len cap (cellsOf z len) rfl (by omega) hnone (hsrc w1 hb1) hone (by omega) ?_); intro w2 hown2 hg2))
  have hb2 : Below w.heap.size w w2 := hb1.grown hg2 hb1.size (fun k e => by cases e; exact Nat.le_refl _)
  simp only [List.nil_append, Nat.zero_add] at hown2
  rw [← lent_take] at hown2
  clear hown1 hg1 hg2 hsrc hone hlen hnone
  go_loopw [3, 4] (fun s3 s4 wr => ∃ k : Nat, k ≤ 12 ∧ s4 = .int .i64 k ∧ s3 = .slice (some ⟨w.heap.size, 0, none⟩) (len + k) (len + 12) ∧ wr.ownsRow w.heap.size 5 1 (.slice (some ⟨w.heap.size, 0, none⟩) (len + k) (len + 12)) (len + k) (cellsOf (lent z len) (len + k)) ∧ Below w.heap.size w wr) (fun _ s4 _ => 12 - (intOf s4).toNat)
  case atStart => exact ⟨0, by omega, rfl, by simp, hown2, hb2⟩
  case round =>
    obtain ⟨k, hk, rfl, rfl, hown, hbr⟩ := hrel
    by_cases hlt : k < 12
    · have hlm : lent z len (len + k) = markB k := by unfold lent; rw [if_neg (by omega), Nat.add_sub_cancel_left]
      go_wp2_with (first
        | (go_at_call 20; refine (markByte_any k _ (by omega)).mono ?_; rintro e w' ⟨rfl, rfl⟩)
        | (at_builtin; go_must (refine wpList_append_fits _ rfl (.tmp 16) (.tmp 19) 22 rfl w.heap.size 5 i0 1 Tryz.underlying22 hi hq1 w.heap.size (len + k) (len + 12) _ rfl (hown.alloc _) ⟨wr.heap.size, 0, none⟩ 1 1 [.int .u8 (markB k : Nat)] rfl rfl (cell_one_new _ _ _) (by simp [Value.oneCell']) (by omega) ?_); intro w3 hown3 hg3))
      have hb3 : Below w.heap.size w w3 := (hbr.alloc hbr.size _).grown hg3 (Nat.le_trans hbr.size (by simp)) (fun k e => by cases e; exact Nat.le_refl _)
      rw [← hlm, ← cellsOf_succ] at hown3
      go_roundw
      case rel => exact ⟨k + 1, by omega, by go_num, rfl, hown3, hb3⟩
      case measure => simp [intOf]; omega
    · obtain rfl : k = 12 := by omega
      obtain ⟨g, cap', hv, hBg, hnc, hcm, hblk⟩ := Blk.of_owns hown (fun i => lent_lt z len i hz.1) (by omega)
      cases hv
      go_wp2
      go_ret
      exact ⟨w.heap.size, rfl, Nat.le_refl _, hblk, hbr⟩
set_option maxHeartbeats 1000000 in
theorem keptBytes_any (g : Nat) (a : Option Addr) (len cap : Nat) (z : Nat → Nat) (w : World) (hl : len ≤ 20000) (hb : Blk w g (len + 12) (lent z len)) (hz : Byt w a len z) :
    Calls Tryz.prog 17 #[.slice (some ⟨g, 0, none⟩) len (len + 12), .slice a len cap] w fun e w' => e = .returned (.bool true) ∧ Below w.heap.size w w' := by
  go_enter Tryz.func17, Tryz.ntmps17
  go_wp2
  go_loopg [6] (len + 12) (fun q s6 wr => ∃ k : Nat, k + q = len + 12 ∧ s6 = .int .i64 k ∧ Below w.heap.size w wr)
  case atStart => exact ⟨0, by omega, rfl, Below.refl _ _⟩
  case round =>
    obtain ⟨k, hkq, rfl, hbr⟩ := hrel
    cases gk with
    | zero =>
      have hkz : ¬ ((k : Int) < (len : Int) + 12) := by omega
      go_wp2
      go_ret
      exact ⟨rfl, hbr⟩
    | succ q =>
      have hkz : (k : Int) < (len : Int) + 12 := by omega
      have hk0 : (0 : Int) ≤ (k : Int) := by omega
      have hcell := (hb.below hbr).cell (i := k) (by omega)
      by_cases hlt : k < len
      · have hlz : lent z len k = z k := by unfold lent; rw [if_pos hlt]
        rw [hlz] at hcell
        obtain ⟨b, off, rfl, hc⟩ : ∃ b off, a = some ⟨b, off, none⟩ ∧ w.cell? ⟨b, off + k, none⟩ = some (.int .u8 (z k : Nat)) := by
          rcases hz.2 with h | ⟨b, off, h, hc⟩
          · omega
          · exact ⟨b, off, h, hc k hlt⟩
        have hc2 := cell_thru hc hbr
        have hi1 : (k : Int) < (len : Int) := by omega
        have hd1 : decide ((k : Int) < (len : Int)) = true := decide_eq_true hi1
        have hd2 : decide ((len : Int) ≤ (k : Int)) = false := decide_eq_false (by omega)
        have hd3 : decide (k < len) = true := decide_eq_true hlt
        have hd4 : decide (len ≤ k) = false := decide_eq_false (by omega)
        clear hc
        go_upto_region 7 with fail
        go_cut [57] (fun s wx => s = .bool false ∧ Below w.heap.size w wx)
        case first =>
          go_quiet (fail)
          all_goals
            go_wp2_with fail
            go_meet
            exact ⟨rfl, below_drewN hbr _⟩
        case rest =>
          obtain ⟨rfl, hbc⟩ := hcut
          go_wp2_with fail
          go_roundg q
          case measure => omega
          case rel => exact ⟨k + 1, by omega, by go_num, hbc⟩
      · obtain ⟨j, rfl⟩ : ∃ j, k = len + j := ⟨k - len, by omega⟩
        have hlz : lent z len (len + j) = markB j := by unfold lent; rw [if_neg (by omega), Nat.add_sub_cancel_left]
        rw [hlz] at hcell
        have hk1 : ((len + j : Nat) : Int) = (len : Int) + (j : Int) := by simp
        have hsub : IntKind.i64.wrap ((len : Int) + (j : Int) - (len : Int)) = (j : Int) := by rw [show (len : Int) + (j : Int) - (len : Int) = (j : Int) from by omega]; exact IntWalk.i64_in _ (by omega)
        have hd1 : decide ((len : Int) + (j : Int) < (len : Int)) = false := decide_eq_false (by omega)
        have hd2 : decide ((len : Int) ≤ (len : Int) + (j : Int)) = true := decide_eq_true (by omega)
        have hd3 : decide (len + j < len) = false := decide_eq_false (by omega)
        have hd4 : decide (len ≤ len + j) = true := decide_eq_true (by omega)
        have hi1 : (len : Int) + (j : Int) < (len : Int) + 12 := by omega
        have hm := fun W : World => (markByte_any j W (by omega)).mono (R' := fun e w' => e = .returned (.int .u8 (markB j : Nat)) ∧ w' = W) fun _ _ ⟨he, hw⟩ => ⟨he, hw.symm⟩
        go_upto_region 7 with fail
        go_cut [57] (fun s wx => s = .bool false ∧ Below w.heap.size w wx)
        case first =>
          go_quiet ((go_at_call 20; exact Calls.quiet_of_same (hm _)))
          all_goals
            go_wp2_with fail
            go_meet
            exact ⟨rfl, below_drewN hbr _⟩
        case rest =>
          obtain ⟨rfl, hbc⟩ := hcut
          go_wp2_with fail
          go_roundg q
          case measure => omega
          case rel => exact ⟨len + j + 1, by omega, by go_num, hbc⟩
end Go.Proofs.YtpdlapnliiengaaGreat
