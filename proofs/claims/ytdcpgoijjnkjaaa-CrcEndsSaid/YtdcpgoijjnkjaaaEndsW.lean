/-
  CrcEnds's walk.
-/
import Derived.Test.YtdcpgoijjnkjaaaEndsM
import Derived.Deep.RegionWith
import Derived.Deep.DeepCutAuto
import Derived.Laws.StructEq
import Derived.Deep.LoopGhost
import Derived.Deep.DeepMust
import Derived.Deep.Light
import Derived.Deep.RegionHeld3
namespace Go.Proofs.Ytdcpgoijjnkjaaa
open Go.RowKit

set_option maxRecDepth 100000 in
set_option maxHeartbeats 2000000 in
theorem ends_walk (w : World) :
    Calls Try.prog 4 #[] w fun e w' => e = .returned (.bool true) ∧ Below w.heap.size w w' := by
  go_enter Try.func4, Try.ntmps4
  go_wp2_with fail
  refine (table_any w).mono ?_
  rintro e w1 ⟨rfl, hb1⟩
  go_wp2_with fail
  refine (refTable_any w1).mono ?_
  rintro e w2 ⟨rfl, hb2⟩
  have hte := tabs_equal w2
  go_wp2_with fail
  clear hte
  go_loopg [1, 2] 256 (fun g s1 s2 wx => ∃ k n : Nat, k + g = 256 ∧ s2 = .int .i64 k ∧ Hid (n = min k 70) ∧ wx.ownsRow w.heap.size 5 1 s1 n (cellsOf mul37 n) ∧ Below w.heap.size w wx)
  case atStart => exact ⟨0, 0, by omega, rfl, rfl, World.ownsRow_nil _ _ _ _, hb1.trans (hb2.mono hb1.size)⟩
  case round =>
    obtain ⟨k, n, hkg, rfl, HN, hrow, hb⟩ := hrel
    obtain ⟨a, cap, rfl, hac, hcm, hadr, hbyt⟩ := owns_byt hrow mul37_lt
    cases gk with
    | zero =>
      have hkz : ¬ ((k : Int) < 256) := by omega
      obtain rfl : k = 256 := by omega
      go_wp2_with fail
      refine (sum_nils _ wr rfl).mono ?_
      rintro e w3 ⟨rfl, hb3⟩
      go_wp2_with fail
      refine (update_nil w3).mono ?_
      rintro e w4 ⟨rfl, hb4⟩
      go_wp2_with fail
      refine (awake_any w4).mono ?_
      rintro e w5 ⟨rfl, hb5⟩
      go_wp2
      go_ret
      exact ⟨rfl, below_thru (below_thru (below_thru hb hb3) hb4) hb5⟩
    | succ g =>
      have hkz : (k : Int) < 256 := by omega
      have hk256 : k < 256 := by omega
      have hmod : (k : Int) % 256 = (k : Int) := by omega
      have hnot := not_u8 k hk256
      have hshl : IntKind.u32.wrap ((k : Int) * 16777216) = ((k * 16777216 : Nat) : Int) := by rw [IntKind.wrap_u32']; omega
      go_wp2_with fail
      refine (sum_new _ _ 1 1 (fun _ => k) _ (by simp) (by omega) (by omega) (one_byt wr k hk256 _)).mono ?_
      rintro e w3 ⟨rfl, hb3⟩
      go_wp2_with fail
      refine (refOne_any _ 1 1 (fun _ => k) _ (by omega) (one_byt w3 k hk256 _)).mono ?_
      rintro e w4 ⟨rfl, hw4⟩
      have hb4 : Below w3.heap.size w3 w4 := by rw [← hw4]; exact below_alloc _ _
      clear hw4
      go_wp2_with fail
      refine (sum_three _ _ _ k (255 - k) _ (by simp) ((one_byt' _ w4 k hk256 rfl _).alloc _) (one_byt' _ _ (255 - k) (by omega) (by simp) _)).mono ?_
      rintro e w5 ⟨rfl, hb5⟩
      go_wp2_with fail
      refine (refOne_any _ 2 2 (two k (255 - k)) _ (by omega) (two_byt _ w5 k (255 - k) hk256 (by omega) rfl _)).mono ?_
      rintro e w6 ⟨rfl, hw6⟩
      have hb6 : Below w5.heap.size w5 w6 := by rw [← hw6]; exact below_alloc _ _
      clear hw6
      go_wp2_with fail
      have hup := fun (W : World) (g' : Nat) (hg' : g' = W.heap.size) (fr : Nat × Nat) => update_any (k * 16777216) (some ⟨g', 0, none⟩) 1 1 (fun _ => k) (W.alloc (.cells #[.int .u8 k] 5 fr)) (by omega) (by omega) (by omega) (one_byt' g' W k hk256 hg' fr)
      have hru := fun (W : World) (g' : Nat) (hg' : g' = W.heap.size) (fr : Nat × Nat) => refUpdate_any (k * 16777216) (some ⟨g', 0, none⟩) 1 1 (fun _ => k) (W.alloc (.cells #[.int .u8 k] 5 fr)) (by omega) (by omega) (one_byt' g' W k hk256 hg' fr)
      rw [show (((k * 16777216 : Nat)) : Int) = (k : Int) * 16777216 from by simp] at hup hru
      generalize goN (k * 16777216) (fun _ => k) 1 = G at hup hru
      refine (hup w6 _ rfl _).mono ?_
      rintro e w7 ⟨rfl, hb7⟩
      go_wp2_with fail
      refine (hru w7 _ rfl _).mono ?_
      rintro e w8 ⟨rfl, hw8⟩
      have hb8 : Below w7.heap.size w7 w8 := by rw [← hw8]; exact below_alloc _ _
      clear hw8 hup hru
      have hB8 : Below wr.heap.size wr w8 := below_thru (below_thru (below_thru (below_thru (below_thru (below_thru (below_alloc wr _) hb3) hb4 |> fun h => below_step (below_step h _) _) hb5) hb6 |> fun h => below_step h _) hb7) hb8
      clear hb3 hb4 hb5 hb6 hb7 hb8
      have hrow8 := owns_thru hrow hB8
      have hbyt8 := hbyt.below hB8
      have hbw8 : Below w.heap.size w w8 := below_thru hb hB8
      by_cases h70 : k < 70
      · obtain rfl : n = k := by have := HN.out; omega
        obtain ⟨h, hq0, hq1, hq2, hk1⟩ : ∃ h : Nat, (n : Int) / 2 = (h : Int) ∧ (n : Int).tdiv 2 = (h : Int) ∧ IntKind.i64.wrap (h : Int) = (h : Int) ∧ h ≤ n :=
          ⟨n / 2, by omega, by rw [Int.tdiv_eq_ediv_of_nonneg (by omega)]; omega, IntWalk.i64_in _ (by omega), by omega⟩
        have hk2 : h ≤ cap := by omega
        have hk3 : n - h ≤ cap - h := by omega
        have hk4 : cap - h ≤ 9223372036854775807 := by omega
        have hk5 : n ≤ 9223372036854775807 := by omega
        have hbh : Byt w8 a h mul37 := hbyt8.take hk1
        go_upto_region 11 with fail
        go_cut [73] (fun s wx => s = .bool false ∧ wx.ownsRow w.heap.size 5 1 (.slice a n cap) n (cellsOf mul37 n) ∧ Below w.heap.size w wx)
        case first =>
          obtain ⟨A1, A2, hA1, hA2, hzl, hzr⟩ := slices_at a n h cap mul37 w8 hk1 hac hadr hbyt8
          have hi0 : (0 : Int) ≤ (h : Int) := by omega
          have hi1 : (h : Int) ≤ (n : Int) := by omega
          have hi2 : (h : Int) ≤ (cap : Int) := by omega
          go_region_held3 (fun _ => True) (trivial) (first
            | (go_at_call 11; (with_reducible refine (sum_one _ a n cap mul37 _ hac hcm ?_ ?_).mono ?_); (next => (repeat (first | ((with_reducible refine cell_at1 ?_); (simp; done)) | (with_reducible refine cell_drew ?_) | (with_reducible refine cell_thru ?_ (by assumption)) | (with_reducible refine cell_alloc_l _ ?_)))); (next => (repeat (first | assumption | (with_reducible refine Byt.drew ?_) | (with_reducible refine Byt.below ?_ (by assumption)) | (with_reducible refine Byt.alloc ?_ _)))); rintro e w' ⟨rfl, hb⟩)
            | (go_at_call 11; (with_reducible refine (sum_six _ A1 A2 h n cap (cap - h) mul37 _ hk1 hk2 hcm hk3 hk4 ?_ ?_ ?_).mono ?_); (next => (with_reducible refine row_cells _ _ _ _ ?_ _); (simp; done)); (next => (repeat (first | assumption | (with_reducible refine Byt.drew ?_) | (with_reducible refine Byt.below ?_ (by assumption)) | (with_reducible refine Byt.alloc ?_ _)))); (next => (repeat (first | assumption | (with_reducible refine Byt.drew ?_) | (with_reducible refine Byt.below ?_ (by assumption)) | (with_reducible refine Byt.alloc ?_ _)))); rintro e w' ⟨rfl, hb⟩)
            | (go_at_call 18; (with_reducible refine (refOne_any a n cap mul37 _ hk5 ?_).mono ?_); (next => (repeat (first | assumption | (with_reducible refine Byt.drew ?_) | (with_reducible refine Byt.below ?_ (by assumption)) | (with_reducible refine Byt.alloc ?_ _)))); rintro e w' ⟨rfl, rfl⟩))
          all_goals
            go_wp2_with fail
            go_meet
            refine ⟨rfl, owns_thru hrow8 ?_, below_thru hbw8 ?_⟩
          all_goals (repeat (first | exact Below.refl _ _ | (with_reducible refine Below.drew ?_) | (with_reducible refine below_step ?_ _) | (with_reducible refine below_thru ?_ (by assumption))))
        case rest =>
          obtain ⟨rfl, hrow9, hbw9⟩ := hcut
          have hm37 : (n : Int) * 37 % 256 = ((mul37 n : Nat) : Int) := by unfold mul37; omega
          obtain ⟨i0, hi, hq0, hq1, hq2⟩ := info_parts info_u8
          go_wp2_with (at_builtin; go_must (refine wpList_append_own _ rfl (.tmp 74) (.tmp 78) 24 rfl w.heap.size 5 i0 (.int .u8 0) 1 1 Try.underlying24 hi hq0 hq1 hq2 rfl (by decide) _ n _ rfl (hrow9.alloc _) ⟨wc.heap.size, 0, none⟩ 1 1 [.int .u8 (mul37 n : Nat)] rfl rfl (cell_one_new _ _ _) (by simp [Value.oneCell']) (by unfold maxLen; omega) (by omega) (Nat.le_trans hbw9.size (by simp)) ?_); intro v' w9 hown' hgrow _)
          rw [← cellsOf_succ] at hown'
          have hbw10 : Below w.heap.size w w9 := (hbw9.alloc hbw9.size _).grown hgrow (Nat.le_trans hbw9.size (by simp)) (fun r e => (hrow9.lt r e).1)
          clear hgrow hrow9 hbw9
          go_wp2_with fail
          go_roundg g
          case measure => omega
          case rel => exact ⟨n + 1, n + 1, by omega, by go_num, (by show n + 1 = min (n + 1) 70; omega), hown', hbw10⟩
      · have h70' : ¬ ((k : Int) < 70) := by omega
        go_wp2_with fail
        go_roundg g
        case measure => omega
        case rel => exact ⟨k + 1, n, by omega, by go_num, (by have := HN.out; show n = min (k + 1) 70; omega), hrow8, hbw8⟩
end Go.Proofs.Ytdcpgoijjnkjaaa
