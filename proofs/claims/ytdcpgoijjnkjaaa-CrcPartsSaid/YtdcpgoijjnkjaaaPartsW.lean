/-
  CrcParts's walk.
-/
import Derived.Test.YtdcpgoijjnkjaaaParts13
import Derived.BigRegion
import Derived.RegionTactic
import Derived.Deep.DeepMust
import Derived.Deep.Light
import Derived.Deep.RegionWith
import Derived.Deep.RegionHeld3
import Derived.Deep.LoopGhost
import Derived.Deep.DeepCutAuto
import Derived.Deep.OwnRows
namespace Go.Proofs.Ytdcpgoijjnkjaaa
open Go.RowKit

set_option maxRecDepth 100000 in
set_option maxHeartbeats 6000000 in
theorem parts_walk (a : Option Addr) (len cap : Nat) (x : Int) (a2 : Option Addr) (len2 cap2 : Nat) (z y : Nat → Nat) (w : World) (hx : (Lit.int .i64 x).wf = true)
    (hl : len ≤ cap) (hc : cap ≤ 9223372036854775807) (hz : Byt w a len z) (ha : cap = 0 ∨ ∃ b off, a = some ⟨b, off, none⟩)
    (hl2 : len2 ≤ cap2) (hc2 : cap2 ≤ 9223372036854775807) (hy : Byt w a2 len2 y) (ha2 : cap2 = 0 ∨ ∃ b off, a2 = some ⟨b, off, none⟩) :
    Calls Try.prog 6 #[.slice a len cap, .int .i64 x, .slice a2 len2 cap2] w fun e w' => e = .returned (.bool true) ∧ Below w.heap.size w w' := by
  by_cases h1 : 20000 < len
  · go_enter Try.func6, Try.ntmps6
    go_wp2_with fail
    refine (awake_any w).mono ?_
    rintro e w1 ⟨rfl, hb1⟩
    go_wp2
    go_ret
    exact ⟨rfl, hb1⟩
  by_cases h2 : len2 < len
  · go_enter Try.func6, Try.ntmps6
    go_wp2_with fail
    refine (awake_any w).mono ?_
    rintro e w1 ⟨rfl, hb1⟩
    go_wp2
    go_ret
    exact ⟨rfl, hb1⟩
  go_enter Try.func6, Try.ntmps6
  go_wp2_with fail
  refine (awake_any w).mono ?_
  rintro e w1 ⟨rfl, hb1⟩
  go_wp2_with fail
  have hp := pick_any x (len + 1) w1 hx (by omega) (by omega)
  rw [show (((len + 1 : Nat)) : Int) = (len : Int) + 1 from by simp] at hp
  have hf := pickN_lt x (len + 1) (by omega)
  generalize pickN x (len + 1) = k at hp hf
  refine hp.mono ?_
  rintro e w2 ⟨rfl, rfl⟩
  clear hp
  go_upto_region 6 with fail
  have hz1 := hz.below hb1
  have hy1 := hy.below hb1
  have hk1 : k ≤ len := by omega
  have hk2 : k ≤ cap := by omega
  have hk3 : len - k ≤ cap - k := by omega
  have hk4 : cap - k ≤ 9223372036854775807 := by omega
  obtain ⟨A1, A2, hA1, hA2, hzl, hzr⟩ := slices_at a len k cap z w1 hk1 hl ha hz1
  go_cut [54] (fun s wx => s = .bool false ∧ Below w.heap.size w wx)
  case first =>
    have hi0 : (0 : Int) ≤ (k : Int) := by omega
    have hi1 : (k : Int) ≤ (len : Int) := by omega
    have hi2 : (k : Int) ≤ (cap : Int) := by omega
    go_region_held3 (fun _ => True) (trivial) (first
      | (go_at_call 11; (with_reducible refine (sum_split _ A1 A2 k len cap (cap - k) z _ hk1 hk2 hk3 hc hk4 ?_ ?_ ?_ ?_).mono ?_); (next => (repeat (first | ((with_reducible refine cell_at1 ?_); (simp; done)) | ((with_reducible refine cell_at20 ?_); (simp; done)) | ((with_reducible refine cell_at21 ?_); (simp; done)) | (with_reducible refine cell_drew ?_) | (with_reducible refine cell_thru ?_ (by assumption)) | (with_reducible refine cell_alloc_l _ ?_)))); (next => (repeat (first | ((with_reducible refine cell_at1 ?_); (simp; done)) | ((with_reducible refine cell_at20 ?_); (simp; done)) | ((with_reducible refine cell_at21 ?_); (simp; done)) | (with_reducible refine cell_drew ?_) | (with_reducible refine cell_thru ?_ (by assumption)) | (with_reducible refine cell_alloc_l _ ?_)))); (next => (repeat (first | assumption | (with_reducible refine Byt.drew ?_) | (with_reducible refine Byt.below ?_ (by assumption)) | (with_reducible refine Byt.alloc ?_ _)))); (next => (repeat (first | assumption | (with_reducible refine Byt.drew ?_) | (with_reducible refine Byt.below ?_ (by assumption)) | (with_reducible refine Byt.alloc ?_ _)))); rintro e w' ⟨rfl, hb⟩)
      | (go_at_call 11; (with_reducible refine (sum_one _ a len cap z _ hl hc ?_ ?_).mono ?_); (next => (repeat (first | ((with_reducible refine cell_at1 ?_); (simp; done)) | ((with_reducible refine cell_at20 ?_); (simp; done)) | ((with_reducible refine cell_at21 ?_); (simp; done)) | (with_reducible refine cell_drew ?_) | (with_reducible refine cell_thru ?_ (by assumption)) | (with_reducible refine cell_alloc_l _ ?_)))); (next => (repeat (first | assumption | (with_reducible refine Byt.drew ?_) | (with_reducible refine Byt.below ?_ (by assumption)) | (with_reducible refine Byt.alloc ?_ _)))); rintro e w' ⟨rfl, hb⟩)
      | (go_at_call 11; (with_reducible refine (sum_one _ A1 k cap z _ hk2 hc ?_ ?_).mono ?_); (next => (repeat (first | ((with_reducible refine cell_at1 ?_); (simp; done)) | ((with_reducible refine cell_at20 ?_); (simp; done)) | ((with_reducible refine cell_at21 ?_); (simp; done)) | (with_reducible refine cell_drew ?_) | (with_reducible refine cell_thru ?_ (by assumption)) | (with_reducible refine cell_alloc_l _ ?_)))); (next => (repeat (first | assumption | (with_reducible refine Byt.drew ?_) | (with_reducible refine Byt.below ?_ (by assumption)) | (with_reducible refine Byt.alloc ?_ _)))); rintro e w' ⟨rfl, hb⟩)
      | (go_at_call 9; (with_reducible refine (update_rest A2 k len (cap - k) z _ hk1 hk3 hk4 ?_).mono ?_); (next => (repeat (first | assumption | (with_reducible refine Byt.drew ?_) | (with_reducible refine Byt.below ?_ (by assumption)) | (with_reducible refine Byt.alloc ?_ _)))); rintro e w' ⟨rfl, hb⟩))
    all_goals
      go_wp2_with fail
      go_meet
      refine ⟨rfl, ?_⟩
    all_goals (repeat (first | exact hb1 | (with_reducible refine Below.drew ?_) | (with_reducible refine below_step ?_ _) | (with_reducible refine below_thru ?_ (by assumption))))
  case rest =>
    obtain ⟨rfl, hb3⟩ := hcut
    go_upto_region 8 with fail
    have hmk := fun wx => run_make_row' (P := Try.prog) 24 5 (.int .u8 0) 1 Try.underlying24 info_u8 rfl .i64 .i64 len (by omega) (by omega) wx
    have hwc : w.heap.size ≤ wc.heap.size := hb3.size
    go_cut [8, 9] (fun s8 s9 wx => ∃ g1 g2, s8 = .slice (some ⟨g1, 0, none⟩) len len ∧ s9 = .slice (some ⟨g2, 0, none⟩) len len ∧ g1 ≠ g2 ∧ w.heap.size ≤ g1 ∧ w.heap.size ≤ g2 ∧ Blk wx g1 len (fun _ => 0) ∧ Blk wx g2 len (fun _ => 0) ∧ Below w.heap.size w wx)
    case first =>
      go_region_held3 (fun _ => True) (trivial) (first | fail)
      all_goals
        go_wp2_with fail
        go_meet
        refine ⟨_, _, rfl, rfl, ?_, ?_, ?_, ?_, ?_, ?_⟩
      all_goals (first | omega | (with_reducible refine Below.drew ?_; exact below_step (below_step hb3 _) _) | ((refine Blk.drew ?_); (refine made_blk _ _ _ ?_); (simp; done)) | ((refine Blk.drew ?_); exact (made_blk _ _ _ rfl).below (below_alloc _ _)))
    case rest =>
      obtain ⟨g1, g2, rfl, rfl, hgg, hg1, hg2, hB1, hB2, hb4⟩ := hcut
      clear hmk hA1 hA2 hzl hzr
      go_wp2_with fail
      go_loopg [10] len (fun g s10 wx => ∃ i : Nat, i + g = len ∧ s10 = .int .i64 i ∧ Blk wx g1 len (xorTo z y i) ∧ Blk wx g2 len (fun _ => 0) ∧ Below w.heap.size w wx)
      case atStart => exact ⟨0, by omega, rfl, hB1, hB2, hb4⟩
      case round =>
        obtain ⟨i, hig, rfl, hX, hZ, hbr⟩ := hrel
        cases gk with
        | zero =>
          have hiz : ¬ ((i : Int) < (len : Int)) := by omega
          obtain rfl : i = len := by omega
          obtain ⟨A3, _, hA3, _, hy3, _⟩ := slices_at a2 len2 i cap2 y wr (by omega) hl2 ha2 (hy.below hbr)
          have hz3 := hz.below hbr
          have hX3 := hX.byt
          have hZ3 := hZ.byt
          have hm63 : i ≤ 9223372036854775807 := by omega
          have hl3 : i ≤ cap2 := by omega
          have hi0 : (0 : Int) ≤ (i : Int) := by omega
          have hi1 : (i : Int) ≤ (len2 : Int) := by omega
          have hi2 : (i : Int) ≤ (cap2 : Int) := by omega
          obtain ⟨D, hD1, hD2⟩ : ∃ D : Nat, bits BinOp.xor IntKind.u32 ((sumN z i : Nat) : Int) ((sumN y i : Nat) : Int) = (D : Int) ∧ bits BinOp.xor IntKind.u32 (D : Int) ((sumN (fun _ => 0) i : Nat) : Int) = ((sumN (xorTo z y i) i : Nat) : Int) :=
            ⟨_, (sum_linear_bits z y i).1, by rw [xorTo_sum]; exact (sum_linear_bits z y i).2⟩
          clear hX hZ hB1 hB2 hb4 hb3 hz1 hy1 hwc hiz
          go_upto_region 13 with fail
          go_cut [6] (fun s wx => s = .bool true ∧ Below w.heap.size w wx)
          case first =>
            have k1 : ∀ (W : World) (g : Nat), Below wr.heap.size wr W → W.cell? ⟨g, 0, none⟩ = some (.slice (some ⟨g1, 0, none⟩) i i) → _ := fun W g hW hg => sum_one g (some ⟨g1, 0, none⟩) i i (xorTo z y i) W (Nat.le_refl _) hm63 hg (hX3.below hW)
            have k2 : ∀ (W : World) (g : Nat), Below wr.heap.size wr W → W.cell? ⟨g, 0, none⟩ = some (.slice a i cap) → _ := fun W g hW hg => sum_one g a i cap z W hl hc hg (hz3.below hW)
            have k3 : ∀ (W : World) (g : Nat), Below wr.heap.size wr W → W.cell? ⟨g, 0, none⟩ = some (.slice A3 i cap2) → _ := fun W g hW hg => sum_one g A3 i cap2 y W hl3 hc2 hg (hy3.below hW)
            have k4 : ∀ (W : World) (g : Nat), Below wr.heap.size wr W → W.cell? ⟨g, 0, none⟩ = some (.slice (some ⟨g2, 0, none⟩) i i) → _ := fun W g hW hg => sum_one g (some ⟨g2, 0, none⟩) i i (fun _ => 0) W (Nat.le_refl _) hm63 hg (hZ3.below hW)
            refine region13_lit g1 g2 i cap len2 cap2 a a2 A3 (sumN (xorTo z y i) i) (sumN z i) (sumN y i) D (sumN (fun _ => 0) i) _ _ wr rfl rfl rfl rfl rfl hA3 hD1 hD2 k1 k2 k3 k4 ?_
            intro vs w' hB' h6'
            have hbz := below_thru hbr hB'
            clear k1 k2 k3 k4 hD1 hD2 hA3 hX3 hZ3 hz3 hy3 hB'
            simp only [List.foldl_cons, List.foldl_nil, List.setIfInBounds_toArray, List.set_cons_succ, List.set_cons_zero, h6']
            clear h6'
            generalize vs 79 = v79
            generalize vs 80 = v80
            generalize vs 81 = v81
            generalize vs 82 = v82
            generalize vs 83 = v83
            generalize vs 84 = v84
            generalize vs 85 = v85
            generalize vs 86 = v86
            generalize vs 87 = v87
            generalize vs 88 = v88
            generalize vs 89 = v89
            generalize vs 90 = v90
            generalize vs 91 = v91
            generalize vs 92 = v92
            generalize vs 93 = v93
            generalize vs 94 = v94
            generalize vs 95 = v95
            generalize vs 96 = v96
            clear vs
            go_wp2_with fail
            go_meet
            exact ⟨rfl, hbz⟩
          case rest =>
            obtain ⟨rfl, hbz⟩ := hcut
            go_wp2
            go_ret
            exact ⟨rfl, hbz⟩
        | succ g =>
          have hiz : (i : Int) < (len : Int) := by omega
          have hi0 : (0 : Int) ≤ (i : Int) := by omega
          have hi2 : (i : Int) < (len2 : Int) := by omega
          obtain ⟨b, off, rfl, hcell⟩ : ∃ b off, a = some ⟨b, off, none⟩ ∧ w.cell? ⟨b, off + i, none⟩ = some (.int .u8 (z i : Nat)) := by
            rcases hz.2 with h | ⟨b, off, h, hc⟩
            · omega
            · exact ⟨b, off, h, hc i (by omega)⟩
          obtain ⟨b2, off2, rfl, hcell2⟩ : ∃ b off, a2 = some ⟨b, off, none⟩ ∧ w.cell? ⟨b, off + i, none⟩ = some (.int .u8 (y i : Nat)) := by
            rcases hy.2 with h | ⟨b, off, h, hc⟩
            · omega
            · exact ⟨b, off, h, hc i (by omega)⟩
          have hc1 := cell_thru hcell hbr
          have hc3 := cell_thru hcell2 hbr
          have hcx := hX.cell (i := i) (by omega)
          have hfx := hX.frozen i
          have hxor := u8_xor_nat (z i) (y i) (hz.1 i) (hy.1 i)
          clear hcell hcell2
          go_wp2
          go_region
          go_wp2
          go_roundg g
          case measure => omega
          case rel =>
            refine ⟨i + 1, by omega, by go_num, ?_, ?_, (hbr.setCell (p := ⟨g1, i, none⟩) hg1 _).drew⟩
            · exact (hX.set i _ (fun j => xorTo_lt z y (i + 1) j hz.1 hy.1) (by unfold xorTo; rw [if_pos (by omega)]) (fun j hj => by
                unfold xorTo
                have : (j < i + 1) ↔ (j < i) := by omega
                simp [this])).drew
            · exact (hZ.other (fun h => hgg h.symm)).drew
end Go.Proofs.Ytdcpgoijjnkjaaa
