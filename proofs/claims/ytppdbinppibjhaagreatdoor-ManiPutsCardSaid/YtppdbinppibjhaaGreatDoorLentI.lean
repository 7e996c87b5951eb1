/-
  Contracts of the kit's functions that lend rows of numbers and look whether they are kept; rows of numbers as lists of cells.
-/
import Derived.Test.YtppdbinppibjhaaGreatDoorLent
import Derived.Test.YtppdbinppibjhaaGreatDoorAppendS
set_option maxHeartbeats 1000000
set_option maxRecDepth 100000
set_option linter.unusedVariables false
set_option linter.unusedSimpArgs false
namespace Go.Proofs.YtppdbinppibjhaaGreatDoor
open Go.RowKit
def icells (z : Nat → Int) (len : Nat) : List Value := (List.range len).map fun i => .int .i64 (z i)
theorem icells_length (z : Nat → Int) (len : Nat) : (icells z len).length = len := by simp [icells]
theorem icells_get (z : Nat → Int) (len i : Nat) (h : i < len) : (icells z len)[i]? = some (.int .i64 (z i)) := by simp [icells, h]
theorem icells_succ (z : Nat → Int) (n : Nat) : icells z (n + 1) = icells z n ++ [.int .i64 (z n)] := by simp [icells, List.range_succ]
theorem icells_congr {z y : Nat → Int} {n : Nat} (h : ∀ i, i < n → z i = y i) : icells z n = icells y n := by
 unfold icells
 apply List.map_congr_left
 intro i hi
 rw [h i (List.mem_range.1 hi)]
theorem icells_one (z : Nat → Int) (len : Nat) : ∀ u ∈ icells z len, u.oneCell' = true := by
 intro u hu
 simp only [icells, List.mem_map] at hu
 obtain ⟨i, _, rfl⟩ := hu
 rfl
theorem icells_news {w : World} {b off len : Nat} {z : Nat → Int} (hc : ∀ i, i < len → w.cell? ⟨b, off + i, none⟩ = some (.int .i64 (z i))) : ∀ j u, (icells z len)[j]? = some u → w.cell? ((⟨b, off, none⟩ : Addr).add j) = some u := by
 intro j u h
 have hj : j < len := by
  have := (List.getElem?_eq_some_iff.1 h).1
  rwa [icells_length] at this
 rw [icells_get z len j hj] at h
 have e : (⟨b, off, none⟩ : Addr).add j = ⟨b, off + j, none⟩ := by
  unfold Addr.add
  split
  ·rename_i e; rw [e, Nat.add_zero]
  ·rfl
 rw [e, hc j hj, h]
theorem info_int : (Tryz.prog.info? 3).map (fun i => (i.zero, i.size, i.bytes)) = some (some (.int .i64 0), 1, 8) := by kernel_rfl
def IBlk (w : World) (g len : Nat) (z : Nat → Int) : Prop := ∃ cur : Array Value, w.heap[g]? = some (.cells cur 3 (0, 0)) ∧ ∀ i, i < len → cur[i]? = some (.int .i64 (z i))
theorem IBlk.ints {w : World} {g len : Nat} {z : Nat → Int} (h : IBlk w g len z) : Ints w (some ⟨g, 0, none⟩) len z := by
 obtain ⟨cur, hg, hc⟩ := h
 exact .inr ⟨g, 0, rfl, fun i hi => by rw [Nat.zero_add, cell_of_row _ _ _ _ _ _ hg, hc i hi]⟩
theorem IBlk.cell {w : World} {g len : Nat} {z : Nat → Int} (h : IBlk w g len z) {i : Nat} (hi : i < len) : w.cell? ⟨g, i, none⟩ = some (.int .i64 (z i)) := by
 obtain ⟨cur, hg, hc⟩ := h
 rw [cell_of_row _ _ _ _ _ _ hg, hc i hi]
theorem IBlk.lt {w : World} {g len : Nat} {z : Nat → Int} (h : IBlk w g len z) : g < w.heap.size := by
 obtain ⟨cur, hg, hc⟩ := h
 exact block_lt hg
theorem IBlk.below {w w' : World} {g len : Nat} {z : Nat → Int} (h : IBlk w g len z) (hb : Below w.heap.size w w') : IBlk w' g len z := by
 have hl := h.lt
 obtain ⟨cur, hg, hc⟩ := h
 exact ⟨cur, (hb.block g hl).trans hg, hc⟩
theorem IBlk.kept {F : Nat → Prop} {w w' : World} {g len : Nat} {z : Nat → Int} (h : IBlk w g len z) (hk : Kept F w w') (hg : ¬ F g) : IBlk w' g len z := by
 obtain ⟨cur, hg', hc⟩ := h
 exact ⟨cur, hk.heap hg' hg, hc⟩
theorem IBlk.of_owns {w : World} {B n : Nat} {v : Value} {z : Nat → Int} (h : w.ownsRow B 3 1 v n (icells z n)) (hn : 0 < n) : ∃ g cap, v = .slice (some ⟨g, 0, none⟩) n cap ∧ B ≤ g ∧ n ≤ cap ∧ cap ≤ 9223372036854775807 ∧ IBlk w g n z := by
 obtain ⟨hl, ⟨_, h0⟩ | ⟨g, cap, cur, hv, hB, hg, hnc, hcm, hcs, hx⟩⟩ := h
 ·omega
 ·unfold maxLen at hcm
  refine ⟨g, cap, hv, hB, hnc, hcm, cur, hg, fun i hi => ?_⟩
  have h1 := icells_get z n i hi
  rw [← hx, List.getElem?_take_of_lt (by omega)] at h1
  simpa using h1
theorem IsRow.ints {w : World} {a : Option Addr} {len cap : Nat} {zs : List Int} (h : IsRow .i64 w a len cap zs) : len ≤ cap ∧ cap ≤ 9223372036854775807 ∧ (a = none → cap = 0) ∧ ∃ z, Ints w a len z := by
 rcases h with ⟨rfl, rfl, rfl, rfl⟩ | ⟨⟨b, off, spot⟩, rfl, hl, hm, hz, hc, _⟩
 ·exact ⟨by omega, by omega, (fun _ => rfl), (fun _ => 0), .inl rfl⟩
 ·unfold maxLen at hm
  refine ⟨hl, hm, (fun h => by cases h), (fun i => zs.getD i 0), ?_⟩
  rcases Nat.eq_zero_or_pos len with h0 | h0
  ·exact .inl h0
  ·have hs := World.cell?_spot (hc 0 (by omega))
   have hsp : spot = none := by simpa [Addr.add] using hs
   subst hsp
   refine .inr ⟨b, off, rfl, fun i hi => ?_⟩
   rw [← hc i (by omega)]
   unfold Addr.add
   split
   ·rename_i e; rw [e, Nat.add_zero]
   ·rfl
def markI (i : Nat) : Int := ((8000024 + i : Nat) : Int)
theorem markI_any (i : Nat) (w : World) (hi : i < 1000) :
  Calls Tryz.prog 105 #[.int .i64 1, .int .i64 i] w fun e w' => e = .returned (.int .i64 (markI i)) ∧ w = w' := by
 have e : (8000024 : Int) + (i : Int) = markI i := by simp [markI]
 go_enter Tryz.func105, Tryz.ntmps105
 go_wp2
 go_ret
 exact ⟨ret_int e, rfl⟩
def lentI (z : Nat → Int) (len : Nat) (i : Nat) : Int := if i < len then z i else markI (i - len)
theorem lentI_take (z : Nat → Int) (len : Nat) : icells (lentI z len) len = icells z len := icells_congr (fun i hi => by rw [lentI, if_pos hi])
theorem lentInts_any (a : Option Addr) (len cap : Nat) (z : Nat → Int) (w : World) (hl : len ≤ 20000) (hn : a = none → cap = 0) (hlc : len ≤ cap) (hz : Ints w a len z) :
  Calls Tryz.prog 128 #[.slice a len cap] w fun e w' => ∃ g, e = .returned (.slice (some ⟨g, 0, none⟩) len (len + 12)) ∧ w.heap.size ≤ g ∧ IBlk w' g (len + 12) (lentI z len) ∧ Below w.heap.size w w' := by
 obtain ⟨i0, hi, hq0, hq1, hq2⟩ := info_parts info_int
 have hlen := icells_length z len
 have hone := icells_one z len
 have hnone : a = none → len = 0 ∧ cap = 0 := fun h => by have := hn h; omega
 have hsrc : ∀ W : World, Below w.heap.size w W → ∀ ad, a = some ad → ∀ j u, (icells z len)[j]? = some u → W.cell? (ad.add j) = some u := by
  intro W hW ad had
  rcases hz with h | ⟨b, off, h, hc⟩
  ·intro j u hj
   subst h
   simp [icells] at hj
  ·rw [h] at had
   cases had
   exact icells_news (fun i hi => cell_thru (hc i hi) hW)
 go_enter Tryz.func128, Tryz.ntmps128
 go_wp2_with (first
  | (at_make; go_must (refine wpList_make_own _ rfl (.const (.int .i64 0)) (.tmp 7) 49 rfl w.heap.size 3 i0 (.int .i64 0) 1 Tryz.underlying49 hi hq0 hq1 .i64 .i64 _ (len + 12) rfl rfl (by simp) (by rw [hq2]; omega) (by unfold maxLen; omega) (Nat.le_refl _) ?_); intro w1 hown1 hg1; have hb1 := below_grown hg1)
  | (at_builtin; go_must (refine wpList_append_fits_any _ rfl (.tmp 9) (.tmp 10) 49 rfl w.heap.size 3 i0 1 Tryz.underlying49 hi hq1 w.heap.size 0 (len + 12) [] rfl hown1 a len cap (icells z len) rfl (by omega) hnone (hsrc w1 hb1) hone (by omega) ?_); intro w2 hown2 hg2))
 have hb2 : Below w.heap.size w w2 := hb1.grown hg2 hb1.size (fun k e => by cases e; exact Nat.le_refl _)
 simp only [List.nil_append, Nat.zero_add] at hown2
 rw [← lentI_take] at hown2
 clear hown1 hg1 hg2 hsrc hone hlen hnone
 go_loopw [3, 4] (fun s3 s4 wr => ∃ k : Nat, k ≤ 12 ∧ s4 = .int .i64 k ∧ s3 = .slice (some ⟨w.heap.size, 0, none⟩) (len + k) (len + 12) ∧ wr.ownsRow w.heap.size 3 1 (.slice (some ⟨w.heap.size, 0, none⟩) (len + k) (len + 12)) (len + k) (icells (lentI z len) (len + k)) ∧ Below w.heap.size w wr) (fun _ s4 _ => 12 - (intOf s4).toNat)
 case atStart => exact ⟨0, by omega, rfl, by simp, hown2, hb2⟩
 case round =>
  obtain ⟨k, hk, rfl, rfl, hown, hbr⟩ := hrel
  by_cases hlt : k < 12
  ·have hlm : lentI z len (len + k) = markI k := by unfold lentI; rw [if_neg (by omega), Nat.add_sub_cancel_left]
   go_wp2_with (first
    | (go_at_call 105; refine (markI_any k _ (by omega)).mono ?_; rintro e w' ⟨rfl, rfl⟩)
    | (at_builtin; go_must (refine wpList_append_fits _ rfl (.tmp 16) (.tmp 19) 49 rfl w.heap.size 3 i0 1 Tryz.underlying49 hi hq1 w.heap.size (len + k) (len + 12) _ rfl (hown.alloc _) ⟨wr.heap.size, 0, none⟩ 1 1 [.int .i64 (markI k)] rfl rfl (cell_one_new _ _ _) (by simp [Value.oneCell']) (by omega) ?_); intro w3 hown3 hg3))
   have hb3 : Below w.heap.size w w3 := (hbr.alloc hbr.size _).grown hg3 (Nat.le_trans hbr.size (by simp)) (fun k e => by cases e; exact Nat.le_refl _)
   rw [← hlm, ← icells_succ] at hown3
   go_roundw
   case rel => exact ⟨k + 1, by omega, by go_num, rfl, hown3, hb3⟩
   case measure => simp [intOf]; omega
  ·obtain rfl : k = 12 := by omega
   obtain ⟨g, cap', hv, hBg, hnc, hcm, hblk⟩ := IBlk.of_owns hown (by omega)
   cases hv
   go_wp2
   go_ret
   exact ⟨w.heap.size, rfl, Nat.le_refl _, hblk, hbr⟩
theorem keptInts_any (g : Nat) (a : Option Addr) (len cap : Nat) (z : Nat → Int) (w : World) (hl : len ≤ 20000) (hb : IBlk w g (len + 12) (lentI z len)) (hz : Ints w a len z) :
  Calls Tryz.prog 131 #[.slice (some ⟨g, 0, none⟩) len (len + 12), .slice a len cap] w fun e w' => e = .returned (.bool true) ∧ Below w.heap.size w w' := by
 go_enter Tryz.func131, Tryz.ntmps131
 go_wp2
 go_loopg [6] (len + 12) (fun q s6 wr => ∃ k : Nat, k + q = len + 12 ∧ s6 = .int .i64 k ∧ Below w.heap.size w wr)
 case atStart => exact ⟨0, by omega, rfl, Below.refl _ _⟩
 case round =>
  obtain ⟨k, hkq, rfl, hbr⟩ := hrel
  cases gk with
  | zero =>
    have hkz : ¬ ((k : Int) < (len : Int) + 12) := by omega
    go_wp2
    go_ret
    exact ⟨rfl, hbr⟩
  | succ q =>
    have hkz : (k : Int) < (len : Int) + 12 := by omega
    have hk0 : (0 : Int) ≤ (k : Int) := by omega
    have hcell := (hb.below hbr).cell (i := k) (by omega)
    by_cases hlt : k < len
    ·have hlz : lentI z len k = z k := by unfold lentI; rw [if_pos hlt]
     rw [hlz] at hcell
     obtain ⟨b, off, rfl, hc⟩ : ∃ b off, a = some ⟨b, off, none⟩ ∧ w.cell? ⟨b, off + k, none⟩ = some (.int .i64 (z k)) := by
      rcases hz with h | ⟨b, off, h, hc⟩
      ·omega
      ·exact ⟨b, off, h, hc k hlt⟩
     have hc2 := cell_thru hc hbr
     have hi1 : (k : Int) < (len : Int) := by omega
     have hd1 : decide ((k : Int) < (len : Int)) = true := decide_eq_true hi1
     have hd2 : decide ((len : Int) ≤ (k : Int)) = false := decide_eq_false (by omega)
     have hd3 : decide (k < len) = true := decide_eq_true hlt
     have hd4 : decide (len ≤ k) = false := decide_eq_false (by omega)
     clear hc
     go_upto_region 7 with fail
     go_cut [57] (fun s wx => s = .bool false ∧ Below w.heap.size w wx)
     case first =>
      go_quiet (fail)
      all_goals
       go_wp2_with fail
       go_meet
       exact ⟨rfl, below_drewN hbr _⟩
     case rest =>
      obtain ⟨rfl, hbc⟩ := hcut
      go_wp2_with fail
      go_roundg q
      case measure => omega
      case rel => exact ⟨k + 1, by omega, by go_num, hbc⟩
    ·obtain ⟨j, rfl⟩ : ∃ j, k = len + j := ⟨k - len, by omega⟩
     have hlz : lentI z len (len + j) = markI j := by unfold lentI; rw [if_neg (by omega), Nat.add_sub_cancel_left]
     rw [hlz] at hcell
     have hk1 : ((len + j : Nat) : Int) = (len : Int) + (j : Int) := by simp
     have hsub : IntKind.i64.wrap ((len : Int) + (j : Int) - (len : Int)) = (j : Int) := by rw [show (len : Int) + (j : Int) - (len : Int) = (j : Int) from by omega]; exact IntWalk.i64_in _ (by omega)
     have hd1 : decide ((len : Int) + (j : Int) < (len : Int)) = false := decide_eq_false (by omega)
     have hd2 : decide ((len : Int) ≤ (len : Int) + (j : Int)) = true := decide_eq_true (by omega)
     have hd3 : decide (len + j < len) = false := decide_eq_false (by omega)
     have hd4 : decide (len ≤ len + j) = true := decide_eq_true (by omega)
     have hi1 : (len : Int) + (j : Int) < (len : Int) + 12 := by omega
     have hm := fun W : World => (markI_any j W (by omega)).mono (R' := fun e w' => e = .returned (.int .i64 (markI j)) ∧ w' = W) fun _ _ ⟨he, hw⟩ => ⟨he, hw.symm⟩
     go_upto_region 7 with fail
     go_cut [57] (fun s wx => s = .bool false ∧ Below w.heap.size w wx)
     case first =>
      go_quiet ((go_at_call 105; exact Calls.quiet_of_same (hm _)))
      all_goals
       go_wp2_with fail
       go_meet
       exact ⟨rfl, below_drewN hbr _⟩
     case rest =>
      obtain ⟨rfl, hbc⟩ := hcut
      go_wp2_with fail
      go_roundg q
      case measure => omega
      case rel => exact ⟨len + j + 1, by omega, by go_num, hbc⟩
end Go.Proofs.YtppdbinppibjhaaGreatDoor
