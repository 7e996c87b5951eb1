/-
  The reference's Bytes, Count.
-/
import Derived.Test.YtmnjicpgdhnimaaDoorSRefs
import Derived.Test.YtmnjicpgdhnimaaDoorAppend
import Derived.Test.YtmnjicpgdhnimaaDoorSBl
import Derived.Deep.Cut
import Derived.Deep.LoopGhost
namespace Go.Proofs.YtmnjicpgdhnimaaDoor
open Go.RowKit

theorem owns_lower {w : World} {B B' n : Nat} {v : Value} {xs : List Value} {e : TypeId} {size : Nat} (h : w.ownsRow B e size v n xs) (hB : B' ≤ B) : w.ownsRow B' e size v n xs := by
  obtain ⟨hl, h | ⟨g, cap, cur, hv, hg, hx⟩⟩ := h
  · exact ⟨hl, .inl h⟩
  · exact ⟨hl, .inr ⟨g, cap, cur, hv, Nat.le_trans hB hg, hx⟩⟩
theorem bl_length_le (H : Nat → Bool) : ∀ k, (bl H k).length ≤ k
  | 0 => Nat.le_refl _
  | k + 1 => by
    have h := bl_length_le H k
    unfold bl
    split
    · simp; omega
    · omega

set_option maxRecDepth 100000 in
set_option maxHeartbeats 1000000 in
theorem refBytes_any (H : Nat → Bool) (w : World) :
    Calls Tryd.prog 34 #[sv H] w fun e w' => ∃ v, e = .returned v ∧ w'.ownsRow w.heap.size 5 1 v (bl H 256).length (lc (bl H 256)) ∧ Below w.heap.size w w' := by
  obtain ⟨i0, hi, hq0, hq1, hq2⟩ := info_parts info_u8
  have hb0 := hide ((Below.refl w.heap.size w).alloc (Nat.le_refl _) (.cells (st H) 24))
  have h1 := hide (SBox.new w w.heap.size H rfl)
  unfold sv
  go_enter Tryd.func34, Tryd.ntmps34
  go_wp2_with fail
  go_loopg [3, 4] 256 (fun q s3 s4 wr => ∃ (k : Nat) (A : Option Addr) (C : Nat), k + q = 256 ∧ s4 = .int .i64 k ∧ s3 = .slice A (bl H k).length C ∧ SBox wr w.heap.size H ∧ wr.ownsRow (w.heap.size + 1) 5 1 (.slice A (bl H k).length C) (bl H k).length (lc (bl H k)) ∧ Below w.heap.size w wr)
  case atStart => exact ⟨0, none, 0, by omega, rfl, rfl, h1.out, ⟨rfl, .inl ⟨rfl, rfl⟩⟩, hb0.out⟩
  case round =>
    obtain ⟨k, A, C, hkq, rfl, rfl, hH, hown, hbr⟩ := hrel
    have HO := hide hown
    have HB := hide hbr
    clear hown hbr
    cases gk with
    | zero =>
      obtain rfl : k = 256 := by omega
      go_wp2_with fail
      go_ret
      exact ⟨_, rfl, owns_lower HO.out (by omega), HB.out⟩
    | succ q =>
      have hkl : k < 256 := by omega
      have hk1 : (k : Int) < 256 := by omega
      have hk8 : (k : Int) % 256 = (k : Int) := by omega
      have hgl : (bl H k).length ≤ k := bl_length_le H k
      go_wp2_with (refine wpList_load_row rfl 24 _ rfl w.heap.size rfl 24 (st H) (0, 0) _ hH Tryd.underlying24 rfl (sizeSet H) ?_)
      refine (refHas_any H k _ hkl).mono ?_
      rintro e w1 ⟨rfl, hb1⟩
      have hH1 := hH.below hb1 hH.lt
      have hown1 := owns_thru HO.out hb1
      have HB1 := hide (HB.out.trans (hb1.mono (by have := hH.lt; omega)))
      have hsz := hH1.lt
      clear hH hb1
      cases hf : H k with
      | true =>
        have hb := hide (bl_yes hf)
        have hnew := cell_one_new w1 (.int .u8 (k : Nat)) 5
        have hrA := owns_thru hown1 (below_alloc w1 (.cells #[.int .u8 (k : Nat)] 5))
        obtain ⟨m, hm⟩ : ∃ m, (bl H k).length = m := ⟨_, rfl⟩
        rw [hm] at hrA hgl ⊢
        have HM := hide hm
        have HW := hide (And.intro hown1 hH1)
        clear hf hm hown1 hH1
        go_wp2_with (at_builtin; go_must (refine wpList_append_foot _ rfl (.tmp 13) (.tmp 16) 25 rfl 5 i0 (.int .u8 0) 1 Tryd.underlying25 hi hq0 hq1 hq2 rfl (w.heap.size + 1) _ m (lc (bl H k)) rfl hrA (some ⟨w1.heap.size, 0, none⟩) 1 1 [.int .u8 (k : Nat)] rfl rfl (fun e => by cases e) (fun ad e => by cases e; exact hnew) (by simp [Value.oneCell']) (by unfold maxLen; omega) (by omega) (by simp; omega) ?_); intro A' C' w2 hown' hG')
        go_roundg q
        case measure => omega
        case rel =>
          have hlen' : (bl H (k + 1)).length = m + 1 := by rw [hb.out, List.length_append, HM.out]; rfl
          have hG2 : Grew (w1.alloc (.cells #[.int .u8 (k : Nat)] 5)) w2 (.slice A m C) (.slice A' (m + 1) C') := hG'
          have hb2 : Below (w.heap.size + 1) (w1.alloc (.cells #[.int .u8 (k : Nat)] 5)) w2 := (hG2.kept (F := fun x => (Value.slice A m C).ownBlock = some x) (fun _ h => h)).below (fun x hx => (owns_cells HO.out x (by rw [← hx, HM.out])).2.1) (by simp; omega)
          have hb3 := ((below_alloc w1 (.cells #[.int .u8 (k : Nat)] 5)).mono (show w.heap.size + 1 ≤ w1.heap.size by omega)).trans hb2
          refine ⟨k + 1, A', C', by omega, by go_num, by rw [hlen'], HW.out.2.below hb3 (by omega), ?_, HB1.out.trans (hb3.mono (by omega))⟩
          rw [hlen', hb.out, lc_append]; exact hown'
      | false =>
        have hb := hide (bl_no hf)
        clear hf
        go_wp2_with fail
        go_roundg q
        case measure => omega
        case rel => exact ⟨k + 1, A, C, by omega, by go_num, by rw [hb.out], hH1, by rw [hb.out]; exact hown1, HB1.out⟩

set_option maxHeartbeats 1000000 in
theorem refCount_any (H : Nat → Bool) (w : World) :
    Calls Tryd.prog 32 #[sv H] w fun e w' => e = .returned (.int .i64 ((bl H 256).length : Nat)) ∧ Below w.heap.size w w' := by
  have hb0 := hide ((Below.refl w.heap.size w).alloc (Nat.le_refl _) (.cells (st H) 24))
  have h1 := SBox.new w w.heap.size H rfl
  unfold sv
  go_enter Tryd.func32, Tryd.ntmps32
  go_wp2_with (refine wpList_load_row rfl 24 _ rfl w.heap.size rfl 24 (st H) (0, 0) _ h1 Tryd.underlying24 rfl (sizeSet H) ?_)
  refine (refBytes_any H _).mono ?_
  rintro e w1 ⟨v, rfl, hown, hb1⟩
  obtain ⟨A, C, rfl⟩ := owns_slice hown
  have HB := hide (hb0.out.trans (hb1.mono (by simp)))
  clear hb1 hown h1
  go_wp2_with fail
  go_ret
  exact ⟨rfl, HB.out⟩
end Go.Proofs.YtmnjicpgdhnimaaDoor
