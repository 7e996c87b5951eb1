/-
  ApartBytes.
-/
import Derived.Test.YtpnphijfdcimlaaApart
namespace Go.Proofs.Ytpnphijfdcimlaa
open Go.RowKit

set_option maxRecDepth 100000 in
set_option maxHeartbeats 1000000 in
theorem putBytes_any (p k : Nat) (A5 : Option Addr) (C5 : Nat) (ys : List Value) (a : Option Addr) (len cap : Nat) (w : World) (hk : ys.length = k) (hk2 : k ≤ 100000) (hp : Bag w p (.slice A5 k C5)) (ho : w.ownsRow 0 25 1 (.slice A5 k C5) k ys) (hne : ∀ g, (Value.slice A5 k C5).ownBlock = some g → g ≠ p) :
    Calls Try.prog 51 #[.pointer (some ⟨p, 0, none⟩), .slice a len cap] w fun e w' => e = .returned (.tuple #[]) ∧ ∃ A6 C6, Bag w' p (.slice A6 (k + 1) C6) ∧ w'.ownsRow 0 25 1 (.slice A6 (k + 1) C6) (k + 1) (ys ++ [.slice a len cap]) ∧
      (∀ g, (Value.slice A6 (k + 1) C6).ownBlock = some g → g ≠ p ∧ ((Value.slice A5 k C5).ownBlock = some g ∨ w.heap.size ≤ g)) ∧ Kept (fun x => x = p ∨ (Value.slice A5 k C5).ownBlock = some x) w w' := by
  obtain ⟨i0, hi, hq0, hq1, hq2⟩ := info_parts info_sb
  have hpl : p < w.heap.size := block_lt hp
  have c5 : w.cell? ⟨p, 5, none⟩ = some (.slice A5 k C5) := hp.cell 5
  have f5 : w.frozen? ⟨p, 5, none⟩ = false := frozen_of_row _ _ _ _ _ hp
  have k5 := cell_alloc_l (W := w) (.cells #[.slice a len cap] 25) c5
  have m5 := frozen_alloc_l (W := w) (.cells #[.slice a len cap] 25) c5 f5
  have hoA := owns_thru ho (below_alloc w (.cells #[.slice a len cap] 25))
  have hn1 := cell_one_new w (.slice a len cap) 25
  have HP := hide hp
  have HK := hide hk
  have HNE := hide hne
  clear hp ho hk hne
  go_enter Try.func51, Try.ntmps51
  go_wp2_with (at_builtin; go_must (refine wpList_append_foot _ rfl (.tmp 8) (.tmp 10) 63 rfl 25 i0 (.slice none 0 0) 24 Try.underlying63 hi hq0 hq1 hq2 rfl 0 _ k ys rfl hoA (some ⟨w.heap.size, 0, none⟩) 1 1 [.slice a len cap] rfl rfl (fun e => by cases e) (fun ad e => by cases e; exact hn1) (by simp [Value.oneCell']) (by unfold maxLen; omega) (by omega) (by omega) ?_); intro A6 C6 w1 hown1 hg1; have hc1 := (hg1.kept (F := fun x => x ≠ p) HNE.out).cell k5 (fun h => h rfl); have hf1 := (hg1.kept (F := fun x => x ≠ p) HNE.out).unfrozen k5 (fun h => h rfl) m5)
  have hKa : Kept (fun _ => False) w (w.alloc (.cells #[.slice a len cap] 25)) := Kept.of_below (below_alloc w _)
  have hKg := hg1.kept (F := fun x => (Value.slice A5 k C5).ownBlock = some x) (fun _ h => h)
  have hKn := hg1.kept (F := fun x => x ≠ p) HNE.out
  have hfo := hg1.foot (F := fun x => (Value.slice A5 k C5).ownBlock = some x) (fun _ h => h)
  have hpb : Bag w1 p (.slice A5 k C5) := (HP.out.kept hKa (fun h => h)).kept hKn (fun h => h rfl)
  have hnew : ∀ g, (Value.slice A6 (k + 1) C6).ownBlock = some g → g ≠ p ∧ ((Value.slice A5 k C5).ownBlock = some g ∨ w.heap.size ≤ g) := fun g hg => by
    rcases hfo g hg with h | h
    · exact ⟨HNE.out g h, .inl h⟩
    · have := hKa.size
      exact ⟨by omega, .inr (by omega)⟩
  go_end0
  refine ⟨rfl, A6, C6, ?_, ?_, hnew, ?_⟩
  · have h := heap_setCell_same w1 p 5 _ _ (.slice A6 (k + 1) C6) hpb
    exact h
  · exact owns_other hown1 (fun e => (hnew p e).1 rfl) _
  · exact (((hKa.mono (G := fun x => x = p ∨ (Value.slice A5 k C5).ownBlock = some x) (fun _ _ h => h.elim)).trans hKg (fun _ _ h => .inr h)).setCell (.inl (.inl rfl)) _)

theorem fv_range (A : Nat → Option Addr) (l C : Nat → Nat) (k : Nat) : ((List.range k).map (fv A l C)).length = k := by simp
set_option maxRecDepth 100000 in
set_option maxHeartbeats 1000000 in
theorem apartBytes_any (b off n cap : Nat) (A : Nat → Option Addr) (l C : Nat → Nat) (X : Nat → List Value) (w : World) (hn0 : 0 < n) (hn : n ≤ 100000) (hl : ∀ r, r < n → l r ≤ 140000000000000)
    (hd : ∀ r s g, r < n → s < n → (fv A l C r).ownBlock = some g → (fv A l C s).ownBlock = some g → r = s)
    (hc : ∀ r, r < n → w.cell? ⟨b, off + r, none⟩ = some (fv A l C r)) (ho : ∀ r, r < n → w.ownsRow 0 5 1 (fv A l C r) (l r) (X r)) :
    Calls Try.prog 35 #[.slice (some ⟨b, off, none⟩) n cap] w fun e w' => e = .returned (.bool true) ∧ St n A l C (fun r => mk r (l r)) w w' := by
  have HC := hide hc
  have HO := hide ho
  have HD := hide hd
  have HL := hide hl
  have hp0 : Bag (w.alloc (.cells (bagCells (.slice none 0 0)) 104)) w.heap.size (.slice none 0 0) := heap_alloc_new _ _
  have HP0 := hide hp0
  clear hc ho hd hl hp0
  go_enter Try.func35, Try.ntmps35
  go_wp2_with fail
  go_loopg [4] n (fun q s4 wr => ∃ (k : Nat) (A5 : Option Addr) (C5 : Nat), k + q = n ∧ s4 = .int .i64 (k : Nat) ∧ Bag wr w.heap.size (.slice A5 k C5) ∧ wr.ownsRow 0 25 1 (.slice A5 k C5) k ((List.range k).map (fv A l C)) ∧ (∀ g, (Value.slice A5 k C5).ownBlock = some g → g ≠ w.heap.size ∧ w.heap.size ≤ g) ∧ Below w.heap.size w wr)
  case atStart => exact ⟨0, none, 0, by omega, rfl, HP0.out, World.ownsRow_nil _ _ _ _, (fun g hg => by cases hg), below_alloc _ _⟩
  case round =>
    obtain ⟨k, A5, C5, hkq, rfl, hp, hown, hne, hbl⟩ := hrel
    have hk0 : (0 : Int) ≤ (k : Int) := by omega
    cases gk with
    | zero =>
      obtain rfl : k = n := by omega
      have hkz : ¬ ((k : Int) < (k : Int)) := by omega
      obtain ⟨g, C6, hv, _, _, _, _⟩ := owns_cell hown (show ((List.range k).map (fv A l C))[0]? = some (fv A l C 0) by simp [hn0])
      injection hv with hA5 _ hC
      have hgs := hne g (by rw [hA5]; rfl)
      have hcell : ∀ r, r < k → wr.cell? ⟨g, 0 + r, none⟩ = some (fv A l C r) := fun r hr => by
        obtain ⟨g', C', hv', hc', _⟩ := owns_cell hown (show ((List.range k).map (fv A l C))[r]? = some (fv A l C r) by simp [hr])
        rw [hA5] at hv'
        injection hv' with e1 _ _
        cases e1
        rw [Nat.zero_add]; exact hc'
      rw [hA5] at hp
      have hba := bagApart_any w.heap.size g 0 k C5 A l C X wr hn HL.out ⟨HD.out, fun r g' hr h e => by
          have := (owns_cells (HO.out r hr) g' h).1
          omega⟩ hp (fun r hr h => by
          have := (owns_cells (HO.out r hr) _ h).1
          omega) hcell (fun r hr => owns_thru (HO.out r hr) hbl)
      clear hp hown hne hcell hA5
      go_wp2_with fail
      refine hba.mono ?_
      rintro e w2 ⟨rfl, hst⟩
      go_wp2_with fail
      go_ret
      exact ⟨rfl, (Kept.of_below hbl).trans hst.1 (fun _ _ h => h), hst.2⟩
    | succ q =>
      have hkz : (k : Int) < (n : Int) := by omega
      have c1 : wr.cell? ⟨b, off + k, none⟩ = some (.slice (A k) (l k) (C k)) := cell_thru (HC.out k (by omega)) hbl
      have hpu := putBytes_any w.heap.size k A5 C5 _ (A k) (l k) (C k) wr (fv_range A l C k) (by omega) hp hown (fun g hg => (hne g hg).1)
      have hre : (List.range (k + 1)).map (fv A l C) = (List.range k).map (fv A l C) ++ [.slice (A k) (l k) (C k)] := by rw [List.range_succ, List.map_append]; rfl
      have HRE := hide hre
      have HNE := hide hne
      clear hp hown hre hne
      go_wp2_with fail
      refine hpu.mono ?_
      rintro e w2 ⟨rfl, A6, C6, h1, h2, h3, h4⟩
      go_wp2_with fail
      go_roundg q
      case measure => omega
      case rel =>
        refine ⟨k + 1, A6, C6, by omega, by go_num, h1, by rw [HRE.out]; exact h2, fun g hg => ?_, hbl.trans (h4.below (fun x hx => ?_) hbl.size)⟩
        · obtain ⟨e1, e2 | e2⟩ := h3 g hg
          · exact HNE.out g e2
          · have := hbl.size
            exact ⟨e1, by omega⟩
        · rcases hx with hx | hx
          · omega
          · exact (HNE.out x hx).2
end Go.Proofs.Ytpnphijfdcimlaa
