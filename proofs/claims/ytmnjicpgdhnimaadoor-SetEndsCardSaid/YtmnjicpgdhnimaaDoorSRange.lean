/-
  The program's Range.
-/
import Derived.Test.YtmnjicpgdhnimaaDoorSUnP
import Derived.Test.YtmnjicpgdhnimaaDoorSOf
import Derived.Deep.RegionHeld3
import Derived.Deep.RegionWith
namespace Go.Proofs.YtmnjicpgdhnimaaDoor
open Go.RowKit

/-- Two sets in a row of the call's own. -/
def two (H G : Nat → Bool) (i : Nat) : Nat → Bool := if i = 0 then H else G
theorem two_sets (w : World) (g : Nat) (hg : g = w.heap.size) (H G : Nat → Bool) (fr : Nat × Nat) :
    Sets (w.alloc (.cells #[.int .u64 (wd H 0 : Nat), .int .u64 (wd H 1 : Nat), .int .u64 (wd H 2 : Nat), .int .u64 (wd H 3 : Nat), .int .u64 (wd G 0 : Nat), .int .u64 (wd G 1 : Nat), .int .u64 (wd G 2 : Nat), .int .u64 (wd G 3 : Nat)] 24 fr)) (some ⟨g, 0, none⟩) 2 (two H G) := by
  subst hg
  refine .inr ⟨_, _, rfl, fun i hi j hj => ?_⟩
  rw [cell_of_row _ _ _ _ _ _ (World.alloc_heap_new w _)]
  match i, hi, j, hj with
  | 0, _, 0, _ => rfl
  | 0, _, 1, _ => rfl
  | 0, _, 2, _ => rfl
  | 0, _, 3, _ => rfl
  | 1, _, 0, _ => rfl
  | 1, _, 1, _ => rfl
  | 1, _, 2, _ => rfl
  | 1, _, 3, _ => rfl
theorem two_plus (H : Nat → Bool) (b c : Nat) : anyS (two H (inz (fun _ => b) 1)) 2 c = plus H b c := by
  simp [anyS, two, inz, plus, Bool.or_comm]
theorem SBox.four {W : World} {g : Nat} {H : Nat → Bool} (h : SBox W g H) (G : Nat → Bool) :
    SBox ((((W.setCell ⟨g, 0, none⟩ (.int .u64 (wd G 0 : Nat))).setCell ⟨g, 1, none⟩ (.int .u64 (wd G 1 : Nat))).setCell ⟨g, 2, none⟩ (.int .u64 (wd G 2 : Nat))).setCell ⟨g, 3, none⟩ (.int .u64 (wd G 3 : Nat))) g G :=
  heap_setCell_same _ g 3 _ _ _ (heap_setCell_same _ g 2 _ _ _ (heap_setCell_same _ g 1 _ _ _ (heap_setCell_same W g 0 _ _ _ h)))
theorem four_other {W : World} {g x : Nat} (v0 v1 v2 v3 : Value) (h : x ≠ g) : ((((W.setCell ⟨g, 0, none⟩ v0).setCell ⟨g, 1, none⟩ v1).setCell ⟨g, 2, none⟩ v2).setCell ⟨g, 3, none⟩ v3).heap[x]? = W.heap[x]? :=
  ((((Below.heap_setCell _ ⟨g, 3, none⟩ v3 x h).trans (Below.heap_setCell _ ⟨g, 2, none⟩ v2 x h)).trans (Below.heap_setCell _ ⟨g, 1, none⟩ v1 x h)).trans (Below.heap_setCell W ⟨g, 0, none⟩ v0 x h))
theorem below_four {B : Nat} {w W : World} {g : Nat} (h : Below B w W) (hg : B ≤ g) (v0 v1 v2 v3 : Value) : Below B w ((((W.setCell ⟨g, 0, none⟩ v0).setCell ⟨g, 1, none⟩ v1).setCell ⟨g, 2, none⟩ v2).setCell ⟨g, 3, none⟩ v3) :=
  (((h.setCell (p := ⟨g, 0, none⟩) hg v0).setCell (p := ⟨g, 1, none⟩) hg v1).setCell (p := ⟨g, 2, none⟩) hg v2).setCell (p := ⟨g, 3, none⟩) hg v3

set_option maxRecDepth 100000 in
set_option maxHeartbeats 2000000 in
theorem range_any (lo hi : Nat) (w : World) (hlo : lo < 256) (hhi : hi < 256) :
    Calls Tryd.prog 15 #[.int .u8 lo, .int .u8 hi] w fun e w' => e = .returned (sv (rng lo hi)) ∧ Below w.heap.size w w' := by
  have hz := zeroSet
  have hb1 := (Below.refl w.heap.size w).alloc (Nat.le_refl _) (.cells (st nobs) 24)
  have hb3 := hide (hb1.alloc (by simp) (.cells (st nobs) 24))
  have h2 := hide ((SBox.new w w.heap.size nobs rfl).alloc (.cells (st nobs) 24))
  have h3 := hide (SBox.new (w.alloc (.cells (st nobs) 24)) (w.heap.size + 1) nobs (by simp))
  clear hb1
  unfold sv
  go_enter Tryd.func15, Tryd.ntmps15
  go_wp2_with fail
  clear hz
  go_loopw [6] (fun i wr => ∃ k : Nat, lo ≤ k ∧ (k ≤ hi + 1 ∨ k ≤ lo) ∧ i = .int .i64 k ∧ SBox wr w.heap.size nobs ∧ SBox wr (w.heap.size + 1) (frm lo k) ∧ Below w.heap.size w wr) (fun i _ => 256 - (intOf i).toNat)
  case atStart => exact ⟨lo, by omega, by omega, rfl, h2.out, h3.out.congr _ (fun b _ => frm_none lo b), hb3.out⟩
  case round =>
    obtain ⟨k, hk, hk2, rfl, hR, hO, hB⟩ := hrel
    have HB := hide hB
    by_cases hlt : k ≤ hi
    · have hk8 : (k : Int) % 256 = (k : Int) := by omega
      have hkl : k < 256 := by omega
      obtain ⟨G, hG⟩ : ∃ G, frm lo k = G := ⟨_, rfl⟩
      have HG := hide hG
      rw [hG] at hO
      have hwk : IntKind.u8.wrap (k : Int) = (k : Int) := by rw [IntKind.wrap_u8]; omega
      have hold : Hid (∀ W, Below wr.heap.size wr W → W.cell? ⟨w.heap.size + 1, 0, none⟩ = some (.int .u64 (wd G 0 : Nat)) ∧ W.cell? ⟨w.heap.size + 1, 1, none⟩ = some (.int .u64 (wd G 1 : Nat)) ∧ W.cell? ⟨w.heap.size + 1, 2, none⟩ = some (.int .u64 (wd G 2 : Nat)) ∧ W.cell? ⟨w.heap.size + 1, 3, none⟩ = some (.int .u64 (wd G 3 : Nat))) :=
        fun W h => ⟨cell_thru (hO.cell 0 (by omega)) h, cell_thru (hO.cell 1 (by omega)) h, cell_thru (hO.cell 2 (by omega)) h, cell_thru (hO.cell 3 (by omega)) h⟩
      have HS : Hid (∀ W, Below wr.heap.size wr W → SBox W (w.heap.size + 1) G ∧ SBox W w.heap.size nobs ∧ Below w.heap.size w W) := fun W h => ⟨hO.below h hO.lt, hR.below h hR.lt, HB.out.trans (h.mono (by have := hO.lt; omega))⟩
      clear hB hR hO HB hG
      go_upto_region 5 with fail
      obtain ⟨c0, c1, c2, c3⟩ := hold.out wr (Below.refl _ _)
      have cA := fun X => hold.out (wr.alloc X) (below_alloc _ _)
      go_region_with (first
        | (go_at_call 13
           refine (of_any _ 1 1 (fun _ => k) _ (by omega) (Byt.drew (one_byt' wr.heap.size wr k hkl rfl _))).mono ?_
           rintro e w1 ⟨rfl, hb⟩
           have hbo := ((below_alloc wr (.cells #[.int .u8 (k : Int)] 5)).drew).trans (hb.mono (show wr.heap.size ≤ (wr.alloc (.cells #[.int .u8 (k : Int)] 5)).heap.size by simp))
           obtain ⟨d0, d1, d2, d3⟩ := hold.out w1 hbo
           have dA := fun X => hold.out (w1.alloc X) (hbo.trans ((below_alloc _ _).mono hbo.size))
           simp only [sv, st, sc])
        | (go_at_call 17
           refine (union_any _ 2 2 (two G (inz (fun _ => k) 1)) _ (by omega) (two_sets w1 w1.heap.size rfl G _ _)).mono ?_
           rintro e w2 ⟨rfl, hb2⟩
           have hbu := hbo.trans (((below_alloc w1 _).trans (hb2.mono (by simp))).mono hbo.size)
           have f0 := (HS.out _ hbu).1.frozen 0
           have f1 := (HS.out _ hbu).1.frozen 1
           have f2 := (HS.out _ hbu).1.frozen 2
           have f3 := (HS.out _ hbu).1.frozen 3
           obtain ⟨e0, e1, e2, e3⟩ := hold.out _ hbu
           simp only [sv, st, sc]))
      all_goals
        have hS2 := HS.out _ hbu
        have HFin := hide ((hS2.1.four (anyS (two G (inz (fun _ => k) 1)) 2)).congr (frm lo (k + 1)) fun b _ => by rw [two_plus, ← HG.out]; exact frm_plus lo k hk b)
        have HOth := hide ((four_other (W := w2) (g := w.heap.size + 1) (x := w.heap.size) (.int .u64 (wd (anyS (two G (inz (fun _ => k) 1)) 2) 0 : Nat)) (.int .u64 (wd (anyS (two G (inz (fun _ => k) 1)) 2) 1 : Nat)) (.int .u64 (wd (anyS (two G (inz (fun _ => k) 1)) 2) 2 : Nat)) (.int .u64 (wd (anyS (two G (inz (fun _ => k) 1)) 2) 3 : Nat)) (by omega)).trans hS2.2.1)
        have HBel := hide (below_four hS2.2.2 (Nat.le_succ w.heap.size) (.int .u64 (wd (anyS (two G (inz (fun _ => k) 1)) 2) 0 : Nat)) (.int .u64 (wd (anyS (two G (inz (fun _ => k) 1)) 2) 1 : Nat)) (.int .u64 (wd (anyS (two G (inz (fun _ => k) 1)) 2) 2 : Nat)) (.int .u64 (wd (anyS (two G (inz (fun _ => k) 1)) 2) 3 : Nat)))
        clear hS2 e0 e1 e2 e3 f0 f1 f2 f3 hb hb2 hbo hbu dA cA c0 c1 c2 c3
        go_wp2_with fail
        go_roundw
        case rel => exact ⟨k + 1, by omega, by omega, by go_num, HOth.out, HFin.out, HBel.out⟩
        case measure => simp [intOf]; omega
    · have HR := hide (hR.row (frm lo k))
      go_wp2_with (first | (refine wpList_load_row rfl 24 _ rfl (w.heap.size + 1) rfl 24 (st (frm lo k)) (0, 0) _ hO Tryd.underlying24 rfl (sizeSet (frm lo k)) ?_) | (refine wpList_store_row rfl 24 _ _ rfl w.heap.size (st (frm lo k)) rfl rfl 24 (st nobs) hR (sizeSet (frm lo k)) rfl (st_one (frm lo k)) ?_))
      refine bodyPost_ret_by (results_cell_row rfl _ _ w.heap.size 24 (st (frm lo k)) (0, 0) _ rfl HR.out Tryd.underlying24 rfl (sizeSet (frm lo k))) rfl ⟨congrArg Ending.returned (sv_congr _ _ fun b hb => frm_rng lo hi k (by omega) hk2 b), below_row HB.out (by omega) _⟩
end Go.Proofs.YtmnjicpgdhnimaaDoor
