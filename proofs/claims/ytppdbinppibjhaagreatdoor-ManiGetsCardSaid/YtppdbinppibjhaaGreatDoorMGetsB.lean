/-
  Two manifests of the call's own lie apart: ApartManifests says so.
-/
import Derived.Test.YtppdbinppibjhaaGreatDoorBagM
import Derived.Test.YtppdbinppibjhaaGreatDoorMShAll
import Derived.Test.YtppdbinppibjhaaGreatDoorMUses
import Derived.Test.YtppdbinppibjhaaGreatDoorFRGets
import Derived.Test.YtppdbinppibjhaaGreatDoorRefRdS
import Derived.Test.YtppdbinppibjhaaGreatDoorMRefR
import Derived.Test.YtppdbinppibjhaaGreatDoorFRPuts
import Derived.Test.YtppdbinppibjhaaGreatDoorMAwake
import Derived.Test.YtppdbinppibjhaaGreatDoorLent
set_option maxHeartbeats 8000000
set_option maxRecDepth 100000
set_option linter.unusedVariables false
set_option linter.unusedSimpArgs false
namespace Go.Proofs.YtppdbinppibjhaaGreatDoor
open Go.RowKit
def dl (P : Nat → Shd) (k : Nat) : List Value := (List.range k).map fun i => .slice (P i).pD (P i).D.length (P i).cD
theorem dl_succ (P : Nat → Shd) (k : Nat) : dl P (k + 1) = dl P k ++ [.slice (P k).pD (P k).D.length (P k).cD] := by simp [dl, List.range_succ]
theorem dl_len (P : Nat → Shd) (k : Nat) : (dl P k).length = k := by simp [dl]
theorem oneShard_bg (N p : Nat) (L : Nat → List Value) (n z : Int) (s : Nat) (a : Option Addr) (len cap : Nat) (w : World) (hk : (L 2).length ≤ 1000000) (hN : N ≤ w.heap.size) (h : BG w N p L) :
  Calls Tryz.prog 185 #[.pointer (some ⟨p, 0, none⟩), .agg #[.int .i64 n, .int .i64 z, .int .u32 (s : Nat), .slice a len cap]] w fun e w' => e = .returned (.tuple #[]) ∧ BG w' N p (addL L 2 [.slice a len cap]) ∧ Kept (fun k => N ≤ k) w w' := by
 obtain ⟨W1, hW1⟩ : ∃ W1, w.alloc (.cells #[.int .i64 n, .int .i64 z, .int .u32 (s : Nat), .slice a len cap] 54) = W1 := ⟨_, rfl⟩
 have hB1 : Below w.heap.size w W1 := by rw [← hW1]; exact below_alloc _ _
 have h1 : W1.heap[w.heap.size]? = some (.cells #[.int .i64 n, .int .i64 z, .int .u32 (s : Nat), .slice a len cap] 54 (0, 0)) := by rw [← hW1]; exact heap_alloc_new _ _
 obtain ⟨c0, c1, c2, c3⟩ := cells4_at h1
 have hpb := put_Ints N p L a len cap W1 hk (Nat.le_trans hN hB1.size) (h.below hB1)
 have HB := hide hB1
 clear h h1 hB1
 go_enter Tryz.func185, Tryz.ntmps185
 go_wp2_with fail
 refine hpb.mono ?_
 rintro e w2 ⟨rfl, h2, hk2⟩
 have HH := hide (And.intro h2 hk2)
 clear hpb h2 hk2
 go_wp2_with fail
 go_end0
 exact ⟨rfl, HH.out.1, (Kept.of_below HB.out).trans HH.out.2 (fun _ _ h => h)⟩
theorem put_ShardRefs (N p : Nat) (L : Nat → List Value) (a : Option Addr) (n cap : Nat) (P : Nat → Shd) (w0 w : World) (hP : Shds w0 a n P) (hw : Below w0.heap.size w0 w) (h0 : w0.heap.size ≤ N) (hz : (L 14).length ≤ 1000) (hk0 : (L 2).length + n ≤ 1000000) (hN : N ≤ w.heap.size) (h : BG w N p L) :
  Calls Tryz.prog 163 #[.pointer (some ⟨p, 0, none⟩), .slice a n cap] w fun e w' => e = .returned (.tuple #[]) ∧ BG w' N p (addL (addL L 14 [.slice a n cap]) 2 (dl P n)) ∧ Kept (fun k => N ≤ k) w w' := by
 have hn6 : n ≤ 1000000 := by omega
 obtain ⟨i0, hi, hq0, hq1, hq2⟩ := info_parts infoB_ShardRefs
 obtain ⟨A, C, hp, hL, hNp⟩ := h
 have ho : w.ownsRow 0 22 1 (.slice (A 14) (L 14).length (C 14)) (L 14).length (L 14) := (hL 14 (by omega)).1
 have hpl : p < w.heap.size := block_lt hp
 have c5 : w.cell? ⟨p, 14, none⟩ = some (.slice (A 14) (L 14).length (C 14)) := hp.cell 14
 have f5 : w.frozen? ⟨p, 14, none⟩ = false := frozen_of_row _ _ _ _ _ hp
 have hne : ∀ g, (Value.slice (A 14) (L 14).length (C 14)).ownBlock = some g → g ≠ p := fun g hg e => by subst e; exact owns_tyne ho hp (by decide) hg
 obtain ⟨L2, hL2⟩ : ∃ L2, L2 = addL L 14 [.slice a n cap] := ⟨_, rfl⟩
 have hL22 : (L2 2).length = (L 2).length := by rw [hL2, addL_ne L _ (by omega)]
 have hpush := fun (w' : World) (A6 : Option Addr) (C6 : Nat) => BG.push (W := w) (W' := w') (N := N) (p := p) (j := 14) (L := L) (A := A) (C := C) (A6 := A6) (C6 := C6) (.slice a n cap) (by omega) hp hL hNp hN
 rw [← hL2] at hpush ⊢
 generalize hA5 : A 14 = A5 at *
 generalize hC5 : C 14 = C5 at *
 generalize hys : L 14 = ys at *
 generalize hkk : ys.length = k at *
 have k5 := cell_alloc_l (W := w) (.cells #[.slice a n cap] 22) c5
 have m5 := frozen_alloc_l (W := w) (.cells #[.slice a n cap] 22) c5 f5
 have hoA := owns_thru ho (below_alloc w (.cells #[.slice a n cap] 22))
 have hn1 := cell_one_new w (.slice a n cap) 22
 have HP := hide (And.intro hp hpush)
 have HS := hide (And.intro hP (And.intro hw (And.intro h0 (And.intro hL22 hk0))))
 have HNE := hide hne
 clear hp ho hne hL hA5 hC5 hys hkk hNp hpush hP hw h0 hL22 hk0 hL2
 go_enter Tryz.func163, Tryz.ntmps163
 go_wp2_with (at_builtin; go_must (refine wpList_append_foot _ rfl (.tmp 9) (.tmp 11) 94 rfl 22 i0 (.slice none 0 0) 24 Tryz.underlying94 hi hq0 hq1 hq2 rfl 0 _ k ys rfl hoA (some ⟨w.heap.size, 0, none⟩) 1 1 [.slice a n cap] rfl rfl (fun e => by cases e) (fun ad e => by cases e; exact hn1) (by simp [Value.oneCell']) (by unfold maxLen; omega) (by omega) (by omega) ?_); intro A6 C6 w1 hown1 hg1; have hc1 := (hg1.kept (F := fun x => x ≠ p) HNE.out).cell k5 (fun h => h rfl); have hf1 := (hg1.kept (F := fun x => x ≠ p) HNE.out).unfrozen k5 (fun h => h rfl) m5)
 obtain ⟨hp, hpush⟩ := HP.out
 have hKa : Kept (fun _ => False) w (w.alloc (.cells #[.slice a n cap] 22)) := Kept.of_below (below_alloc w _)
 have hKg := hg1.kept (F := fun x => (Value.slice A5 k C5).ownBlock = some x) (fun _ h => h)
 have hKn := hg1.kept (F := fun x => x ≠ p) HNE.out
 have hfo := hg1.foot (F := fun x => (Value.slice A5 k C5).ownBlock = some x) (fun _ h => h)
 have hpb : BagV w1 p _ := (hp.kept hKa (fun h => h)).kept hKn (fun h => h rfl)
 have hnew : ∀ g, (Value.slice A6 (k + 1) C6).ownBlock = some g → g ≠ p ∧ ((Value.slice A5 k C5).ownBlock = some g ∨ w.heap.size ≤ g) := fun g hg => by
  rcases hfo g hg with h | h
  ·exact ⟨HNE.out g h, .inl h⟩
  ·have := hKa.size
   exact ⟨by omega, .inr (by omega)⟩
 have hb9 := heap_setCell_same w1 p 14 _ _ (.slice A6 (k + 1) C6) hpb
 have ho9 := owns_other (i := 14) hown1 (fun e => (hnew p e).1 rfl) (.slice A6 (k + 1) C6)
 have hk9 := ((hKa.mono (G := fun x => x = p ∨ (Value.slice A5 k C5).ownBlock = some x) (fun _ _ h => h.elim)).trans hKg (fun _ _ h => .inr h)).setCell (p := ⟨p, 14, none⟩) (.inl (.inl rfl)) (.slice A6 (k + 1) C6)
 have hn9 := fun g hg => (hnew g hg).2
 have hend := hpush _ A6 C6 hb9 ho9 hn9 hk9
 obtain ⟨W1, hW1⟩ : ∃ W1, w1.setCell ⟨p, 14, none⟩ (.slice A6 (k + 1) C6) = W1 := ⟨_, rfl⟩
 rw [hW1] at hend ⊢
 have HI := hide hend
 clear hp hpush hKa hKg hKn hfo hpb hnew hb9 ho9 hk9 hn9 hend hW1 hg1 hown1 hoA hn1 c5 f5 k5 m5 hc1 hf1 hi hq0 hq1 hq2 HP HNE
 go_loopg [4] n (fun q s4 wr => ∃ k : Nat, k + q = n ∧ s4 = .int .i64 k ∧ BG wr N p (addL L2 2 (dl P k)) ∧ Kept (fun k => N ≤ k) w wr)
 case atStart => exact ⟨0, by omega, rfl, by rw [show dl P 0 = [] from rfl, addL_nil]; exact HI.out.1, HI.out.2⟩
 case round =>
  obtain ⟨k, hkq, rfl, hb, hk2⟩ := hrel
  cases gk with
  | zero =>
    obtain rfl : k = n := by omega
    have HH := hide (And.intro hb hk2)
    clear hb hk2 HS
    go_wp2
    go_end0
    exact ⟨rfl, HH.out.1, HH.out.2⟩
  | succ q =>
    have hkn : k < n := by omega
    have hkz : (k : Int) < (n : Int) := by omega
    have hk0 : (0 : Int) ≤ (k : Int) := by omega
    have hbw : Below w0.heap.size w0 wr := HS.out.2.1.trans (hk2.below (B := w0.heap.size) (fun g hg => Nat.le_trans HS.out.2.2.1 hg) HS.out.2.1.size)
    obtain ⟨b, off, rfl, ⟨e0, e1, e2, e3⟩, _⟩ := (HS.out.1.below hbw).cells k hkn
    have hon := oneShard_bg N p (addL L2 2 (dl P k)) (P k).N (P k).Z (P k).S (P k).pD (P k).D.length (P k).cD wr (by rw [addL_at, List.length_append, dl_len, HS.out.2.2.2.1]; have := HS.out.2.2.2.2; omega) (Nat.le_trans hN hk2.size) hb
    rw [addL_add, ← dl_succ] at hon
    have HK := hide hk2
    clear hb hk2 hbw
    go_wp2_with fail
    refine hon.mono ?_
    rintro e w3 ⟨rfl, hb3, hk3⟩
    have HH := hide (And.intro hb3 (HK.out.trans hk3 (fun _ _ h => h)))
    clear hon hb3 hk3
    go_wp2_with fail
    go_roundg q
    case measure => omega
    case rel => exact ⟨k + 1, by omega, by go_num, HH.out.1, HH.out.2⟩
theorem oneMani_bg (N p : Nat) (L : Nat → List Value) (G : Int) (a : Option Addr) (n cap : Nat) (P : Nat → Shd) (w0 w : World) (hP : Shds w0 a n P) (hw : Below w0.heap.size w0 w) (h0 : w0.heap.size ≤ N) (hz : (L 14).length ≤ 1000) (hk0 : (L 2).length + n ≤ 1000000) (hN : N ≤ w.heap.size) (h : BG w N p L) :
  Calls Tryz.prog 121 #[.pointer (some ⟨p, 0, none⟩), .agg #[.int .i64 G, .slice a n cap]] w fun e w' => e = .returned (.tuple #[]) ∧ BG w' N p (addL (addL L 14 [.slice a n cap]) 2 (dl P n)) ∧ Kept (fun k => N ≤ k) w w' := by
 obtain ⟨W1, hW1⟩ : ∃ W1, w.alloc (.cells #[.int .i64 G, .slice a n cap] 24) = W1 := ⟨_, rfl⟩
 have hB1 : Below w.heap.size w W1 := by rw [← hW1]; exact below_alloc _ _
 have h1 : W1.heap[w.heap.size]? = some (.cells #[.int .i64 G, .slice a n cap] 24 (0, 0)) := by rw [← hW1]; exact heap_alloc_new _ _
 obtain ⟨c0, c1⟩ := cells2_at h1
 have hpb := put_ShardRefs N p L a n cap P w0 W1 hP (hw.trans (hB1.mono hw.size)) h0 hz hk0 (Nat.le_trans hN hB1.size) (h.below hB1)
 have HB := hide hB1
 clear h h1 hB1 hP hw h0
 go_enter Tryz.func121, Tryz.ntmps121
 go_wp2_with fail
 refine hpb.mono ?_
 rintro e w2 ⟨rfl, h2, hk2⟩
 have HH := hide (And.intro h2 hk2)
 clear hpb h2 hk2
 go_wp2_with fail
 go_end0
 exact ⟨rfl, HH.out.1, (Kept.of_below HB.out).trans HH.out.2 (fun _ _ h => h)⟩
theorem put_Manifest1 (N p g : Nat) (L : Nat → List Value) (G : Int) (a : Option Addr) (n cap : Nat) (P : Nat → Shd) (w0 w : World) (hP : Shds w0 a n P) (hw : Below w0.heap.size w0 w) (hg0 : w0.heap[g]? = some (.cells #[.int .i64 G, .slice a n cap] 24 (0, 0))) (h0 : w0.heap.size ≤ N) (hz15 : (L 15).length ≤ 1000) (hz : (L 14).length ≤ 1000) (hk0 : (L 2).length + n ≤ 1000000) (hN : N ≤ w.heap.size) (h : BG w N p L) :
  Calls Tryz.prog 63 #[.pointer (some ⟨p, 0, none⟩), .slice (some ⟨g, 0, none⟩) 1 1] w fun e w' => e = .returned (.tuple #[]) ∧ BG w' N p (addL (addL (addL L 15 [.slice (some ⟨g, 0, none⟩) 1 1]) 14 [.slice a n cap]) 2 (dl P n)) ∧ Kept (fun k => N ≤ k) w w' := by
 obtain ⟨i0, hi, hq0, hq1, hq2⟩ := info_parts infoB_Manifests
 obtain ⟨A, C, hp, hL, hNp⟩ := h
 have ho : w.ownsRow 0 46 1 (.slice (A 15) (L 15).length (C 15)) (L 15).length (L 15) := (hL 15 (by omega)).1
 have hpl : p < w.heap.size := block_lt hp
 have c5 : w.cell? ⟨p, 15, none⟩ = some (.slice (A 15) (L 15).length (C 15)) := hp.cell 15
 have f5 : w.frozen? ⟨p, 15, none⟩ = false := frozen_of_row _ _ _ _ _ hp
 have hne : ∀ g, (Value.slice (A 15) (L 15).length (C 15)).ownBlock = some g → g ≠ p := fun g hg e => by subst e; exact owns_tyne ho hp (by decide) hg
 obtain ⟨L2, hL2⟩ : ∃ L2, L2 = addL L 15 [.slice (some ⟨g, 0, none⟩) 1 1] := ⟨_, rfl⟩
 have hL22 : (L2 2).length = (L 2).length ∧ (L2 14).length = (L 14).length := by rw [hL2, addL_ne L _ (by omega), addL_ne L _ (by omega)]; exact ⟨rfl, rfl⟩
 have hpush := fun (w' : World) (A6 : Option Addr) (C6 : Nat) => BG.push (W := w) (W' := w') (N := N) (p := p) (j := 15) (L := L) (A := A) (C := C) (A6 := A6) (C6 := C6) (.slice (some ⟨g, 0, none⟩) 1 1) (by omega) hp hL hNp hN
 rw [← hL2] at hpush ⊢
 generalize hA5 : A 15 = A5 at *
 generalize hC5 : C 15 = C5 at *
 generalize hys : L 15 = ys at *
 generalize hkk : ys.length = k at *
 have k5 := cell_alloc_l (W := w) (.cells #[.slice (some ⟨g, 0, none⟩) 1 1] 46) c5
 have m5 := frozen_alloc_l (W := w) (.cells #[.slice (some ⟨g, 0, none⟩) 1 1] 46) c5 f5
 have hoA := owns_thru ho (below_alloc w (.cells #[.slice (some ⟨g, 0, none⟩) 1 1] 46))
 have hn1 := cell_one_new w (.slice (some ⟨g, 0, none⟩) 1 1) 46
 have HP := hide (And.intro hp hpush)
 have HS := hide (And.intro hP (And.intro hw (And.intro h0 (And.intro hL22 (And.intro hk0 (And.intro hz hg0))))))
 have HNE := hide hne
 clear hp ho hne hL hA5 hC5 hys hkk hNp hpush hP hw h0 hL22 hk0 hL2 hz hg0
 go_enter Tryz.func63, Tryz.ntmps63
 go_wp2_with (at_builtin; go_must (refine wpList_append_foot _ rfl (.tmp 9) (.tmp 11) 47 rfl 46 i0 (.slice none 0 0) 24 Tryz.underlying47 hi hq0 hq1 hq2 rfl 0 _ k ys rfl hoA (some ⟨w.heap.size, 0, none⟩) 1 1 [.slice (some ⟨g, 0, none⟩) 1 1] rfl rfl (fun e => by cases e) (fun ad e => by cases e; exact hn1) (by simp [Value.oneCell']) (by unfold maxLen; omega) (by omega) (by omega) ?_); intro A6 C6 w1 hown1 hg1; have hc1 := (hg1.kept (F := fun x => x ≠ p) HNE.out).cell k5 (fun h => h rfl); have hf1 := (hg1.kept (F := fun x => x ≠ p) HNE.out).unfrozen k5 (fun h => h rfl) m5)
 obtain ⟨hp, hpush⟩ := HP.out
 have hKa : Kept (fun _ => False) w (w.alloc (.cells #[.slice (some ⟨g, 0, none⟩) 1 1] 46)) := Kept.of_below (below_alloc w _)
 have hKg := hg1.kept (F := fun x => (Value.slice A5 k C5).ownBlock = some x) (fun _ h => h)
 have hKn := hg1.kept (F := fun x => x ≠ p) HNE.out
 have hfo := hg1.foot (F := fun x => (Value.slice A5 k C5).ownBlock = some x) (fun _ h => h)
 have hpb : BagV w1 p _ := (hp.kept hKa (fun h => h)).kept hKn (fun h => h rfl)
 have hnew : ∀ g, (Value.slice A6 (k + 1) C6).ownBlock = some g → g ≠ p ∧ ((Value.slice A5 k C5).ownBlock = some g ∨ w.heap.size ≤ g) := fun g hg => by
  rcases hfo g hg with h | h
  ·exact ⟨HNE.out g h, .inl h⟩
  ·have := hKa.size
   exact ⟨by omega, .inr (by omega)⟩
 have hb9 := heap_setCell_same w1 p 15 _ _ (.slice A6 (k + 1) C6) hpb
 have ho9 := owns_other (i := 15) hown1 (fun e => (hnew p e).1 rfl) (.slice A6 (k + 1) C6)
 have hk9 := ((hKa.mono (G := fun x => x = p ∨ (Value.slice A5 k C5).ownBlock = some x) (fun _ _ h => h.elim)).trans hKg (fun _ _ h => .inr h)).setCell (p := ⟨p, 15, none⟩) (.inl (.inl rfl)) (.slice A6 (k + 1) C6)
 have hn9 := fun g hg => (hnew g hg).2
 have hend := hpush _ A6 C6 hb9 ho9 hn9 hk9
 obtain ⟨W1, hW1⟩ : ∃ W1, w1.setCell ⟨p, 15, none⟩ (.slice A6 (k + 1) C6) = W1 := ⟨_, rfl⟩
 rw [hW1] at hend ⊢
 have HI := hide hend
 clear hp hpush hKa hKg hKn hfo hpb hnew hb9 ho9 hk9 hn9 hend hW1 hg1 hown1 hoA hn1 c5 f5 k5 m5 hc1 hf1 hi hq0 hq1 hq2 HP HNE
 go_loopg [4] 1 (fun q s4 wr => ∃ k : Nat, k + q = 1 ∧ s4 = .int .i64 k ∧ (k = 0 → BG wr N p L2) ∧ (k = 1 → BG wr N p (addL (addL L2 14 [.slice a n cap]) 2 (dl P n))) ∧ Kept (fun k => N ≤ k) w wr)
 case atStart => exact ⟨0, by omega, rfl, fun _ => HI.out.1, fun h => by omega, HI.out.2⟩
 case round =>
  obtain ⟨k, hkq, rfl, hb, hb1, hk2⟩ := hrel
  cases gk with
  | zero =>
    obtain rfl : k = 1 := by omega
    have HH := hide (And.intro (hb1 rfl) hk2)
    clear hb hb1 hk2 HS
    go_wp2
    go_end0
    exact ⟨rfl, HH.out.1, HH.out.2⟩
  | succ q =>
    obtain rfl : k = 0 := by omega
    obtain ⟨hP, hw, h0, ⟨hL22, hL14⟩, hk0, hz, hg0⟩ := HS.out
    have hbw : Below w0.heap.size w0 wr := hw.trans (hk2.below (B := w0.heap.size) (fun g hg => Nat.le_trans h0 hg) hw.size)
    obtain ⟨e0, e1⟩ := cells2_at ((hbw.block g (block_lt hg0)).trans hg0)
    have hon := oneMani_bg N p L2 G a n cap P w0 wr hP hbw h0 (by omega) (by omega) (Nat.le_trans hN hk2.size) (hb rfl)
    have HK := hide hk2
    clear hb hb1 hk2 hbw hP hw h0 hL22 hL14 hk0 hz hg0
    go_wp2_with fail
    refine hon.mono ?_
    rintro e w3 ⟨rfl, hb3, hk3⟩
    have HH := hide (And.intro hb3 (HK.out.trans hk3 (fun _ _ h => h)))
    clear hon hb3 hk3
    go_wp2_with fail
    go_roundg q
    case measure => omega
    case rel => exact ⟨1, by omega, by go_num, fun h => by omega, fun _ => HH.out.1, HH.out.2⟩
def ShOwn (v : Value) (xs : List MV) (k : Nat) : Prop := v.ownBlock = some k ∨ ∃ x ∈ xs, x.2.ownBlock = some k
theorem OwnSh.dl {w : World} {B : Nat} {v : Value} {xs : List MV} (h : OwnSh w B v xs) : Go.Proofs.YtppdbinppibjhaaGreatDoor.dl (shdAt xs) xs.length = xs.map (fun x : MV => x.2) := by
 apply List.ext_getElem
 ·simp [Go.Proofs.YtppdbinppibjhaaGreatDoor.dl]
 ·intro i h1 h2
  have hi : i < xs.length := by simpa using h2
  simp only [Go.Proofs.YtppdbinppibjhaaGreatDoor.dl, List.getElem_map, List.getElem_range]
  rw [shdAt_lt hi]
  obtain ⟨A, C, e⟩ := owns_slice (h.2.1 xs[i] (List.getElem_mem hi))
  unfold shdOf
  rw [e]
  rfl
theorem OwnSh.rows {w : World} {B : Nat} {v : Value} {xs : List MV} (h : OwnSh w B v xs) (hok : ∀ x ∈ xs, okST x.1) : RowsOf 3 1 w (xs.map (fun x : MV => x.2)) := by
 refine ⟨fun y hy => ?_, ?_⟩
 ·obtain ⟨x, hx, rfl⟩ := List.mem_map.1 hy
  have ho := owns_lower (h.2.1 x hx) (Nat.zero_le _)
  obtain ⟨A, C, e⟩ := owns_slice ho
  have hl : lenOf x.2 = x.1.D.length := by rw [e]; rfl
  rw [hl]
  exact ⟨_, by have := dead_len (hok x hx).2.2.2.2.2; omega, ho⟩
 ·exact List.pairwise_map.2 h.2.2
theorem RowsOf.two {e : TypeId} {sz : Nat} {W : World} {xs ys : List Value} (h1 : RowsOf e sz W xs) (h2 : RowsOf e sz W ys) (h3 : ∀ x ∈ xs, ∀ y ∈ ys, ∀ g, x.ownBlock = some g → y.ownBlock ≠ some g) : RowsOf e sz W (xs ++ ys) :=
 ⟨fun y hy => (List.mem_append.1 hy).elim (h1.1 y) (h2.1 y), List.pairwise_append.2 ⟨h1.2, h2.2, h3⟩⟩
theorem RowsOf.one {e : TypeId} {sz n : Nat} {W : World} {v : Value} {xs : List Value} (h : W.ownsRow 0 e sz v n xs) (hn : n ≤ 1000000) : RowsOf e sz W [v] := by
 refine ⟨fun y hy => ?_, List.pairwise_singleton _ _⟩
 rw [List.mem_singleton.1 hy]
 obtain ⟨A, C, e⟩ := owns_slice h
 have hl : lenOf v = n := by rw [e]; rfl
 rw [hl]
 exact ⟨_, hn, h⟩
theorem apartManis_any (gg g0 g1 : Nat) (G0 G1 : Int) (v0 v1 : Value) (xs0 xs1 : List MV) (B0 B1 : Nat) (w : World) (hb : w.heap[gg]? = some (.cells #[.slice (some ⟨g0, 0, none⟩) 1 1, .slice (some ⟨g1, 0, none⟩) 1 1] 46 (0, 0)))
  (m0 : w.heap[g0]? = some (.cells #[.int .i64 G0, v0] 24 (0, 0))) (m1 : w.heap[g1]? = some (.cells #[.int .i64 G1, v1] 24 (0, 0))) (hne : g0 ≠ g1) (o0 : OwnSh w B0 v0 xs0) (o1 : OwnSh w B1 v1 xs1)
  (k0 : ∀ x ∈ xs0, okST x.1) (k1 : ∀ x ∈ xs1, okST x.1) (l0 : xs0.length ≤ 40) (l1 : xs1.length ≤ 40) (hlt : (∀ k, v0.ownBlock = some k → k < B1) ∧ ∀ x ∈ xs0, ∀ k, x.2.ownBlock = some k → k < B1) :
  Calls Tryz.prog 24 #[.slice (some ⟨gg, 0, none⟩) 2 2] w fun e w' => e = .returned (.bool true) ∧ Kept (fun k => k = g0 ∨ k = g1 ∨ ShOwn v0 xs0 k ∨ ShOwn v1 xs1 k) w w' := by
 obtain ⟨A0, C0, rfl, hP0, x0, x1, x2⟩ := o0.shds k0
 obtain ⟨A1, C1, rfl, hP1, y0, y1, y2⟩ := o1.shds k1
 clear x0 x1 x2 y0 y1 y2
 obtain ⟨W0, hW0⟩ : ∃ W0, w.alloc (.cells (bagOf (fun _ => .slice none 0 0)) 101) = W0 := ⟨_, rfl⟩
 have hBw : Below w.heap.size w W0 := by rw [← hW0]; exact below_alloc _ _
 have hs0 : W0.heap.size = w.heap.size + 1 := by rw [← hW0]; simp
 have hbg : BG W0 w.heap.size w.heap.size (fun _ => []) := by rw [← hW0]; exact BG.fresh w
 have hc0 : w.cell? ⟨gg, 0, none⟩ = some (.slice (some ⟨g0, 0, none⟩) 1 1) := cell_of_row _ _ 0 _ _ _ hb
 have hc1 : w.cell? ⟨gg, 1, none⟩ = some (.slice (some ⟨g1, 0, none⟩) 1 1) := cell_of_row _ _ 1 _ _ _ hb
 obtain ⟨E1, hE1⟩ : ∃ E1, addL (addL (addL (fun _ => []) 15 [.slice (some ⟨g0, 0, none⟩) 1 1]) 14 [.slice A0 xs0.length C0]) 2 (Go.Proofs.YtppdbinppibjhaaGreatDoor.dl (shdAt xs0) xs0.length) = E1 := ⟨_, rfl⟩
 obtain ⟨E2, hE2⟩ : ∃ E2, addL (addL (addL E1 15 [.slice (some ⟨g1, 0, none⟩) 1 1]) 14 [.slice A1 xs1.length C1]) 2 (Go.Proofs.YtppdbinppibjhaaGreatDoor.dl (shdAt xs1) xs1.length) = E2 := ⟨_, rfl⟩
 have f15 : E1 15 = [.slice (some ⟨g0, 0, none⟩) 1 1] := by rw [← hE1]; simp [addL]
 have f14 : E1 14 = [.slice A0 xs0.length C0] := by rw [← hE1]; simp [addL]
 have f2 : E1 2 = xs0.map (fun x : MV => x.2) := by rw [← hE1, o0.dl]; simp [addL]
 have e15 : E2 15 = [.slice (some ⟨g0, 0, none⟩) 1 1] ++ [.slice (some ⟨g1, 0, none⟩) 1 1] := by rw [← hE2]; simp [addL, f15]
 have e14 : E2 14 = [.slice A0 xs0.length C0] ++ [.slice A1 xs1.length C1] := by rw [← hE2]; simp [addL, f14]
 have e2 : E2 2 = xs0.map (fun x : MV => x.2) ++ xs1.map (fun x : MV => x.2) := by rw [← hE2, o1.dl]; simp [addL, f2]
 have eo : ∀ i, i < 21 → i ≠ 2 → i ≠ 14 → i ≠ 15 → E2 i = [] := fun i _ h2 h14 h15 => by
  rw [← hE2, ← hE1]
  simp only [addL, if_neg h2, if_neg h14, if_neg h15]
 have hr0 := (o0.rows k0).two (o1.rows k1) (fun x hx y hy g hg hg' => by
  obtain ⟨x', hx', rfl⟩ := List.mem_map.1 hx
  obtain ⟨y', hy', rfl⟩ := List.mem_map.1 hy
  have := hlt.2 x' hx' g hg
  have := (owns_cells (o1.2.1 y' hy') g hg').2.1
  omega)
 have hr1 := (RowsOf.one (owns_lower o0.1 (Nat.zero_le _)) (by omega)).two (RowsOf.one (owns_lower o1.1 (Nat.zero_le _)) (by omega)) (fun x hx y hy g hg hg' => by
  rw [List.mem_singleton.1 hx] at hg
  rw [List.mem_singleton.1 hy] at hg'
  have := hlt.1 g hg
  have := (owns_cells o1.1 g hg').2.1
  omega)
 have q0 : w.ownsRow 0 24 2 (.slice (some ⟨g0, 0, none⟩) 1 1) 1 [.int .i64 G0, .slice A0 xs0.length C0] := ⟨rfl, .inr ⟨g0, 1, _, rfl, Nat.zero_le _, m0, Nat.le_refl _, by decide, rfl, rfl⟩⟩
 have q1 : w.ownsRow 0 24 2 (.slice (some ⟨g1, 0, none⟩) 1 1) 1 [.int .i64 G1, .slice A1 xs1.length C1] := ⟨rfl, .inr ⟨g1, 1, _, rfl, Nat.zero_le _, m1, Nat.le_refl _, by decide, rfl, rfl⟩⟩
 have hr2 := (RowsOf.one q0 (by omega)).two (RowsOf.one q1 (by omega)) (fun x hx y hy g hg hg' => by
  rw [List.mem_singleton.1 hx] at hg
  rw [List.mem_singleton.1 hy] at hg'
  cases hg
  cases hg'
  exact hne rfl)
 rw [← e2] at hr0
 rw [← e14] at hr1
 rw [← e15] at hr2
 have hF : ∀ k, FKG E2 21 k → k = g0 ∨ k = g1 ∨ ShOwn (.slice A0 xs0.length C0) xs0 k ∨ ShOwn (.slice A1 xs1.length C1) xs1 k := fun k hk => by
  rcases hk with ⟨_, y, hy, hg⟩ | ⟨_, y, hy, hg⟩ | ⟨_, y, hy, hg⟩
  ·rw [e2] at hy
   rcases List.mem_append.1 hy with hy | hy
   ·obtain ⟨x, hx, rfl⟩ := List.mem_map.1 hy
    exact .inr (.inr (.inl (.inr ⟨x, hx, hg⟩)))
   ·obtain ⟨x, hx, rfl⟩ := List.mem_map.1 hy
    exact .inr (.inr (.inr (.inr ⟨x, hx, hg⟩)))
  ·rw [e14] at hy
   rcases List.mem_append.1 hy with hy | hy
   ·rw [List.mem_singleton.1 hy] at hg
    exact .inr (.inr (.inl (.inl hg)))
   ·rw [List.mem_singleton.1 hy] at hg
    exact .inr (.inr (.inr (.inl hg)))
  ·rw [e15] at hy
   rcases List.mem_append.1 hy with hy | hy
   ·rw [List.mem_singleton.1 hy] at hg
    cases hg
    exact .inl rfl
   ·rw [List.mem_singleton.1 hy] at hg
    cases hg
    exact .inr (.inl rfl)
 have g15 : (E2 15).length = 2 := by rw [e15]; rfl
 have g14 : (E2 14).length = 2 := by rw [e14]; rfl
 have g2 : (E2 2).length ≤ 100 := by rw [e2]; simp; omega
 have j14 : (E1 14).length = 1 := by rw [f14]; rfl
 have j15 : (E1 15).length = 1 := by rw [f15]; rfl
 have j2 : (E1 2).length ≤ 40 := by rw [f2]; simpa using l0
 have HH := hide (And.intro hBw (And.intro hs0 (And.intro hbg (And.intro hc0 hc1))))
 have HO := hide (And.intro hP0 (And.intro hP1 (And.intro m0 m1)))
 have HR := hide (And.intro hr0 (And.intro hr1 (And.intro hr2 (And.intro eo hF))))
 have HG := hide (And.intro g15 (And.intro g14 (And.intro g2 (And.intro j14 (And.intro j15 j2)))))
 have HE := hide (And.intro hE1 hE2)
 have HL := hide (And.intro l0 l1)
 clear hb o0 o1 hP0 hP1 m0 m1 hlt hBw hs0 hbg hc0 hc1 hE1 hE2 f15 f14 f2 e15 e14 e2 eo hr0 hr1 hr2 q0 q1 hF g15 g14 g2 j14 j15 j2 k0 k1 l0 l1
 go_enter Tryz.func24, Tryz.ntmps24
 go_wp2_with fail
 go_loopg [4] 2 (fun q s4 wr => ∃ k : Nat, k + q = 2 ∧ s4 = .int .i64 k ∧ Kept (fun k => w.heap.size ≤ k) w wr ∧ w.heap.size ≤ wr.heap.size ∧
  (k = 0 → BG wr w.heap.size w.heap.size (fun _ => [])) ∧ (k = 1 → BG wr w.heap.size w.heap.size E1) ∧ (k = 2 → BG wr w.heap.size w.heap.size E2))
 case atStart => exact ⟨0, by omega, rfl, hW0 ▸ Kept.of_below HH.out.1, hW0 ▸ HH.out.1.size, fun _ => hW0 ▸ HH.out.2.2.1, fun h => by omega, fun h => by omega⟩
 case round =>
  obtain ⟨k, hkq, rfl, hK, hsz, b0, b1, b2⟩ := hrel
  have hbw : Below w.heap.size w wr := hK.below (fun _ h => h) (Nat.le_refl _)
  cases gk with
  | zero =>
    obtain rfl : k = 2 := by omega
    obtain ⟨hr0, hr1, hr2, eo, hF⟩ := HR.out
    obtain ⟨g15, g14, g2, j14, j15, j2⟩ := HG.out
    have hno : Kept (fun _ => False) w wr := Kept.of_below hbw
    have hap := apart_bg w.heap.size w.heap.size E2 wr (b2 rfl) eo (hr0.kept hno (fun _ _ h => h)) (by omega) (hr1.kept hno (fun _ _ h => h)) (by omega) (hr2.kept hno (fun _ _ h => h)) (by omega)
    have HF := hide (And.intro hbw hF)
    clear hr0 hr1 hr2 eo hF g15 g14 g2 j14 j15 j2 hno hbw hK b0 b1 b2
    go_wp2_with fail
    refine hap.mono ?_
    rintro e w9 ⟨rfl, hk9⟩
    have H9 := hide ((Kept.of_below (F := fun k => k = g0 ∨ k = g1 ∨ ShOwn (.slice A0 xs0.length C0) xs0 k ∨ ShOwn (.slice A1 xs1.length C1) xs1 k) HF.out.1).trans (hk9.mono (G := fun k => k = g0 ∨ k = g1 ∨ ShOwn (.slice A0 xs0.length C0) xs0 k ∨ ShOwn (.slice A1 xs1.length C1) xs1 k) (fun k _ e => HF.out.2 k e)) (fun _ _ h => h))
    clear hap hk9
    go_wp2_with fail
    go_ret
    exact ⟨rfl, H9.out⟩
  | succ q =>
    obtain ⟨hP0, hP1, m0, m1⟩ := HO.out
    obtain ⟨hE1, hE2⟩ := HE.out
    obtain ⟨g15, g14, g2, j14, j15, j2⟩ := HG.out
    have l0 := HL.out.1
    have l1 := HL.out.2
    rcases (show k = 0 ∨ k = 1 by omega) with rfl | rfl
    ·have hc := cell_thru HH.out.2.2.2.1 hbw
     have hpm := put_Manifest1 w.heap.size w.heap.size g0 (fun _ => []) G0 A0 xs0.length C0 (shdAt xs0) w wr hP0 hbw m0 (Nat.le_refl _) (by simp) (by simp) (by simp; omega) hsz (b0 rfl)
     rw [hE1] at hpm
     have HK := hide (And.intro hK hsz)
     clear hK hsz b0 b1 b2 hbw hP0 hP1 m0 m1 hE1 hE2 g15 g14 g2 j14 j15 j2 l0 l1
     go_wp2_with fail
     refine hpm.mono ?_
     rintro e w3 ⟨rfl, hb3, hk3⟩
     have H3 := hide (And.intro hb3 (And.intro (HK.out.1.trans hk3 (fun _ _ h => h)) (Nat.le_trans HK.out.2 hk3.size)))
     clear hpm hb3 hk3
     go_wp2_with fail
     go_roundg q
     case measure => omega
     case rel => exact ⟨1, by omega, by go_num, H3.out.2.1, H3.out.2.2, fun h => by omega, fun _ => H3.out.1, fun h => by omega⟩
    ·have hc := cell_thru HH.out.2.2.2.2 hbw
     have hpm := put_Manifest1 w.heap.size w.heap.size g1 E1 G1 A1 xs1.length C1 (shdAt xs1) w wr hP1 hbw m1 (Nat.le_refl _) (by omega) (by omega) (by omega) hsz (b1 rfl)
     rw [hE2] at hpm
     have HK := hide (And.intro hK hsz)
     clear hK hsz b0 b1 b2 hbw hP0 hP1 m0 m1 hE1 hE2 g15 g14 g2 j14 j15 j2 l0 l1
     go_wp2_with fail
     refine hpm.mono ?_
     rintro e w3 ⟨rfl, hb3, hk3⟩
     have H3 := hide (And.intro hb3 (And.intro (HK.out.1.trans hk3 (fun _ _ h => h)) (Nat.le_trans HK.out.2 hk3.size)))
     clear hpm hb3 hk3
     go_wp2_with fail
     go_roundg q
     case measure => omega
     case rel => exact ⟨2, by omega, by go_num, H3.out.2.1, H3.out.2.2, fun h => by omega, fun h => by omega, fun _ => H3.out.1⟩
open Go.RowKit Go.Shelf
theorem get62_results (tmps : Array Value) (bm : Nat) (x y z : Value) (w : World) (h2 : tmps.getD 2 undef = .pointer (some ⟨bm, 0, none⟩)) (h3 : tmps.getD 3 undef = z)
  (hm : w.heap[bm]? = some (.cells #[x, y] 24 (0, 0))) :
  (results Tryz.f62 tmps).run Tryz.prog w = .ok (.tuple #[.agg #[x, y], z]) w := by
 obtain ⟨c0, c1⟩ := cells2_at hm
 simp only [Array.getD_eq_getD_getElem?] at h2 h3
 simp [results, Tryz.results62, go_sem, h2, h3, c0, c1]
theorem blk2 {X : World} {bm : Nat} {x y : Value} {t : TypeId} {fr : Nat × Nat} (a b : Value) (h : X.heap[bm]? = some (.cells #[x, y] t fr)) : ((X.setCell ⟨bm, 0, none⟩ a).setCell ⟨bm, 1, none⟩ b).heap[bm]? = some (.cells #[a, b] t fr) := blk_set (i := 1) (blk_set (i := 0) h a) b
theorem bel2 {N bm : Nat} {w X : World} (a b : Value) (h : Below N w X) (hN : N ≤ bm) : Below N w ((X.setCell ⟨bm, 0, none⟩ a).setCell ⟨bm, 1, none⟩ b) := (h.setCell (p := ⟨bm, 0, none⟩) hN _).setCell (p := ⟨bm, 1, none⟩) hN _
theorem below_drewM {B : Nat} {a w : World} (h : Below B a w) (m : Nat) : Below B a (w.drewN m) := h.trans ⟨rfl, rfl, rfl, Nat.le_refl _, fun _ _ => rfl⟩
theorem OwnSh.snoc {w W : World} {B : Nat} {A A' : Option Addr} {C C' : Nat} {pre : List MV} {x : MV} {F : Nat → Prop} (h : OwnSh w B (.slice A pre.length C) pre) (hk : Kept F w W) (hF : ∀ k, F k → (Value.slice A pre.length C).ownBlock = some k)
  (hv : W.ownsRow B 54 4 (.slice A' (pre.length + 1) C') (pre.length + 1) (scells pre ++ [.int .i64 x.1.N, .int .i64 x.1.Z, .int .u32 (x.1.S : Nat), x.2]))
  (hx : w.ownsRow B 3 1 x.2 x.1.D.length (li x.1.D)) (hd : ∀ y ∈ pre, ∀ g, y.2.ownBlock = some g → x.2.ownBlock ≠ some g) : OwnSh W B (.slice A' (pre.length + 1) C') (pre ++ [x]) := by
 refine ⟨?_, ?_, ?_⟩
 ·rw [scells_append, List.length_append]
  exact hv
 ·intro y hy
  rcases List.mem_append.1 hy with hy | hy
  ·exact owns_kept (h.2.1 y hy) hk (fun z hgb hh => owns_apart h.1 (h.2.1 y hy) (by decide) z (hF z hh) hgb)
  ·rw [List.mem_singleton.1 hy]
   exact owns_kept hx hk (fun z hgb hh => owns_apart h.1 hx (by decide) z (hF z hh) hgb)
 ·refine List.pairwise_append.2 ⟨h.2.2, List.pairwise_singleton _ _, fun y hy z hz k hgb hgz => ?_⟩
  rw [List.mem_singleton.1 hz] at hgz
  exact hd y hy k hgb hgz
theorem refMGet_any (A : Option Addr) (C n : Nat) (L : List Nat) (w : World) (hn : L.length = n) (h : SB w A C L) (hsz : n ≤ 800000) :
  Calls Tryz.prog 62 #[.slice A n C] w fun e w' => GotM w (getM L) e w' ∧ Below w.heap.size w w' := by
 have hlt := h.b.lt
 obtain ⟨MO, hMO⟩ : ∃ o, getM L = o := ⟨_, rfl⟩
 obtain ⟨W1, hW1⟩ : ∃ W1, w.alloc (.cells #[.int .i64 0, .slice none 0 0] 24) = W1 := ⟨_, rfl⟩
 have hb1 : Below w.heap.size w W1 := by rw [← hW1]; exact below_alloc _ _
 have hs1 : W1.heap.size = w.heap.size + 1 := by rw [← hW1]; simp
 have gm1 : W1.heap[w.heap.size]? = some (.cells #[.int .i64 0, .slice none 0 0] 24 (0, 0)) := by rw [← hW1]; exact heap_alloc_new _ _
 have hfg := refGet_any A C n L W1 hn (h.below hb1) (by omega)
 obtain ⟨er, her⟩ : ∃ er, errG (getFile L) = er := ⟨_, rfl⟩
 rw [her] at hfg
 rw [hMO]
 have H0 := hide (And.intro hMO (And.intro hlt (And.intro hn hsz)))
 have HW := hide (And.intro hW1 (And.intro hb1 (And.intro hs1 gm1)))
 have HER := hide her
 clear hW1 hb1 hs1 gm1 hlt hn hsz h hMO her
 go_enter Tryz.func62, Tryz.ntmps62
 go_wp2_with fail
 rw [HW.out.1]
 refine hfg.mono ?_
 rintro e w3 ⟨v3, ps, rfl, hO3, hps, hb3⟩
 obtain ⟨hMO, hlt, hn, hsz⟩ := H0.out
 obtain ⟨hW1, hb1, hs1, gm1⟩ := HW.out
 have gm3 := (hb3.block _ (by omega)).trans gm1
 have hB3 : Below w.heap.size w w3 := hb1.trans (hb3.mono hb1.size)
 have hs3 := hb3.size
 have d0 := (cells2_at gm3).1
 have d1 := (cells2_at gm3).2
 have q0 := frz gm3 0
 have q1 := frz gm3 1
 have H3 := hide (And.intro gm3 hB3)
 have hLn := H0.out.2.2.1
 have her := HER.out
 clear hfg hW1 hb1 gm1 gm3 hB3 hb3
 obtain ⟨A3, C3, rfl, hP3, hA3, hC3⟩ := hO3.prts
 cases hg : getFile L with
 | none =>
   have hM : MO = none := by rw [← hMO]; unfold getM; rw [hg]
   have HM := hide hM
   rw [hg] at her
   have her : er = 9 := by rw [← her]; rfl
   subst her
   clear hO3 hps hg hM hs3 hs1 hlt hn hsz hMO hP3 hA3 hC3 hLn
   go_wp2_with fail
   refine bodyPost_ret_by (get62_results _ _ (.int .i64 0) (.slice none 0 0) (.int .i64 9) _ rfl rfl (blk2 _ _ H3.out.1)) rfl ?_
   rw [HM.out]
   exact ⟨rfl, bel2 _ _ H3.out.2 (Nat.le_refl _)⟩
 | some l =>
   rw [hg] at hps her
   have her : er = 0 := by rw [← her]; rfl
   subst her
   have hps : ps.map (fun x : PV => x.1) = l := hps
   by_cases h1 : ps.length = 1
   case neg =>
    have hM : MO = none := by
     rw [← hMO]
     unfold getM
     rw [hg]
     match l, hps with
     | [], _ => rfl
     | [p], hps => exact absurd (by simpa using congrArg List.length hps) h1
     | _ :: _ :: _, _ => rfl
    have HM := hide hM
    obtain ⟨np, hnp⟩ : ∃ np : Nat, ps.length = np := ⟨_, rfl⟩
    rw [hnp] at h1 ⊢
    have h1' : ¬ ((np : Nat) : Int) = 1 := by omega
    have h1b : (((np : Nat) : Int) == 1) = false := by rw [beq_eq_false_iff_ne]; exact h1'
    clear hO3 hps hg hM hs3 hs1 hlt hn hsz hMO hP3 hA3 hC3 hLn hnp h1
    go_wp2_with fail
    refine bodyPost_ret_by (get62_results _ _ (.int .i64 0) (.slice none 0 0) (.int .i64 9) _ rfl rfl (blk2 _ _ H3.out.1)) rfl ?_
    rw [HM.out]
    exact ⟨rfl, bel2 _ _ H3.out.2 (Nat.le_refl _)⟩
   obtain ⟨x, rfl⟩ := List.length_eq_one_iff.1 h1
   have hl : l = [x.1] := by rw [← hps]; rfl
   obtain ⟨b3, o3, rfl, ⟨y0, y1⟩, hOk⟩ := hP3.cells 0 (by simp)
   have hpx : prtAt [x] 0 = prtOf x := rfl
   rw [hpx] at y0 y1 hOk
   rw [show o3 + 0 * 2 = o3 by omega] at y0 y1
   have c0 : w3.cell? ⟨b3, o3, none⟩ = some (.int .u8 (x.1.1 : Nat)) := y0
   have c1 : w3.cell? ⟨b3, o3 + 1, none⟩ = some (.slice (prtOf x).pB x.1.2.length (prtOf x).cB) := y1
   clear y0 y1
   by_cases ht : x.1.1 = 1
   case neg =>
    have hM : MO = none := by rw [← hMO]; unfold getM; rw [hg, hl]; exact if_neg ht
    have HM := hide hM
    obtain ⟨tg, htg⟩ : ∃ tg : Nat, x.1.1 = tg := ⟨_, rfl⟩
    rw [htg] at ht c0
    have ht' : ¬ ((tg : Nat) : Int) = 1 := by omega
    have hbq : (((tg : Nat) : Int) == 1) = false := by rw [beq_eq_false_iff_ne]; omega
    clear hO3 hps hg hM hs3 hs1 hlt hn hsz hMO hP3 hA3 hC3 hLn hl htg ht hpx hOk h1 c1
    simp only [List.length_singleton]
    go_wp2_with fail
    refine bodyPost_ret_by (get62_results _ _ (.int .i64 0) (.slice none 0 0) (.int .i64 9) _ rfl rfl (blk2 _ _ H3.out.1)) rfl ?_
    rw [HM.out]
    exact ⟨rfl, bel2 _ _ H3.out.2 (Nat.le_refl _)⟩
   have hM : MO = getMP x.1.2 := by rw [← hMO]; unfold getM; rw [hg, hl]; exact if_pos ht
   have hoX := hO3.2.1 x List.mem_cons_self
   obtain ⟨hPl, hPm⟩ : x.1.2.length ≤ 800000 ∧ ∀ b ∈ x.1.2, b < 256 := by
    obtain ⟨e1, _, _⟩ := getFile_one hlt (by rw [hg, hl])
    have h2 := congrArg List.length e1
    rw [fileB_len, hn] at h2
    simp only [sizeB, bodyB, partB, List.length_append, List.length_cons, List.length_nil] at h2
    exact ⟨by omega, hoX.2.2.1⟩
   obtain ⟨_, a4, C4, hv4, hl4, hm4, hn4, ho4, hbl4, hat4⟩ := owns_bl hoX.1 hPm
   rw [ht] at c0
   simp only [prtOf, hv4, adrOf, capOf] at c1
   obtain ⟨P, hP⟩ : ∃ P, x.1.2 = P := ⟨_, rfl⟩
   rw [hP] at c1 hPl hPm hl4 hbl4 hM
   obtain ⟨lP, hlP⟩ : ∃ lP, P.length = lP := ⟨_, rfl⟩
   rw [hlP] at c1 hPl hl4
   have hat : ∀ g off s, a4 = some ⟨g, off, s⟩ → W1.heap.size ≤ g ∧ g < w3.heap.size := fun g off s e => (hat4 g off s e).2.2
   have ho4' : C4 = 0 ∨ ∃ b off, a4 = some ⟨b, off, none⟩ := ho4.imp (fun h => h) (fun ⟨b, e⟩ => ⟨b, 0, e⟩)
   obtain ⟨W4, hW4⟩ : ∃ W4, w3.alloc (.cells #[.slice a4 lP C4, .int .i64 0, .bool false] 183) = W4 := ⟨_, rfl⟩
   have hb4 : Below w3.heap.size w3 W4 := by rw [← hW4]; exact below_alloc _ _
   have hs4 : W4.heap.size = w3.heap.size + 1 := by rw [← hW4]; simp
   have hr4 : RR W4 w3.heap.size a4 C4 P (some P) := by
    refine ⟨0, Nat.zero_le _, by rw [← hW4, hlP]; exact heap_alloc_new _ _, fun g o s e h0 => by have := hat g o s e; omega, hbl4.below hb4, by omega, hm4, hn4, ho4', fun M e => by cases e; rfl⟩
   have hnm := refNum_any w3.heap.size a4 C4 P (some P) maxNum W4 hr4 (by decide)
   obtain ⟨g, hgd⟩ : ∃ g : Nat, (getNum maxNum (some P)).1 = g := ⟨_, rfl⟩
   obtain ⟨S0, hS0⟩ : ∃ S0, (getNum maxNum (some P)).2 = S0 := ⟨_, rfl⟩
   have hg40 : (g : Int) ≤ maxNum := by
    cases hq : (getNum maxNum (some P)).2 with
    | none => have := getNum_none0 maxNum (some P) hq; rw [hgd] at this; unfold maxNum; omega
    | some M =>
      obtain ⟨_, _, _, h2, _⟩ := getNum_some (show getNum maxNum (some P) = (g, some M) by rw [← hgd, ← hq])
      exact h2
   rw [hgd, hS0] at hnm
   have gm4 := (hb4.block _ (by omega)).trans H3.out.1
   have hB4 := below_thru H3.out.2 hb4
   have HP := hide (And.intro hM (And.intro hgd (And.intro hS0 (And.intro hPm (And.intro hlP hPl)))))
   have H4 := hide (And.intro gm4 (And.intro hB4 hat))
   have HW4 := hide hW4
   have hg40' := hide hg40
   clear hO3 hps hg hM hlt hn hsz hMO hP3 hA3 hC3 hLn hl ht hpx hOk h1 hoX hv4 hl4 hm4 hn4 ho4 hbl4 hat4 hat ho4' hr4 hb4 hW4 gm4 hB4 hgd hS0 hPm hlP hPl hg40 hP
   simp only [List.length_singleton]
   go_wp2_with fail
   rw [HW4.out]
   refine hnm.mono ?_
   rintro e w5 ⟨rfl, hr5, hk5⟩
   clear hnm
   have hs5 := hk5.size
   have gm5 := hk5.heap H4.out.1 (by omega)
   have hB5 := H4.out.2.1.trans (hk5.below (fun k e => by omega) H4.out.2.1.size)
   obtain ⟨W6, hW6⟩ : ∃ W6, w5.alloc (.cells #[.int .i64 (g : Nat), .slice none 0 0] 24) = W6 := ⟨_, rfl⟩
   have hb6 : Below w5.heap.size w5 W6 := by rw [← hW6]; exact below_alloc _ _
   have hs6 : W6.heap.size = w5.heap.size + 1 := by rw [← hW6]; simp
   have hr6 : RR W6 w3.heap.size a4 C4 P S0 := RR.kept2 hr5 (Kept.of_below (F := fun _ => False) hb6) (fun h => h) (fun _ _ _ _ _ h => h)
   have gM6 : W6.heap[w5.heap.size]? = some (.cells #[.int .i64 (g : Nat), .slice none 0 0] 24 (0, 0)) := by rw [← hW6]; exact heap_alloc_new _ _
   have gm6 := (hb6.block _ (block_lt gm5)).trans gm5
   have hB6 := below_thru hB5 hb6
   have hnm := refNum_any w3.heap.size a4 C4 P S0 40 W6 hr6 (by decide)
   obtain ⟨c, hc⟩ : ∃ c : Nat, (getNum 40 S0).1 = c := ⟨_, rfl⟩
   obtain ⟨S, hS⟩ : ∃ S, (getNum 40 S0).2 = S := ⟨_, rfl⟩
   have hc40 : c ≤ 40 := by
    cases hq : (getNum 40 S0).2 with
    | none => have := getNum_none0 40 S0 hq; omega
    | some M =>
      cases S0 with
      | none => simp [getNum] at hq
      | some L0 =>
        obtain ⟨_, _, _, h2, _⟩ := getNum_some (show getNum 40 (some L0) = (c, some M) by rw [← hc, ← hq])
        omega
   have hMO : MO = finM g (shardsG c S) := by rw [HP.out.1, getMP_fin, HP.out.2.1, HP.out.2.2.1, hc, hS]
   have hbS : ∀ M, S = some M → ∀ b ∈ M, b < 256 := fun M hM => by
    cases S0 with
    | none => rw [← hS] at hM; simp [getNum] at hM
    | some L0 =>
      have hL0 : ∀ b ∈ L0, b < 256 := by
       have h1 := (numIs HP.out.2.2.2.1 (show getNum maxNum (some P) = (g, some L0) by rw [← HP.out.2.1, ← HP.out.2.2.1])).1
       intro b hb
       exact HP.out.2.2.2.1 b (by rw [h1]; exact List.mem_append_right _ hb)
      have h1 := (numIs hL0 (show getNum 40 (some L0) = (c, some M) by rw [← hc, ← hM, ← hS])).1
      intro b hb
      exact hL0 b (by rw [h1]; exact List.mem_append_right _ hb)
   rw [hc, hS] at hnm
   have H6 := hide (And.intro gM6 (And.intro gm6 (And.intro hB6 (And.intro hMO hbS))))
   have HW6 := hide hW6
   clear hr5 hk5 gm5 hB5 hW6 hb6 hr6 gM6 gm6 hB6 hc hS hMO hbS
   go_wp2_with fail
   rw [HW6.out]
   refine hnm.mono ?_
   rintro e w7 ⟨rfl, hr7, hk7⟩
   clear hnm
   have hs7 := hk7.size
   have gM7 := hk7.heap H6.out.1 (by omega)
   have gm7 := hk7.heap H6.out.2.1 (by omega)
   have hB7 := H6.out.2.2.1.trans (hk7.below (fun k e => by omega) H6.out.2.2.1.size)
   have H7 := hide (And.intro gM7 (And.intro gm7 (And.intro hB7 hr7)))
   clear gM7 gm7 hB7 hr7 hk7
   go_wp2_with fail
   go_loopg [9] c (fun q s9 wr => ∃ (k : Nat) (done : List MV) (S2 : Option (List Nat)) (VA : Option Addr) (VC : Nat), k + q = c ∧ s9 = .int .i64 (k : Nat) ∧ done.length = k ∧
    wr.heap[w5.heap.size]? = some (.cells #[.int .i64 (g : Nat), .slice VA k VC] 24 (0, 0)) ∧ wr.heap[w.heap.size]? = some (.cells #[.int .i64 0, .slice none 0 0] 24 (0, 0)) ∧
    OwnSh wr w7.heap.size (.slice VA done.length VC) done ∧ RR wr w3.heap.size a4 C4 P S2 ∧ Below w.heap.size w wr ∧ w7.heap.size ≤ wr.heap.size ∧ (shardsG k S).2 = S2 ∧ (S2 ≠ none → (shardsG k S).1 = done.map (fun x : MV => x.1)))
   case atStart => exact ⟨0, [], S, none, 0, by omega, rfl, rfl, H7.out.1, H7.out.2.1, OwnSh.nil _ _, H7.out.2.2.2, H7.out.2.2.1, Nat.le_refl _, rfl, fun _ => rfl⟩
   case round =>
    obtain ⟨k, done, S2, VA, VC, hkq, rfl, hdk, gM, gm, hod, hr, hB, hsz, hS2, hsh⟩ := hrel
    have HO := hide (And.intro gM (And.intro gm (And.intro hod (And.intro hr (And.intro hB (And.intro hsz (And.intro hS2 hsh)))))))
    have HDK := hide hdk
    obtain ⟨hfl, hff⟩ := hr.flag
    cases gk with
    | zero =>
      obtain rfl : k = c := by omega
      have hlf := refLeft_any w3.heap.size a4 C4 P S2 wr hr
      have hmo := H6.out.2.2.2.1
      have b0 := (cells2_at gm).1
      have b1 := (cells2_at gm).2
      have e0 := frz gm 0
      have e1 := frz gm 1
      cases S2 with
      | none =>
        simp only [Option.isNone_none] at hfl
        have hM : MO = none := by rw [hmo]; exact finM_none (by rw [hS2]; simp)
        have HM := hide hM
        clear hlf hod hr hB hS2 hsh hM hmo hff hdk gM gm
        go_wp2_with fail
        refine bodyPost_ret_by (get62_results _ _ (.int .i64 0) (.slice none 0 0) (.int .i64 9) _ rfl rfl (blk2 _ _ HO.out.2.1)) rfl ?_
        rw [HM.out]
        exact ⟨rfl, bel2 _ _ HO.out.2.2.2.2.1 (Nat.le_refl _)⟩
      | some M =>
        simp only [Option.isNone_some] at hfl
        cases M with
        | cons x0 r0 =>
          have hM : MO = none := by rw [hmo]; exact finM_none (by rw [hS2]; simp)
          have HM := hide hM
          obtain ⟨sz, hsz0⟩ : ∃ sz, szO (some (x0 :: r0)) = sz := ⟨_, rfl⟩
          have hM0 : ¬ ((sz : Nat) : Int) = 0 := by rw [← hsz0]; simp [szO]; omega
          have hMb : (((sz : Nat) : Int) == 0) = false := by rw [beq_eq_false_iff_ne]; exact hM0
          rw [hsz0] at hlf
          clear hod hr hB hS2 hsh hM hmo hff hdk gM gm hsz0
          go_wp2_with fail
          refine hlf.mono ?_
          rintro e w8 ⟨rfl, m, rfl⟩
          have b0' : (wr.drewN m).cell? ⟨w.heap.size, 0, none⟩ = _ := b0
          have b1' : (wr.drewN m).cell? ⟨w.heap.size, 1, none⟩ = _ := b1
          have e0' : (wr.drewN m).frozen? ⟨w.heap.size, 0, none⟩ = false := e0
          have e1' : (wr.drewN m).frozen? ⟨w.heap.size, 1, none⟩ = false := e1
          have gm' : (wr.drewN m).heap[w.heap.size]? = _ := HO.out.2.1
          have hBm := below_drewM HO.out.2.2.2.2.1 m
          have HG := hide (And.intro gm' hBm)
          clear hlf gm' hBm
          go_wp2_with fail
          refine bodyPost_ret_by (get62_results _ _ (.int .i64 0) (.slice none 0 0) (.int .i64 9) _ rfl rfl (blk2 _ _ HG.out.1)) rfl ?_
          rw [HM.out]
          exact ⟨rfl, bel2 _ _ HG.out.2 (Nat.le_refl _)⟩
        | nil =>
          have hlf : Calls Tryz.prog 120 #[.pointer (some ⟨w3.heap.size, 0, none⟩)] wr fun e w' => e = .returned (.int .i64 0) ∧ ∃ m, w' = wr.drewN m := hlf
          have hok : ∀ y ∈ done, okST y.1 := by
           cases hSS : S with
           | none => rw [hSS] at hS2; rw [shardsG_none] at hS2; cases hS2
           | some M0 =>
             rw [hSS] at hS2
             have h9 := (shardsG_is k M0 [] (shardsG k (some M0)).1 (H6.out.2.2.2.2 M0 hSS) (Prod.ext rfl hS2)).2.2
             intro y hy
             have h10 := hsh (by simp)
             rw [hSS] at h10
             exact h9 y.1 (by rw [h10]; exact List.mem_map.2 ⟨y, hy, rfl⟩)
          obtain ⟨VA', VC', hve, hSh, hC5, hm5, hn5⟩ := hod.shds hok
          injection hve with hv1 hv2 hv3
          subst hv1 hv3
          have hmf : MO = if rightM ⟨(g : Int), done.map (fun y : MV => y.1)⟩ = true then some ⟨(g : Int), done.map (fun y : MV => y.1)⟩ else none := by
           rw [hmo, show shardsG k S = ((shardsG k S).1, (shardsG k S).2) from rfl, hS2, hsh (by simp)]
           rfl
          have hwg : (Lit.int .i64 (g : Int)).wf = true := wf64 (by omega) (by have := hg40'.out; unfold maxNum at this; omega)
          have hrt := fun (W : World) (hW : Below wr.heap.size wr W) => refRightM_any (g : Int) VA done.length VC (shdAt done) W (by rw [HDK.out]; omega) hwg (hSh.below hW) (fun i hi => by
           rw [shdAt_lt hi]
           have := dead_len (hok done[i] (List.getElem_mem hi)).2.2.2.2.2
           show done[i].1.D.length ≤ _
           omega)
          rw [stsN_shdAt] at hrt
          have M0 := (cells2_at gM).1
          have M1 := (cells2_at gM).2
          rw [HDK.out] at hrt
          have HMF := hide (And.intro hmf (And.intro hok hrt))
          clear hod hr hB hS2 hsh hmo hff hdk gM gm hv2 hSh hmf hok hrt hwg
          go_wp2_with fail
          refine hlf.mono ?_
          rintro e w8 ⟨rfl, m, rfl⟩
          have gM' : (wr.drewN m).heap[w5.heap.size]? = _ := HO.out.1
          have gm' : (wr.drewN m).heap[w.heap.size]? = _ := HO.out.2.1
          have m0' := (cells2_at gM').1
          have m1' := (cells2_at gM').2
          have hrt := HMF.out.2.2 (wr.drewN m) (below_drewM (Below.refl _ _) m)
          have hBm := below_drewM HO.out.2.2.2.2.1 m
          have HG := hide (And.intro gM' (And.intro gm' hBm))
          clear hlf M0 M1 b0 b1 e0 e1 gM' gm' hBm
          cases hrr : rightM ⟨(g : Int), done.map (fun y : MV => y.1)⟩ with
          | false =>
            rw [hrr] at hrt
            have hM : MO = none := by rw [HMF.out.1, hrr]; rfl
            have HM := hide hM
            clear hM hrr
            go_wp2_with fail
            refine hrt.mono ?_
            rintro e w9 ⟨rfl, hb9⟩
            have gm9 := (hb9.block _ (block_lt HG.out.2.1)).trans HG.out.2.1
            have b0 := (cells2_at gm9).1
            have b1 := (cells2_at gm9).2
            have e0 := frz gm9 0
            have e1 := frz gm9 1
            have H9 := hide (And.intro gm9 (below_thru HG.out.2.2 hb9))
            clear hrt hb9 gm9
            go_wp2_with fail
            refine bodyPost_ret_by (get62_results _ _ (.int .i64 0) (.slice none 0 0) (.int .i64 9) _ rfl rfl (blk2 _ _ H9.out.1)) rfl ?_
            rw [HM.out]
            exact ⟨rfl, bel2 _ _ H9.out.2 (Nat.le_refl _)⟩
          | true =>
            rw [hrr] at hrt
            have hM : MO = some ⟨(g : Int), done.map (fun y : MV => y.1)⟩ := by rw [HMF.out.1, hrr]; rfl
            have HM := hide hM
            clear hM hrr
            go_wp2_with fail
            refine hrt.mono ?_
            rintro e w9 ⟨rfl, hb9⟩
            have gM9 := (hb9.block _ (block_lt HG.out.1)).trans HG.out.1
            have gm9 := (hb9.block _ (block_lt HG.out.2.1)).trans HG.out.2.1
            have b0 := (cells2_at gm9).1
            have b1 := (cells2_at gm9).2
            have e0 := frz gm9 0
            have e1 := frz gm9 1
            have M0 := (cells2_at gM9).1
            have M1 := (cells2_at gM9).2
            have hBw : Below wr.heap.size wr w9 := below_thru (below_drewM (Below.refl _ _) m) hb9
            have H9 := hide (And.intro gm9 (And.intro (below_thru HG.out.2.2 hb9) (And.intro (HO.out.2.2.1.below hBw) (Nat.le_trans HO.out.2.2.2.2.2.1 hBw.size))))
            clear hrt hb9 gm9 gM9 hBw m0' m1'
            go_wp2_with fail
            refine bodyPost_ret_by (get62_results _ _ (.int .i64 (g : Nat)) (.slice VA k VC) (.int .i64 0) _ rfl rfl (blk2 _ _ H9.out.1)) rfl ?_
            rw [HM.out]
            have hkF : Kept (fun y => y = w.heap.size) w9 ((w9.setCell ⟨w.heap.size, 0, none⟩ (.int .i64 (g : Nat))).setCell ⟨w.heap.size, 1, none⟩ (.slice VA k VC)) := ((Kept.refl (fun y => y = w.heap.size) w9).setCell (p := ⟨w.heap.size, 0, none⟩) (.inl rfl) _).setCell (p := ⟨w.heap.size, 1, none⟩) (.inl rfl) _
            have hOw := H9.out.2.2.1.kept hkF (fun y hy => H9.out.2.2.1.ge (by omega))
            rw [HDK.out] at hOw
            exact ⟨⟨.slice VA k VC, done, rfl, hOw.lower (by omega), rfl, HMF.out.2.1⟩, bel2 _ _ H9.out.2.1 (Nat.le_refl _)⟩
    | succ q =>
      have hk1 : ((k : Nat) : Int) < (c : Int) := by omega
      have b0 := (cells2_at gm).1
      have b1 := (cells2_at gm).2
      have e0 := frz gm 0
      have e1 := frz gm 1
      cases S2 with
      | none =>
        simp only [Option.isNone_none] at hfl
        have hM : MO = none := by
         rw [H6.out.2.2.2.1]
         have := shardsG_bads hS2 (q + 1)
         rw [show k + (q + 1) = c by omega] at this
         exact finM_none (by rw [this]; simp)
        have HM := hide hM
        clear hod hr hB hS2 hsh hM hff hdk gM gm
        go_wp2_with fail
        refine bodyPost_ret_by (get62_results _ _ (.int .i64 0) (.slice none 0 0) (.int .i64 9) _ rfl rfl (blk2 _ _ HO.out.2.1)) rfl ?_
        rw [HM.out]
        exact ⟨rfl, bel2 _ _ HO.out.2.2.2.2.1 (Nat.le_refl _)⟩
      | some M =>
        simp only [Option.isNone_some] at hfl
        have hone : oneG M = (⟨((getNum maxNum (some M)).1 : Int), ((getNum 67108864 (getNum maxNum (some M)).2).1 : Int), (getFix (getNum 67108864 (getNum maxNum (some M)).2).2).1, (getRising 4000 3999 (getFix (getNum 67108864 (getNum maxNum (some M)).2).2).2).1⟩, (getRising 4000 3999 (getFix (getNum 67108864 (getNum maxNum (some M)).2).2).2).2) := rfl
        have hn1 := refNum_any w3.heap.size a4 C4 P (some M) maxNum wr hr (by decide)
        obtain ⟨n1, hn1e⟩ : ∃ v : Nat, (getNum maxNum (some M)).1 = v := ⟨_, rfl⟩
        obtain ⟨T1, hT1e⟩ : ∃ T, (getNum maxNum (some M)).2 = T := ⟨_, rfl⟩
        rw [hn1e, hT1e] at hn1 hone
        have HBX := hide (And.intro b0 (And.intro b1 (And.intro e0 e1)))
        clear hod hr hB hS2 hsh hff hdk gM gm b0 b1 e0 e1 hn1e hT1e
        go_wp2_with fail
        refine hn1.mono ?_
        rintro e w8 ⟨rfl, hr8, hk8⟩
        have hs8 := hk8.size
        obtain ⟨W9, hW9⟩ : ∃ W9, w8.alloc (.cells #[.int .i64 (n1 : Nat), .int .i64 0, .int .u32 0, .slice none 0 0] 54) = W9 := ⟨_, rfl⟩
        have hb9 : Below w8.heap.size w8 W9 := by rw [← hW9]; exact below_alloc _ _
        have hs9 : W9.heap.size = w8.heap.size + 1 := by rw [← hW9]; simp
        have g9 : W9.heap[w8.heap.size]? = some (.cells #[.int .i64 (n1 : Nat), .int .i64 0, .int .u32 0, .slice none 0 0] 54 (0, 0)) := by rw [← hW9]; exact heap_alloc_new _ _
        have hr9 : RR W9 w3.heap.size a4 C4 P T1 := RR.kept2 hr8 (Kept.of_below (F := fun _ => False) hb9) (fun h => h) (fun _ _ _ _ _ h => h)
        have hkr9 : Kept (fun y => y = w3.heap.size) wr W9 := hk8.trans (Kept.of_below (F := fun y => y = w3.heap.size) hb9) (fun _ _ h => h)
        have hn2 := refNum_any w3.heap.size a4 C4 P T1 67108864 W9 hr9 (by decide)
        obtain ⟨n2, hn2e⟩ : ∃ v : Nat, (getNum 67108864 T1).1 = v := ⟨_, rfl⟩
        obtain ⟨T2, hT2e⟩ : ∃ T, (getNum 67108864 T1).2 = T := ⟨_, rfl⟩
        rw [hn2e, hT2e] at hn2 hone
        have hnsb : ¬ w8.heap.size = w3.heap.size := by have := HO.out.2.2.2.2.2.1; omega
        have hasb : ∀ g off s, a4 = some ⟨g, off, s⟩ → 0 < P.length → ¬ g = w8.heap.size := fun g off s e _ => by have := (H4.out.2.2 g off s e).2; omega
        have HW9 := hide hW9
        have H9 := hide (And.intro g9 (And.intro hkr9 hasb))
        clear hn1 hr8 hk8 hb9 hW9 g9 hr9 hkr9 hasb hn2e hT2e
        go_wp2_with fail
        rw [HW9.out]
        refine hn2.mono ?_
        rintro e w10 ⟨rfl, hr10, hk10⟩
        have hs10 := hk10.size
        have g10 : w10.heap[w8.heap.size]? = _ := hk10.heap H9.out.1 hnsb
        have c1 := (cells4_at g10).2.1
        have f1 := frz g10 1
        obtain ⟨W11, hW11⟩ : ∃ W, w10.setCell ⟨w8.heap.size, 1, none⟩ (.int .i64 (n2 : Nat)) = W := ⟨_, rfl⟩
        have g11 : W11.heap[w8.heap.size]? = some (.cells #[.int .i64 (n1 : Nat), .int .i64 (n2 : Nat), .int .u32 0, .slice none 0 0] 54 (0, 0)) := by rw [← hW11]; exact blk_set g10 _
        have hk11 : Kept (fun y => y = w8.heap.size) w10 W11 := by rw [← hW11]; exact (Kept.refl (fun y => y = w8.heap.size) w10).setCell (p := ⟨w8.heap.size, 1, none⟩) (.inl rfl) _
        have hr11 := RR.kept2 hr10 hk11 (fun e => hnsb e.symm) H9.out.2.2
        have hfx := refFix_any w3.heap.size a4 C4 P T2 W11 hr11
        obtain ⟨n3, hn3e⟩ : ∃ v : Nat, (getFix T2).1 = v := ⟨_, rfl⟩
        obtain ⟨T3, hT3e⟩ : ∃ T, (getFix T2).2 = T := ⟨_, rfl⟩
        rw [hn3e, hT3e] at hfx hone
        have hkr11 : Kept (fun y => y = w3.heap.size ∨ y = w8.heap.size) wr W11 := ((H9.out.2.1.mono (G := fun y => y = w3.heap.size ∨ y = w8.heap.size) (fun _ _ h => .inl h)).trans hk10 (fun _ _ h => .inl h)).trans hk11 (fun _ _ h => .inr h)
        have H11 := hide (And.intro g11 hkr11)
        clear hn2 hr10 hk10 g10 hk11 hr11 g11 hkr11 hn3e hT3e
        go_wp2_with fail
        refine hfx.mono ?_
        rintro e w12 ⟨rfl, hr12, hk12⟩
        have g12 : w12.heap[w8.heap.size]? = _ := hk12.heap H11.out.1 hnsb
        have c2 := (cells4_at g12).2.2.1
        have f2 := frz g12 2
        obtain ⟨W13, hW13⟩ : ∃ W, w12.setCell ⟨w8.heap.size, 2, none⟩ (.int .u32 (n3 : Nat)) = W := ⟨_, rfl⟩
        have g13 : W13.heap[w8.heap.size]? = some (.cells #[.int .i64 (n1 : Nat), .int .i64 (n2 : Nat), .int .u32 (n3 : Nat), .slice none 0 0] 54 (0, 0)) := by rw [← hW13]; exact blk_set g12 _
        have hk13 : Kept (fun y => y = w8.heap.size) w12 W13 := by rw [← hW13]; exact (Kept.refl (fun y => y = w8.heap.size) w12).setCell (p := ⟨w8.heap.size, 2, none⟩) (.inl rfl) _
        have hr13 := RR.kept2 hr12 hk13 (fun e => hnsb e.symm) H9.out.2.2
        have hkr13 : Kept (fun y => y = w3.heap.size ∨ y = w8.heap.size) wr W13 := (H11.out.2.trans hk12 (fun _ _ h => .inl h)).trans hk13 (fun _ _ h => .inr h)
        have hrs := rrRising_any w3.heap.size a4 C4 P T3 4000 3999 W13 hr13 (by decide) (by decide) (by have := HP.out.2.2.2.2; omega)
        obtain ⟨T4, hT4e⟩ : ∃ T, (getRising 4000 3999 T3).2 = T := ⟨_, rfl⟩
        obtain ⟨D, hDe⟩ : ∃ D, (getRising 4000 3999 T3).1 = D := ⟨_, rfl⟩
        rw [hT4e, hDe] at hrs hone
        have H13 := hide (And.intro g13 hkr13)
        clear hfx hr12 hk12 g12 hk13 hr13 g13 hkr13 c1 f1 hW11 hT4e hDe
        go_wp2_with fail
        refine hrs.mono ?_
        rintro e w14 ⟨v14, rfl, ho14, hr14, hk14⟩
        obtain ⟨A6, C6, rfl⟩ := owns_slice ho14
        obtain ⟨lD, hlD⟩ : ∃ v, D.length = v := ⟨_, rfl⟩
        rw [hlD] at ho14 ⊢
        have g14 : w14.heap[w8.heap.size]? = _ := hk14.heap H13.out.1 hnsb
        have c3 := (cells4_at g14).2.2.2
        have f3 := frz g14 3
        obtain ⟨W15, hW15⟩ : ∃ W, w14.setCell ⟨w8.heap.size, 3, none⟩ (.slice A6 lD C6) = W := ⟨_, rfl⟩
        have g15 : W15.heap[w8.heap.size]? = some (.cells #[.int .i64 (n1 : Nat), .int .i64 (n2 : Nat), .int .u32 (n3 : Nat), .slice A6 lD C6] 54 (0, 0)) := by rw [← hW15]; exact blk_set g14 _
        have hk15 : Kept (fun y => y = w8.heap.size) w14 W15 := by rw [← hW15]; exact (Kept.refl (fun y => y = w8.heap.size) w14).setCell (p := ⟨w8.heap.size, 3, none⟩) (.inl rfl) _
        have hr15 := RR.kept2 hr14 hk15 (fun e => hnsb e.symm) H9.out.2.2
        have ho15 := owns_kept ho14 hk15 (fun z hz e => by subst e; exact owns_tyne ho14 g14 (by decide) hz)
        have hkr15 : Kept (fun y => y = w3.heap.size ∨ y = w8.heap.size) wr W15 := (H13.out.2.trans hk14 (fun _ _ h => .inl h)).trans hk15 (fun _ _ h => .inr h)
        obtain ⟨gM, gm, hod, hr, hB, hsz, hS2, hsh⟩ := HO.out
        have hs13 := H13.out.2.size
        have hs15 := hkr15.size
        have hod15 := hod.kept hkr15 (fun y hy => hy.elim (fun e => hod.ge (by omega)) (fun e => ⟨fun e2 => by have := (owns_cells hod.1 y e2).1; omega, fun x hx e2 => by have := (owns_cells (hod.2.1 x hx) y e2).1; omega⟩))
        have gM15 : W15.heap[w5.heap.size]? = _ := hkr15.heap gM (fun h => h.elim (fun e => by omega) (fun e => by have := block_lt gM; omega))
        have gm15 : W15.heap[w.heap.size]? = _ := hkr15.heap gm (fun h => h.elim (fun e => by omega) (fun e => by have := block_lt gm; omega))
        have hB15 : Below w.heap.size w W15 := hB.trans (hkr15.below (fun y hy => by rcases hy with e | e <;> omega) hB.size)
        have M1 := (cells2_at gM15).2
        have fM1 := frz gM15 1
        obtain ⟨s0, s1, s2, s3⟩ := cells4_at g15
        obtain ⟨W16, hW16⟩ : ∃ W, W15.alloc (.cells #[.int .i64 (n1 : Nat), .int .i64 (n2 : Nat), .int .u32 (n3 : Nat), .slice A6 lD C6] 54) = W := ⟨_, rfl⟩
        have hb16 : Below W15.heap.size W15 W16 := by rw [← hW16]; exact below_alloc _ _
        have g16 : W16.heap[W15.heap.size]? = some (.cells #[.int .i64 (n1 : Nat), .int .i64 (n2 : Nat), .int .u32 (n3 : Nat), .slice A6 lD C6] 54 (0, 0)) := by rw [← hW16]; exact heap_alloc_new _ _
        have hnews := shard_news W16 W15.heap.size _ _ _ _ _ g16
        have hod16 := hod15.below hb16
        have ho16 := owns_thru ho15 hb16
        have hr16 : RR W16 w3.heap.size a4 C4 P T4 := RR.kept2 hr15 (Kept.of_below (F := fun _ => False) hb16) (fun h => h) (fun _ _ _ _ _ h => h)
        have gM16 := (hb16.block _ (block_lt gM15)).trans gM15
        have gm16 := (hb16.block _ (block_lt gm15)).trans gm15
        have mc16 := (cells2_at gM16).2
        have mf16 := frz gM16 1
        have hown16 := hod16.1
        have hs16 := hb16.size
        have hne16 : ∀ y, (Value.slice VA done.length VC).ownBlock = some y → y ≠ w5.heap.size := fun y hy e => by have := (owns_cells hown16 y hy).2.1; omega
        have hsn := shardsG_snoc k S M hS2
        rw [hone] at hsn
        have hdk := HDK.out
        rw [hdk] at hown16 hne16
        have hone' : ∀ u ∈ [Value.int .i64 (n1 : Nat), Value.int .i64 (n2 : Nat), Value.int .u32 (n3 : Nat), Value.slice A6 lD C6], u.oneCell' = true := by
         intro u hu
         simp at hu
         rcases hu with rfl | rfl | rfl | rfl <;> rfl
        have HN := hide (And.intro hod16 (And.intro ho16 (And.intro hr16 (And.intro gM16 (And.intro gm16 (And.intro (below_thru hB15 hb16) (And.intro hsn hne16)))))))
        have HSS := hide (And.intro hsh (And.intro hsz (And.intro hs13 (And.intro hs15 hs16))))
        have HLD := hide hlD
        have HDJ := hide (fun (y : MV) (hy : y ∈ done) (z : Nat) (hz : y.2.ownBlock = some z) => (owns_cells (hod.2.1 y hy) z hz).1)
        have hsz16 : w7.heap.size ≤ W16.heap.size := by omega
        obtain ⟨i0, hi0, hq0, hq1, hq2⟩ := info_parts info_shard
        have HMC := hide (And.intro mc16 mf16)
        clear hrs hr14 hk14 g14 hk15 hr15 ho14 ho15 hkr15 gM gm hod hr hB hsz hS2 hsh hod15 gM15 gm15 hB15 hb16 g16 hod16 ho16 hr16 gM16 gm16 hsn hdk c2 f2 hW13 hone hne16 g15 mc16 mf16 hs13 hs15 hs16 hlD
        go_wp2_with (at_builtin; go_must (refine wpList_append_keepS _ rfl (.tmp 67) (.tmp 69) 22 rfl 54 i0 (.agg #[.int .i64 0, .int .i64 0, .int .u32 0, .slice none 0 0]) 4 48 Tryz.underlying22 hi0 hq0 hq1 hq2 rfl (by omega) w7.heap.size (.slice VA k VC) k (scells done) rfl hown16 ⟨W15.heap.size, 0, none⟩ 1 1 _ rfl rfl hnews hone' (by unfold maxLen; omega) (by omega) hsz16 ?_); intro A' C' w17 hown17 hg17 hold17; have mc17 := (hg17.kept (F := fun y => y ≠ w5.heap.size) HN.out.2.2.2.2.2.2.2).cell HMC.out.1 (fun h => h rfl); have mf17 := (hg17.kept (F := fun y => y ≠ w5.heap.size) HN.out.2.2.2.2.2.2.2).unfrozen HMC.out.1 (fun h => h rfl) HMC.out.2)
        obtain ⟨hod16, ho16, hr16, gM16, gm16, hB16, hsn, hne16⟩ := HN.out
        obtain ⟨hsh, hsz, hs13, hs15, hs16⟩ := HSS.out
        have hlD := HLD.out
        subst hlD
        have hdk := HDK.out
        subst hdk
        have hk17 := hg17.kept (F := fun y => (Value.slice VA done.length VC).ownBlock = some y) (fun _ h => h)
        have hob := fun (y : Nat) (hy : (Value.slice VA done.length VC).ownBlock = some y) => (owns_cells hod16.1 y hy).2.1
        have gM17 : w17.heap[w5.heap.size]? = _ := hk17.heap gM16 (fun h => hne16 _ h rfl)
        have gm17 : w17.heap[w.heap.size]? = _ := hk17.heap gm16 (fun h => by have := hob _ h; omega)
        have hr17 : RR w17 w3.heap.size a4 C4 P T4 := RR.kept2 hr16 hk17 (fun h => by have := hob _ h; omega) (fun z off s e _ h1 => by have := hob _ h1; have := (H4.out.2.2 z off s e).2; omega)
        have hB17 : Below w.heap.size w w17 := hB16.trans (hk17.below (fun y hy => by have := hob y hy; omega) hB16.size)
        have hod17 := OwnSh.snoc (x := (⟨(n1 : Int), (n2 : Int), n3, D⟩, .slice A6 D.length C6)) hod16 hk17 (fun _ h => h) hown17 (owns_lower ho16 (by omega)) (fun y hy z hz hx => by
         have h1 := HDJ.out y hy z hz
         have h2 := (owns_cells ho16 z hx).2.1
         omega)
        have hkE : Kept (fun y => y = w5.heap.size) w17 (w17.setCell ⟨w5.heap.size, 1, none⟩ (.slice A' (done.length + 1) C')) := (Kept.refl (fun y => y = w5.heap.size) w17).setCell (.inl rfl) _
        have hodE := hod17.kept hkE (fun y hy => hod17.ge (by omega))
        have gME := blk_set (i := 1) gM17 (.slice A' (done.length + 1) C')
        have gmE := hkE.heap gm17 (fun e => by omega)
        have hrE : RR (w17.setCell ⟨w5.heap.size, 1, none⟩ (.slice A' (done.length + 1) C')) w3.heap.size a4 C4 P T4 := RR.kept2 hr17 hkE (fun e => by omega) (fun z off s e _ h1 => by have := (H4.out.2.2 z off s e).2; omega)
        have hBE : Below w.heap.size w (w17.setCell ⟨w5.heap.size, 1, none⟩ (.slice A' (done.length + 1) C')) := hB17.setCell (p := ⟨w5.heap.size, 1, none⟩) (by show w.heap.size ≤ w5.heap.size; omega) _
        have hsE := hkE.size
        have hs17 := hk17.size
        have HE := hide (And.intro gME (And.intro gmE (And.intro hodE (And.intro hrE (And.intro hBE (And.intro hsn (And.intro hsh (show w7.heap.size ≤ (w17.setCell ⟨w5.heap.size, 1, none⟩ (.slice A' (done.length + 1) C')).heap.size by omega))))))))
        clear hod16 ho16 hr16 gM16 gm16 hB16 hsn hne16 hsh hk17 hob gM17 gm17 hr17 hB17 hod17 hkE hodE gME gmE hrE hBE
        go_wp2_with fail
        go_roundg q
        case measure => omega
        case rel =>
         obtain ⟨gME, gmE, hodE, hrE, hBE, hsn, hsh, hsE⟩ := HE.out
         refine ⟨done.length + 1, done ++ [(⟨(n1 : Int), (n2 : Int), n3, D⟩, .slice A6 D.length C6)], T4, A', C', by omega, by go_num, by simp, gME, gmE, ?_, hrE, hBE, hsE, by rw [hsn], fun _ => ?_⟩
         ·rw [List.length_append]
          exact hodE
         ·rw [hsn, hsh (by simp)]
          simp
open Go.RowKit Go.Shelf
theorem GotM.own {w w' : World} {L : List Nat} {e : Ending} (hL : ∀ b ∈ L, b < 256) (h : GotM w (getM L) e w') : ∃ G A n C xs E, e = .returned (.tuple #[.agg #[.int .i64 G, .slice A n C], .int .i64 E]) ∧ n = xs.length ∧ OwnSh w' w.heap.size (.slice A xs.length C) xs ∧ (∀ x ∈ xs, okST x.1) ∧ xs.length ≤ 40 := by
 cases hm : getM L with
 | none =>
   rw [hm] at h
   exact ⟨0, none, 0, 0, [], 9, h, rfl, OwnSh.nil _ _, (by intro x hx; cases hx), by simp⟩
 | some m =>
   rw [hm] at h
   obtain ⟨v, xs, rfl, ho, hx, hok⟩ := h
   obtain ⟨A, C, rfl⟩ := owns_slice ho.1
   obtain ⟨_, hr, hS⟩ := getM_is hL hm
   have h40 := (rightM_ok hr hS).2.2.2
   have hl : xs.length = m.L.length := by rw [← hx, List.length_map]
   exact ⟨m.G, A, xs.length, C, xs, 0, rfl, rfl, ho, hok, by omega⟩
theorem Shds.nil (w : World) (a : Option Addr) (P : Nat → Shd) : Shds w a 0 P := .inl rfl
theorem gets_any' (A : Option Addr) (C n : Nat) (L : List Nat) (w : World) (hn : L.length = n) (hS : SB w A C L) (hsz : n ≤ 800000) :
  Calls Tryz.prog 22 #[.slice A n C] w fun e w' => e = .returned (.bool true) ∧ Below w.heap.size w w' := by
 have hlt := hS.b.lt
 have hg1 := mget_any A C n L w hn.symm hS (by omega)
 have hg2 := fun (W : World) (hW : Below w.heap.size w W) => refMGet_any A C n L W hn (hS.below hW) hsz
 have H0 := hide (And.intro hg2 hlt)
 clear hg2 hS hlt
 go_enter Tryz.func22, Tryz.ntmps22
 go_wp2_with fail
 refine hg1.mono ?_
 rintro e w1 ⟨hgot, hb1⟩
 clear hg1
 cases hm : getM L with
 | none =>
   rw [hm] at hgot
   have hgot : e = .returned (.tuple #[.agg #[.int .i64 0, .slice none 0 0], .int .i64 9]) := hgot
   subst hgot
   obtain ⟨W2, hW2⟩ : ∃ W2, w1.alloc (.cells #[.int .i64 0, .slice none 0 0] 24) = W2 := ⟨_, rfl⟩
   have hb2 : Below w.heap.size w W2 := below_thru hb1 (by rw [← hW2]; exact below_alloc _ _)
   have g2 : W2.heap[w1.heap.size]? = some (.cells #[.int .i64 0, .slice none 0 0] 24 (0, 0)) := by rw [← hW2]; exact heap_alloc_new _ _
   have hr := H0.out.1 W2 hb2
   rw [hm] at hr
   have HW2 := hide hW2
   have H2 := hide (And.intro hb2 g2)
   clear hb1 hm hW2 hb2 g2
   go_wp2_with fail
   rw [HW2.out]
   refine hr.mono ?_
   rintro e w3 ⟨he, hb3⟩
   have he : e = .returned (.tuple #[.agg #[.int .i64 0, .slice none 0 0], .int .i64 9]) := he
   subst he
   obtain ⟨W4, hW4⟩ : ∃ W4, w3.alloc (.cells #[.int .i64 0, .slice none 0 0] 24) = W4 := ⟨_, rfl⟩
   have hb4 : Below w3.heap.size w3 W4 := by rw [← hW4]; exact below_alloc _ _
   have g4 : W4.heap[w3.heap.size]? = some (.cells #[.int .i64 0, .slice none 0 0] 24 (0, 0)) := by rw [← hW4]; exact heap_alloc_new _ _
   have hB24 := below_thru hb3 hb4
   have g24 := (hB24.block _ (block_lt H2.out.2)).trans H2.out.2
   obtain ⟨a0, a1⟩ := cells2_at g24
   obtain ⟨a2, a3⟩ := cells2_at g4
   have hsm := sameMani_any 0 none none 0 0 0 (fun _ => ⟨0, 0, 0, [], none, 0⟩) (fun _ => ⟨0, 0, 0, [], none, 0⟩) W4 (by omega) (.inl rfl) (.inl rfl) (by intro i hi; omega) (by intro i hi; omega)
   have HW4 := hide hW4
   have H4 := hide (below_thru H2.out.1 hB24)
   rw [← hW4] at a0 a1 a2 a3
   clear hr hb3 hb4 g4 hB24 g24 hW4
   go_wp2_with fail
   rw [HW4.out]
   refine hsm.mono ?_
   rintro e w5 ⟨rfl, hb5⟩
   have H5 := hide (below_thru H4.out hb5)
   clear hsm hb5 a0 a1 a2 a3
   go_wp2_with fail
   go_ret
   exact ⟨rfl, H5.out⟩
 | some m =>
   rw [hm] at hgot
   obtain ⟨A1, C1, Q1, rfl, hq1, hst1, h11, h12, h13, h14⟩ := hgot.some'
   obtain ⟨_, hrM, hSM⟩ := getM_is H0.out.2 hm
   obtain ⟨G, ML⟩ := m
   simp only at hq1 hst1 h11 h14 ⊢
   obtain ⟨k, hk⟩ : ∃ k, ML.length = k := ⟨_, rfl⟩
   have hk40 : k ≤ 40 := by have := (rightM_ok hrM hSM).2.2.2; simp only at this; omega
   rw [hk] at hq1 hst1 h11 h14 ⊢
   obtain ⟨W2, hW2⟩ : ∃ W2, w1.alloc (.cells #[.int .i64 G, .slice A1 k C1] 24) = W2 := ⟨_, rfl⟩
   have hb12 : Below w1.heap.size w1 W2 := by rw [← hW2]; exact below_alloc _ _
   have hb2 : Below w.heap.size w W2 := below_thru hb1 hb12
   have g2 : W2.heap[w1.heap.size]? = some (.cells #[.int .i64 G, .slice A1 k C1] 24 (0, 0)) := by rw [← hW2]; exact heap_alloc_new _ _
   have hr := H0.out.1 W2 hb2
   rw [hm] at hr
   have HW2 := hide hW2
   have H2 := hide (And.intro hb2 (And.intro g2 (And.intro (hq1.below hb12) (And.intro hst1 (And.intro h14 (And.intro hk hk40))))))
   clear hb1 hm hW2 hb2 g2 hgot hb12 hq1 hst1 h11 h12 h13 h14 hrM hSM hk hk40
   go_wp2_with fail
   rw [HW2.out]
   refine hr.mono ?_
   rintro e w3 ⟨he, hb3⟩
   obtain ⟨A3, C3, Q3, rfl, hq3, hst3, h31, h32, h33, h34⟩ := GotM.some' he
   simp only at hq3 hst3 h31 h34 ⊢
   rw [H2.out.2.2.2.2.2.1] at hq3 hst3 h31 h34 ⊢
   obtain ⟨W4, hW4⟩ : ∃ W4, w3.alloc (.cells #[.int .i64 G, .slice A3 k C3] 24) = W4 := ⟨_, rfl⟩
   have hb4 : Below w3.heap.size w3 W4 := by rw [← hW4]; exact below_alloc _ _
   have g4 : W4.heap[w3.heap.size]? = some (.cells #[.int .i64 G, .slice A3 k C3] 24 (0, 0)) := by rw [← hW4]; exact heap_alloc_new _ _
   have hB24 := below_thru hb3 hb4
   have g24 := (hB24.block _ (block_lt H2.out.2.1)).trans H2.out.2.1
   obtain ⟨a0, a1⟩ := cells2_at g24
   obtain ⟨a2, a3⟩ := cells2_at g4
   have hsm := sameMani_any G A1 A3 k C1 C3 Q1 Q3 W4 (by have := H2.out.2.2.2.2.2.2; omega) (H2.out.2.2.1.below hB24) (hq3.below hb4) (fun i hi => by have := H2.out.2.2.2.2.1 i hi; omega) (fun i hi => stsN_eq (H2.out.2.2.2.1.trans hst3.symm) i hi)
   have HW4 := hide hW4
   have H4 := hide (below_thru H2.out.1 hB24)
   rw [← hW4] at a0 a1 a2 a3
   clear hr hb3 hb4 g4 hB24 g24 hW4 he hq3 hst3 h31 h32 h33 h34
   go_wp2_with fail
   rw [HW4.out]
   refine hsm.mono ?_
   rintro e w5 ⟨rfl, hb5⟩
   have H5 := hide (below_thru H4.out hb5)
   clear hsm hb5 a0 a1 a2 a3
   go_wp2_with fail
   go_ret
   exact ⟨rfl, H5.out⟩
theorem lent_sbM {W : World} {g n : Nat} {L : List Nat} (hn : L.length = n) (hL : ∀ b ∈ L, b < 256) (hm : n ≤ 1000000) (h : Blk W g (n + 12) (lent (fun i => L.getD i 0) n)) : SB W (some ⟨g, 0, none⟩) (n + 12) L := by
 refine ⟨by omega, by omega, (fun e => by cases e), .inr ⟨g, 0, rfl⟩, BL.mk hL (.inr ⟨g, 0, rfl, fun i hi => ?_⟩)⟩
 have := h.cell (i := i) (by omega)
 unfold lent at this
 rw [if_pos (by omega)] at this
 rw [Nat.zero_add]
 exact this
def PutF (w : World) (F : List Nat) (e : Ending) (w' : World) : Prop := ∃ A C, e = .returned (.tuple #[.slice A F.length C, .int .i64 0]) ∧ SB w' A C F ∧ (∀ k off s, A = some ⟨k, off, s⟩ → w.heap.size ≤ k ∧ k < w'.heap.size) ∧ Below w.heap.size w w'
theorem file_ok {ps : List PT} (h : ∀ p ∈ ps, p.1 < 256 ∧ (∀ b ∈ p.2, b < 256) ∧ p.2.length ≤ 3000) : ∀ p ∈ ps, okPart p := fun p hp => by
 obtain ⟨h1, h2, h3⟩ := h p hp
 exact ⟨h1, h2, by unfold maxNum; omega⟩
theorem part_len (T : Nat) (L : List Nat) (h : L.length ≤ 3000) : (partB (T, L)).length ≤ 3010 := by
 have h2 := encN_len6 (n := L.length) (by unfold maxNum; omega)
 simp only [List.length_append, partB, headP, List.length_cons]
 omega
theorem file1_len (T : Nat) (L : List Nat) (h : L.length ≤ 3000) : sizeB [(T, L)] ≤ 4000 := by
 have h2 := part_len T L h
 simp only [sizeB, bodyB, List.length_append, List.length_nil]
 omega
theorem file2_len (T : Nat) (L : List Nat) (h : L.length ≤ 3000) : sizeB [(1, L), (T, [])] ≤ 8000 := by
 have h2 := part_len 1 L h
 have h3 := part_len T [] (by simp)
 simp only [sizeB, bodyB, List.length_append, List.length_nil]
 omega
theorem putF_of {w : World} {g n : Nat} {P : Nat → Prt} {ps : List PT} (hp : pts P n = ps) (hP : Prts w (some ⟨g, 0, none⟩) n P) (hn : n ≤ 10) (hs : sizeB ps ≤ 8000) (hok : ∀ p ∈ ps, okPart p) :
  Calls Tryz.prog 20 #[.slice (some ⟨g, 0, none⟩) n n] w (PutF w (fileB ps)) := by
 subst hp
 refine (refPut_any (some ⟨g, 0, none⟩) n n P w hP (by omega) (by omega)).mono ?_
 rintro e w' ⟨v, rfl, ho, hB⟩
 rw [← fileB_len] at ho
 obtain ⟨_, A, C, rfl, hs, hat⟩ := SB.own ho (fileB_lt hok)
 exact ⟨A, C, rfl, hs, fun k off s e => (hat k off s e).2, hB⟩
theorem put1M_any (T g : Nat) (a : Option Addr) (cap : Nat) (L : List Nat) (w : World) (hT : T < 256) (hL : L.length ≤ 3000) (hS : SB w a cap L) (h7 : w.heap[g]? = some (.cells #[.int .u8 (T : Nat), .slice a L.length cap] 40 (0, 0))) :
  Calls Tryz.prog 20 #[.slice (some ⟨g, 0, none⟩) 1 1] w (PutF w (fileB [(T, L)])) := by
 refine putF_of (P := fun _ => ⟨T, L, a, cap⟩) rfl (.inr ⟨g, 0, rfl, fun i hi => ?_⟩) (by omega) (by have := file1_len T L hL; omega) (file_ok (fun p hp => by
  rw [List.mem_singleton.1 hp]
  exact ⟨hT, hS.b.lt, hL⟩))
 obtain rfl : i = 0 := by omega
 obtain ⟨c0, c1⟩ := cells2_at h7
 exact ⟨⟨c0, c1⟩, ⟨hT, hS.l, hS.m, hS.n, hS.o, hS.b⟩⟩
theorem put2M_any (T g : Nat) (a : Option Addr) (cap : Nat) (L : List Nat) (w : World) (hT : T < 256) (hL : L.length ≤ 3000) (hS : SB w a cap L) (h7 : w.heap[g]? = some (.cells #[.int .u8 1, .slice a L.length cap, .int .u8 (T : Nat), .slice none 0 0] 40 (0, 0))) :
  Calls Tryz.prog 20 #[.slice (some ⟨g, 0, none⟩) 2 2] w (PutF w (fileB [(1, L), (T, [])])) := by
 refine putF_of (P := fun i => if i = 0 then ⟨1, L, a, cap⟩ else ⟨T, [], none, 0⟩) rfl (.inr ⟨g, 0, rfl, fun i hi => ?_⟩) (by omega) (by have := file2_len T L hL; omega) (file_ok (fun p hp => by
  rcases List.mem_cons.1 hp with rfl | hp
  ·exact ⟨show (1 : Nat) < 256 by omega, hS.b.lt, hL⟩
  ·rw [List.mem_singleton.1 hp]
   exact ⟨hT, (by intro b hb; cases hb), by simp⟩))
 obtain ⟨c0, c1, c2, c3⟩ := cells4_at h7
 rcases (show i = 0 ∨ i = 1 by omega) with rfl | rfl
 ·exact ⟨⟨c0, c1⟩, ⟨show (1 : Nat) < 256 by omega, hS.l, hS.m, hS.n, hS.o, hS.b⟩⟩
 ·exact ⟨⟨c2, c3⟩, ⟨hT, Nat.le_refl _, by show (0 : Nat) ≤ _; omega, fun _ => rfl, .inl rfl, BL.mk (by intro b hb; cases hb) (.inl rfl)⟩⟩
theorem gets25_any (a : Option Addr) (n cap : Nat) (L : List Nat) (tag : Nat) (w : World) (hn : L.length = n) (hS : SB w a cap L) (ht : tag < 256) :
  Calls Tryz.prog 4 #[.slice a n cap, .int .u8 (tag : Nat)] w fun e w' => e = .returned (.bool true) ∧ Below w.heap.size w w' := by
 by_cases h1 : 3000 < n
 ·have hz : (3000 : Int) < (n : Int) := by omega
  clear hS hn ht
  go_enter Tryz.func4, Tryz.ntmps4
  go_wp2_with fail
  refine (awake25_any w).mono ?_
  rintro e w1 ⟨rfl, hB1⟩
  have H1 := hide hB1
  clear hB1
  go_wp2_with fail
  go_ret
  exact ⟨rfl, H1.out⟩
 have hz : (n : Int) ≤ 3000 := by omega
 have hbt : Byt w a n (fun i => L.getD i 0) := by have := hS.b; unfold BL at this; rw [hn] at this; exact this
 have hlb := lentBytes_any a n cap (fun i => L.getD i 0) w (by omega) hS.n (by rw [← hn]; exact hS.l) hbt
 have hlt := hS.b.lt
 have H0 := hide (And.intro hn (And.intro hS (And.intro ht (And.intro hbt hlt))))
 have HN := hide (show n ≤ 3000 by omega)
 clear hn hS ht hbt hlt
 go_enter Tryz.func4, Tryz.ntmps4
 go_wp2_with fail
 refine hlb.mono ?_
 rintro e w1 ⟨g, rfl, hg, hblk, hB1⟩
 obtain ⟨hn, hS, ht, hbt, hlt⟩ := H0.out
 have hin := lent_sbM hn hlt (by have := HN.out; omega) hblk
 obtain ⟨W2, hW2⟩ : ∃ W2, w1.alloc (.cells #[.int .u8 1, .slice a n cap] 40) = W2 := ⟨_, rfl⟩
 have hb2 : Below w1.heap.size w1 W2 := by rw [← hW2]; exact below_alloc _ _
 have g2 : W2.heap[w1.heap.size]? = some (.cells #[.int .u8 1, .slice a n cap] 40 (0, 0)) := by rw [← hW2]; exact heap_alloc_new _ _
 have hB2 := below_thru hB1 hb2
 have hp1 := put1M_any 1 w1.heap.size a cap L W2 (by omega) (by rw [hn]; exact HN.out) (hS.below hB2) (by rw [hn]; exact g2)
 obtain ⟨F1, hF1⟩ : ∃ F, fileB [(1, L)] = F := ⟨_, rfl⟩
 have hl1 : F1.length ≤ 8000 := by rw [← hF1, fileB_len]; have := file1_len 1 L (by rw [hn]; exact HN.out); omega
 rw [hF1] at hp1
 have H1 := hide (And.intro hB1 (And.intro hin (And.intro hblk (And.intro hB2 hl1))))
 have HW2 := hide hW2
 clear hlb hB1 hin hblk hb2 g2 hB2 hF1 hW2 hn hS ht hbt hlt hl1
 go_wp2_with fail
 rw [HW2.out]
 refine hp1.mono ?_
 rintro e w3 ⟨A1, C1, rfl, hs1, hat1, hB3⟩
 obtain ⟨hn, hS, ht, hbt, hlt⟩ := H0.out
 have hB03 := below_thru H1.out.2.2.2.1 hB3
 obtain ⟨W4, hW4⟩ : ∃ W4, w3.alloc (.cells #[.int .u8 (tag : Nat), .slice a n cap] 40) = W4 := ⟨_, rfl⟩
 have hb4 : Below w3.heap.size w3 W4 := by rw [← hW4]; exact below_alloc _ _
 have g4 : W4.heap[w3.heap.size]? = some (.cells #[.int .u8 (tag : Nat), .slice a n cap] 40 (0, 0)) := by rw [← hW4]; exact heap_alloc_new _ _
 have hB4 := below_thru hB03 hb4
 have hp2 := put1M_any tag w3.heap.size a cap L W4 ht (by rw [hn]; exact HN.out) (hS.below hB4) (by rw [hn]; exact g4)
 obtain ⟨F2, hF2⟩ : ∃ F, fileB [(tag, L)] = F := ⟨_, rfl⟩
 have hl2 : F2.length ≤ 8000 := by rw [← hF2, fileB_len]; have := file1_len tag L (by rw [hn]; exact HN.out); omega
 rw [hF2] at hp2
 obtain ⟨m1, hm1⟩ : ∃ m, F1.length = m := ⟨_, rfl⟩
 rw [hm1]
 have H3 := hide (And.intro hs1 (And.intro hat1 (And.intro hm1 (And.intro (below_thru (below_thru (Below.refl w1.heap.size w1) (by rw [← HW2.out]; exact below_alloc _ _)) hB3) (And.intro hB4 hl2)))))
 have HW4 := hide hW4
 clear hp1 hs1 hat1 hB3 hB03 hb4 g4 hB4 hF2 hW4 hn hS ht hbt hlt hl2 hm1
 go_wp2_with fail
 rw [HW4.out]
 refine hp2.mono ?_
 rintro e w5 ⟨A2, C2, rfl, hs2, hat2, hB5⟩
 obtain ⟨hn, hS, ht, hbt, hlt⟩ := H0.out
 have hB05 := below_thru H3.out.2.2.2.2.1 hB5
 have hb34 : Below w3.heap.size w3 W4 := by rw [← HW4.out]; exact below_alloc _ _
 have hB35 := below_thru hb34 hB5
 obtain ⟨W6, hW6⟩ : ∃ W6, w5.alloc (.cells #[.int .u8 1, .slice a n cap, .int .u8 (tag : Nat), .slice none 0 0] 40) = W6 := ⟨_, rfl⟩
 have hb6 : Below w5.heap.size w5 W6 := by rw [← hW6]; exact below_alloc _ _
 have g6 : W6.heap[w5.heap.size]? = some (.cells #[.int .u8 1, .slice a n cap, .int .u8 (tag : Nat), .slice none 0 0] 40 (0, 0)) := by rw [← hW6]; exact heap_alloc_new _ _
 have hB6 := below_thru hB05 hb6
 have hp3 := put2M_any tag w5.heap.size a cap L W6 ht (by rw [hn]; exact HN.out) (hS.below hB6) (by rw [hn]; exact g6)
 obtain ⟨F3, hF3⟩ : ∃ F, fileB [(1, L), (tag, [])] = F := ⟨_, rfl⟩
 have hl3 : F3.length ≤ 8000 := by rw [← hF3, fileB_len]; have := file2_len tag L (by rw [hn]; exact HN.out); omega
 rw [hF3] at hp3
 obtain ⟨m2, hm2⟩ : ∃ m, F2.length = m := ⟨_, rfl⟩
 rw [hm2]
 have H5 := hide (And.intro hs2 (And.intro hm2 (And.intro hB35 (And.intro hB6 hl3))))
 have HW6 := hide hW6
 clear hp2 hs2 hat2 hB5 hB05 hb34 hB35 hb6 g6 hB6 hF3 hW6 hn hS ht hbt hlt hl3 hm2
 go_wp2_with fail
 rw [HW6.out]
 refine hp3.mono ?_
 rintro e w7 ⟨A3, C3, rfl, hs3, hat3, hB7⟩
 have hb56 : Below w5.heap.size w5 W6 := by rw [← HW6.out]; exact below_alloc _ _
 have hB57 := below_thru hb56 hB7
 have hB37 := below_thru H5.out.2.2.1 hB57
 have hB07 := below_thru H5.out.2.2.2.1 hB7
 have hs17 := H3.out.1.below hB37
 obtain ⟨m3, hm3⟩ : ∃ m, F3.length = m := ⟨_, rfl⟩
 rw [hm3]
 have hx := mget_any A1 C1 m1 F1 w7 H3.out.2.2.1.symm hs17 (by have := H1.out.2.2.2.2; have := H3.out.2.2.1; omega)
 have hF1lt := hs17.b.lt
 have H7 := hide (And.intro hs3 (And.intro hm3 (And.intro hB57 (And.intro hB37 (And.intro hB07 (And.intro hs17 hF1lt))))))
 clear hp3 hs3 hat3 hB7 hb56 hB57 hB37 hB07 hs17 hF1lt hm3
 go_wp2_with fail
 refine hx.mono ?_
 rintro e w8 ⟨hgx, hB8⟩
 obtain ⟨G0, AX, nX, CX, xs0, E0, rfl, hnX, ox, okx, l0⟩ := GotM.own H7.out.2.2.2.2.2.2 hgx
 obtain ⟨W9, hW9⟩ : ∃ W9, w8.alloc (.cells #[.int .i64 G0, .slice AX nX CX] 24) = W9 := ⟨_, rfl⟩
 have hb9 : Below w8.heap.size w8 W9 := by rw [← hW9]; exact below_alloc _ _
 have g9 : W9.heap[w8.heap.size]? = some (.cells #[.int .i64 G0, .slice AX nX CX] 24 (0, 0)) := by rw [← hW9]; exact heap_alloc_new _ _
 have hB79 := below_thru hB8 hb9
 have hs19 := H7.out.2.2.2.2.2.1.below hB79
 have hy := mget_any A1 C1 m1 F1 W9 H3.out.2.2.1.symm hs19 (by have := H1.out.2.2.2.2; have := H3.out.2.2.1; omega)
 have H9 := hide (And.intro hnX (And.intro ox (And.intro okx (And.intro l0 (And.intro hB79 (And.intro g9 hB8.size))))))
 have HW9 := hide hW9
 clear hx hgx hB8 hnX ox okx l0 hb9 g9 hB79 hs19 hW9
 go_wp2_with fail
 rw [HW9.out]
 refine hy.mono ?_
 rintro e w10 ⟨hgy, hB10⟩
 obtain ⟨G1, AY, nY, CY, xs1, E1, rfl, hnY, oy, oky, l1⟩ := GotM.own H7.out.2.2.2.2.2.2 hgy
 obtain ⟨W11, hW11⟩ : ∃ W11, w10.alloc (.cells #[.int .i64 G1, .slice AY nY CY] 24) = W11 := ⟨_, rfl⟩
 have hb11 : Below w10.heap.size w10 W11 := by rw [← hW11]; exact below_alloc _ _
 have g11 : W11.heap[w10.heap.size]? = some (.cells #[.int .i64 G1, .slice AY nY CY] 24 (0, 0)) := by rw [← hW11]; exact heap_alloc_new _ _
 have hB911 := below_thru hB10 hb11
 have hB711 := below_thru H9.out.2.2.2.2.1 hB911
 have hB011 := below_thru H7.out.2.2.2.2.1 hB711
 have hB111 : Below w1.heap.size w1 W11 := below_thru (below_thru H3.out.2.2.2.1 H7.out.2.2.2.1) hB711
 have hg1 := gets_any' (some ⟨g, 0, none⟩) (n + 12) n L W11 H0.out.1 (H1.out.2.1.below hB111) (by have := HN.out; omega)
 have H11 := hide (And.intro hnY (And.intro oy (And.intro oky (And.intro l1 (And.intro hB911 (And.intro g11 (And.intro hB711 (And.intro hB011 (And.intro hB111 hB10.size)))))))))
 have HW11 := hide hW11
 clear hy hgy hB10 hnY oy oky l1 hb11 g11 hB911 hB711 hB011 hB111 hW11
 go_wp2_with fail
 rw [HW11.out]
 refine hg1.mono ?_
 rintro e w12 ⟨rfl, hB12⟩
 have hs112 := (H7.out.2.2.2.2.2.1.below H11.out.2.2.2.2.2.2.1).below hB12
 have hg2 := gets_any' A1 C1 m1 F1 w12 H3.out.2.2.1 hs112 (by have := H1.out.2.2.2.2; have := H3.out.2.2.1; omega)
 have H12 := hide hB12
 clear hg1 hs112 hB12
 go_wp2_with fail
 refine hg2.mono ?_
 rintro e w13 ⟨rfl, hB13⟩
 have hB1113 := below_thru H12.out hB13
 have hs213 := (((H5.out.1.below H7.out.2.2.1).below H11.out.2.2.2.2.2.2.1).below hB1113)
 have hg3 := gets_any' A2 C2 m2 F2 w13 H5.out.2.1 hs213 (by have := H3.out.2.2.2.2.2; have := H5.out.2.1; omega)
 have H13 := hide hB1113
 clear hg2 hs213 hB13 hB1113
 go_wp2_with fail
 refine hg3.mono ?_
 rintro e w14 ⟨rfl, hB14⟩
 have hB1114 := below_thru H13.out hB14
 have hs314 := ((H7.out.1.below H11.out.2.2.2.2.2.2.1).below hB1114)
 have hg4 := gets_any' A3 C3 m3 F3 w14 H7.out.2.1 hs314 (by have := H5.out.2.2.2.2; have := H7.out.2.1; omega)
 have H14 := hide hB1114
 clear hg3 hs314 hB14 hB1114
 go_wp2_with fail
 refine hg4.mono ?_
 rintro e w15 ⟨rfl, hB15⟩
 have hB1115 := below_thru H14.out hB15
 have hB115 := below_thru H11.out.2.2.2.2.2.2.2.2.1 hB1115
 have hB015 := below_thru H1.out.1 hB115
 have hkb := keptBytes_any g a n cap (fun i => L.getD i 0) w15 (by have := HN.out; omega) (H1.out.2.2.1.below hB115) (H0.out.2.2.2.1.below hB015)
 have H15 := hide (And.intro hB1115 hB015)
 clear hg4 hB15 hB1115 hB115 hB015
 go_wp2_with fail
 refine hkb.mono ?_
 rintro e w16 ⟨rfl, hB16⟩
 have hB1116 := below_thru H15.out.1 hB16
 have hB016 := below_thru H15.out.2 hB16
 have hgX := (hB1116.block _ (block_lt ((H11.out.2.2.2.2.1.block _ (block_lt H9.out.2.2.2.2.2.1)).trans H9.out.2.2.2.2.2.1))).trans ((H11.out.2.2.2.2.1.block _ (block_lt H9.out.2.2.2.2.2.1)).trans H9.out.2.2.2.2.2.1)
 have hgY := (hB1116.block _ (block_lt H11.out.2.2.2.2.2.1)).trans H11.out.2.2.2.2.2.1
 obtain ⟨x0, x1⟩ := cells2_at hgX
 obtain ⟨y0, y1⟩ := cells2_at hgY
 obtain ⟨WA, hWA⟩ : ∃ WA, w16.alloc (.cells #[.int .i64 G0, .slice AX nX CX] 24) = WA := ⟨_, rfl⟩
 have hbA : Below w16.heap.size w16 WA := by rw [← hWA]; exact below_alloc _ _
 have hsA : WA.heap.size = w16.heap.size + 1 := by rw [← hWA]; simp
 have gA : WA.heap[w16.heap.size]? = some (.cells #[.int .i64 G0, .slice AX nX CX] 24 (0, 0)) := by rw [← hWA]; exact heap_alloc_new _ _
 obtain ⟨WB, hWB⟩ : ∃ WB, WA.alloc (.cells #[.int .i64 G1, .slice AY nY CY] 24) = WB := ⟨_, rfl⟩
 have hbB : Below WA.heap.size WA WB := by rw [← hWB]; exact below_alloc _ _
 have hsB : WB.heap.size = w16.heap.size + 2 := by rw [← hWB]; simp; omega
 have gB : WB.heap[w16.heap.size + 1]? = some (.cells #[.int .i64 G1, .slice AY nY CY] 24 (0, 0)) := by rw [← hsA, ← hWB]; exact heap_alloc_new _ _
 obtain ⟨WC, hWC⟩ : ∃ WC, WB.alloc (.cells #[.slice (some ⟨w16.heap.size, 0, none⟩) 1 1, .slice (some ⟨w16.heap.size + 1, 0, none⟩) 1 1] 46) = WC := ⟨_, rfl⟩
 have hbC : Below WB.heap.size WB WC := by rw [← hWC]; exact below_alloc _ _
 have gC : WC.heap[w16.heap.size + 2]? = some (.cells #[.slice (some ⟨w16.heap.size, 0, none⟩) 1 1, .slice (some ⟨w16.heap.size + 1, 0, none⟩) 1 1] 46 (0, 0)) := by rw [← hsB, ← hWC]; exact heap_alloc_new _ _
 have hBac := below_thru hbA (below_thru hbB hbC)
 have hB11c := below_thru hB1116 hBac
 have hX := (H9.out.2.1.below (by rw [← HW9.out]; exact below_alloc _ _ : Below w8.heap.size w8 W9)).below H11.out.2.2.2.2.1
 have hXc := hX.below hB11c
 have hY := (H11.out.2.1.below (by rw [← HW11.out]; exact below_alloc _ _ : Below w10.heap.size w10 W11)).below hB11c
 have gAc := (hbC.block _ (by omega)).trans ((hbB.block _ (by omega)).trans gA)
 have gBc := (hbC.block _ (by omega)).trans gB
 have hnX := H9.out.1
 have hnY := H11.out.1
 have hXlt : (∀ k, (Value.slice AX xs0.length CX).ownBlock = some k → k < W9.heap.size) ∧ ∀ x ∈ xs0, ∀ k, x.2.ownBlock = some k → k < W9.heap.size := by
  have h8 : w8.heap.size ≤ W9.heap.size := by rw [← HW9.out]; simp
  exact ⟨fun k hk => by have := (owns_cells H9.out.2.1.1 k hk).1; omega, fun x hx k hk => by have := (owns_cells (H9.out.2.1.2.1 x hx) k hk).1; omega⟩
 have hap := apartManis_any (w16.heap.size + 2) w16.heap.size (w16.heap.size + 1) G0 G1 (.slice AX xs0.length CX) (.slice AY xs1.length CY) xs0 xs1 w7.heap.size W9.heap.size WC gC (by rw [← hnX]; exact gAc) (by rw [← hnY]; exact gBc) (by omega) hXc hY H9.out.2.2.1 H11.out.2.2.1 H9.out.2.2.2.1 H11.out.2.2.2.1 hXlt
 have hs1c := ((H7.out.2.2.2.2.2.1.below H11.out.2.2.2.2.2.2.1).below hB1116).below hBac
 have hge : ∀ k, (k = w16.heap.size ∨ k = w16.heap.size + 1 ∨ ShOwn (.slice AX xs0.length CX) xs0 k ∨ ShOwn (.slice AY xs1.length CY) xs1 k) → w7.heap.size ≤ k := fun k hk => by
  have s1 := hB1116.size
  have s2 := H11.out.2.2.2.2.2.2.1.size
  have s3 := H9.out.2.2.2.2.1.size
  rcases hk with e | e | (e | ⟨x, hx, e⟩) | (e | ⟨x, hx, e⟩)
  ·omega
  ·omega
  ·exact (owns_cells hXc.1 k e).2.1
  ·exact (owns_cells (hXc.2.1 x hx) k e).2.1
  ·have := (owns_cells hY.1 k e).2.1; omega
  ·have := (owns_cells (hY.2.1 x hx) k e).2.1; omega
 have H16 := hide (And.intro (below_thru hB016 hBac) (And.intro hs1c hge))
 have HWS := hide (And.intro hWA (And.intro hWB (And.intro hWC (And.intro hsA hsB))))
 have x0' := cell_thru x0 hbA
 have x1' := cell_thru x1 hbA
 have y0' := cell_thru y0 hbA
 have y1' := cell_thru y1 hbA
 rw [← hWA] at x0' x1' y0' y1'
 clear hkb hB16 hB1116 hB016 hgX hgY hbA gA hbB gB hbC gC hBac hB11c hX hXc hY gAc gBc hnX hnY hXlt hs1c hge hWA hWB hWC
 go_wp2_with fail
 rw [HWS.out.1, HWS.out.2.1, HWS.out.2.2.1]
 refine hap.mono ?_
 rintro e w17 ⟨rfl, hk17⟩
 have s37 := H7.out.2.2.2.1.size
 have s07 := H7.out.2.2.2.2.1.size
 have hs117 := H16.out.2.1.kept hk17 (fun k off s e _ hF => by have h1 := (H3.out.2.1 k off s e).2; have h2 := H16.out.2.2 k hF; omega)
 have hB17 := H16.out.1.trans (hk17.below (B := w.heap.size) (fun k hk => by have := H16.out.2.2 k hk; omega) H16.out.1.size)
 have hg5 := gets_any' A1 C1 m1 F1 w17 H3.out.2.2.1 hs117 (by have := H1.out.2.2.2.2; have := H3.out.2.2.1; omega)
 have H17 := hide hB17
 clear hap hk17 hs117 hB17 x0 x1 y0 y1 x0' x1' y0' y1'
 go_wp2_with fail
 refine hg5.mono ?_
 rintro e w18 ⟨rfl, hB18⟩
 have haw := awake25_any w18
 have H18 := hide (below_thru H17.out hB18)
 clear hg5 hB18
 go_wp2_with fail
 refine haw.mono ?_
 rintro e w19 ⟨rfl, hB19⟩
 have H19 := hide (below_thru H18.out hB19)
 clear haw hB19
 go_wp2_with fail
 go_ret
 exact ⟨rfl, H19.out⟩
end Go.Proofs.YtppdbinppibjhaaGreatDoor
