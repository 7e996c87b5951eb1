/-
  The program's reader of parts in memory; look, got, read; fixed numbers and their bytes.
-/
import Derived.Test.YtppdbinppibjhaaGreatDoorRdAlls
import Derived.Test.YtppdbinppibjhaaGreatDoorWrRef
import Derived.Test.YtppdbinppibjhaaGreatDoorFMath
import Derived.BigQuiet
set_option maxHeartbeats 2000000
set_option maxRecDepth 100000
set_option linter.unusedVariables false
set_option linter.unusedSimpArgs false
namespace Go.Proofs.YtppdbinppibjhaaGreatDoor
open Go.RowKit
structure SB (w : World) (A : Option Addr) (C : Nat) (L : List Nat) : Prop where
 l : L.length ≤ C
 m : C ≤ 9223372036854775807
 n : A = none → C = 0
 o : C = 0 ∨ ∃ b off, A = some ⟨b, off, none⟩
 b : BL w A L
theorem SB.at {w : World} {A : Option Addr} {C : Nat} {L : List Nat} (h : SB w A C L) : ∀ g off s, A = some ⟨g, off, s⟩ → 0 < L.length → g < w.heap.size := by
 intro g off s e h0
 obtain ⟨b, o, e', hc⟩ := h.b.cell h0
 rw [e] at e'; cases e'
 exact block_lt_of_cell (hc 0 h0)
theorem SB.kept {w w' : World} {A : Option Addr} {C : Nat} {L : List Nat} {F : Nat → Prop} (h : SB w A C L) (hk : Kept F w w') (hF : ∀ g off s, A = some ⟨g, off, s⟩ → 0 < L.length → ¬ F g) : SB w' A C L :=
 ⟨h.l, h.m, h.n, h.o, h.b.kept0 hk hF⟩
theorem SB.below {w w' : World} {A : Option Addr} {C : Nat} {L : List Nat} (h : SB w A C L) (hb : Below w.heap.size w w') : SB w' A C L := ⟨h.l, h.m, h.n, h.o, h.b.below hb⟩
theorem SB.cells {w w' : World} {A : Option Addr} {C : Nat} {L : List Nat} (h : SB w A C L) (hb : CellsKept w w') : SB w' A C L := ⟨h.l, h.m, h.n, h.o, h.b.cells hb⟩
theorem SB.own {w : World} {B n : Nat} {v : Value} {L : List Nat} (h : w.ownsRow B 5 1 v n (lc L)) (hL : ∀ b ∈ L, b < 256) : n = L.length ∧ ∃ A C, v = .slice A L.length C ∧ SB w A C L ∧ (∀ g off s, A = some ⟨g, off, s⟩ → v.ownBlock = some g ∧ B ≤ g ∧ g < w.heap.size) := by
 obtain ⟨hn, A, C, hv, h1, h2, h3, h4, h5, h6⟩ := owns_bl h hL
 subst hn
 refine ⟨rfl, A, C, hv, ⟨h1, h2, h3, ?_, h5⟩, fun g off s e => ?_⟩
 ·rcases h4 with h | ⟨b, h⟩
  ·exact .inl h
  ·exact .inr ⟨b, 0, h⟩
 ·have := h6 g off s e
  exact ⟨this.1, this.2.2.1, this.2.2.2⟩
theorem SB.cut {w : World} {A : Option Addr} {C : Nat} {L : List Nat} (h : SB w A C L) (k : Nat) (hk : k ≤ L.length) : ∃ A1 A2 : Option Addr,
  (∀ wx, (Instr.slice 28 (.slice A L.length C) none (some (.int .i64 (k : Int))) none).run Tryz.prog wx = .ok (.slice A1 k C) wx) ∧
  (∀ wx, (Instr.slice 28 (.slice A L.length C) (some (.int .i64 (k : Int))) none none).run Tryz.prog wx = .ok (.slice A2 (L.length - k) (C - k)) wx) ∧
  SB w A1 C (L.take k) ∧ SB w A2 (C - k) (L.drop k) ∧ (∀ g off s, A1 = some ⟨g, off, s⟩ → ∃ off' s', A = some ⟨g, off', s'⟩) ∧ (∀ g off s, A2 = some ⟨g, off, s⟩ → ∃ off' s', A = some ⟨g, off', s'⟩) := by
 obtain ⟨A1, A2, s1, s2, b1, b2, n1, n2, q2, g1, g2⟩ := slices_bl A k C L w hk h.l h.o h.n h.b
 have hC := h.l
 have hm := h.m
 refine ⟨A1, A2, s1, s2, ⟨by rw [List.length_take]; omega, hm, n1, ?_, b1⟩, ⟨by rw [List.length_drop]; omega, by omega, n2, q2, b2⟩, g1, g2⟩
 rcases h.o with h0 | ⟨b, off, e⟩
 ·exact .inl h0
 ·cases A1 with
  | none => exact .inl (n1 rfl)
  | some a =>
    obtain ⟨g, o, s⟩ := a
    by_cases hC0 : C = 0
    ·exact .inl hC0
    ·right
     have h1 := s1 w
     subst e
     have ht : Tryz.prog.underlying 28 = some (.slice (Tryz.prog.elem 28)) := by kernel_rfl
     have hs : ∀ wx, (sizeOf (Tryz.prog.elem 28)).run Tryz.prog wx = .ok 1 wx := fun wx => by kernel_rfl
     rw [run_slice_h w _ _ L.length C ht .i64 (k : Int) (by omega) (by omega), hs] at h1
     simp [Result.andThen, sliced, hC0, Addr.add] at h1
     exact ⟨g, o, by rw [h1.2.2]⟩
theorem SB.mid {w : World} {A : Option Addr} {C : Nat} {L : List Nat} (h : SB w A C L) (lo m : Nat) (h2 : lo + m ≤ L.length) : ∃ A2 : Option Addr,
  (∀ wx, (Instr.slice 28 (.slice A L.length C) (some (.int .i64 (lo : Int))) (some (.int .i64 ((lo : Int) + (m : Int)))) none).run Tryz.prog wx = .ok (.slice A2 m (C - lo)) wx) ∧
  SB w A2 (C - lo) ((L.drop lo).take m) ∧ (∀ g off s, A2 = some ⟨g, off, s⟩ → ∃ off' s', A = some ⟨g, off', s'⟩) := by
 have ht : Tryz.prog.underlying 28 = some (.slice (Tryz.prog.elem 28)) := by kernel_rfl
 have hs : ∀ wx, (sizeOf (Tryz.prog.elem 28)).run Tryz.prog wx = .ok 1 wx := fun wx => by kernel_rfl
 have hl := h.l
 have hm := h.m
 have hl2 : ((L.drop lo).take m).length = m := by rw [List.length_take, List.length_drop]; omega
 refine ⟨if C = lo then A else A.map (·.add (lo * 1)), fun wx => ?_, ?_⟩
 ·rw [run_slice_lh wx _ A L.length C ht .i64 .i64 (lo : Int) ((lo : Int) + (m : Int)) (by omega) (by omega) (by omega), hs]
  have e : ((lo : Int) + (m : Int)).toNat = lo + m := by omega
  simp [Result.andThen, sliced, e]
 ·rcases h.o with h0 | ⟨b, off, rfl⟩
  ·have hL0 : L = [] := List.eq_nil_of_length_eq_zero (by omega)
   subst hL0
   have : C = lo := by simp at h2; omega
   rw [if_pos this]
   refine ⟨⟨by rw [hl2]; simp at h2; omega, by omega, fun _ => by omega, .inl (by omega), by simpa using h.b⟩, fun g o s e => ⟨o, s, e⟩⟩
  ·by_cases hck : C = lo
   ·have hm0 : m = 0 := by omega
    subst hm0
    rw [if_pos hck]
    refine ⟨⟨by rw [hl2]; omega, by omega, fun _ => by omega, .inl (by omega), by rw [List.take_zero]; exact BL.mk (by simp) (.inl rfl)⟩, fun g o s e => ⟨o, s, e⟩⟩
   ·rw [if_neg hck]
    have e : (some (⟨b, off, none⟩ : Addr)).map (·.add (lo * 1)) = some ⟨b, off + lo, none⟩ := by
     simp only [Option.map_some, Nat.mul_one]
     unfold Addr.add
     split
     ·rename_i e; rw [e, Nat.add_zero]
     ·rfl
    rw [e]
    exact ⟨⟨by rw [hl2]; omega, by omega, (fun e => by cases e), .inr ⟨b, off + lo, rfl⟩, (h.b.drop lo (by omega)).take m⟩, fun g o s e => by cases e; exact ⟨off, none, rfl⟩⟩
def FR (w : World) (p : Nat) (pv : Value) (A : Option Addr) (C : Nat) (L : List Nat) (seen N : Nat) (S : Option (List Nat)) : Prop :=
 w.heap[p]? = some (.cells #[pv, .slice A L.length C, .int .i64 (seen : Nat)] 170 (0, 0)) ∧ SB w A C L ∧ (∀ g off s, A = some ⟨g, off, s⟩ → 0 < L.length → g < N ∧ g ≠ p) ∧ p < N ∧ N ≤ w.heap.size ∧
  RP w pv (fun k => N ≤ k ∧ k < w.heap.size) S
theorem FR.kept {w w' : World} {p : Nat} {pv : Value} {A : Option Addr} {C : Nat} {L : List Nat} {seen N : Nat} {S : Option (List Nat)} {G : Nat → Prop} (h : FR w p pv A C L seen N S) (hk : Kept G w w')
  (hG : ∀ k, k < w.heap.size → G k → k ≠ p ∧ k < N ∧ ∀ g o s, A = some ⟨g, o, s⟩ → 0 < L.length → k ≠ g) : FR w' p pv A C L seen N S := by
 obtain ⟨h0, h1, h2, h3, h4, h5⟩ := h
 have hs := hk.size
 refine ⟨hk.heap h0 (fun e => (hG p (block_lt h0) e).1 rfl), h1.kept hk (fun g o s e hl hg => (hG g (by have := (h2 g o s e hl).1; omega) hg).2.2 g o s e hl rfl), h2, h3, by omega, (h5.kept (hk.mono (G := fun k => G k ∧ k < w.heap.size) (fun k h1 h2 => ⟨h2, h1⟩)) (fun k hk hg => ?_)).mono (fun k hk => ⟨hk.1, by omega⟩)⟩
 have := (hG k hg.2 hg.1).2.1
 omega
theorem FR.wire {w w' : World} {p : Nat} {pv : Value} {A : Option Addr} {C : Nat} {L : List Nat} {seen N : Nat} {S S' : Option (List Nat)} (h : FR w p pv A C L seen N S) (hk : Kept (own1 pv) w w') (hR : RP w' pv (fun k => N ≤ k ∧ k < w.heap.size) S') : FR w' p pv A C L seen N S' := by
 obtain ⟨h0, h1, h2, h3, h4, h5⟩ := h
 have hs := hk.size
 have hN : ∀ k, own1 pv k → N ≤ k := fun k hk => (h5.own k hk).1
 exact ⟨hk.heap h0 (fun e => by have := hN p e; omega), h1.kept hk (fun g o s e hl hg => by have := hN g hg; have := (h2 g o s e hl).1; omega), h2, h3, by omega, hR.mono (fun k hk => ⟨hk.1, by omega⟩)⟩
theorem got_any (p : Nat) (pv : Value) (A : Option Addr) (C : Nat) (L : List Nat) (seen N : Nat) (S : Option (List Nat)) (w : World) (h : FR w p pv A C L seen N S) (hs : szO S ≤ seen) (hm : seen ≤ 140737488355328) :
  Calls Tryz.prog 183 #[.pointer (some ⟨p, 0, none⟩)] w fun e w' => e = .returned (.int .i64 ((seen - szO S : Nat) : Int)) ∧ ∃ n, w' = w.drewN n := by
 obtain ⟨h0, h1, h2, h3, h4, h5⟩ := h
 obtain ⟨c0, c1, c2, f0, f1, f2⟩ := cells3 h0
 have hl := fun (W : World) (hW : RP W pv (fun k => N ≤ k ∧ k < w.heap.size) S) => (left_any pv _ S W hW).mono (R' := fun e w' => e = .returned (.int .i64 (szO S : Nat)) ∧ w' = W) (fun e w' h => ⟨h.1, h.2.symm⟩)
 obtain ⟨pa, rfl⟩ := h5.form
 have H5 := hide h5
 clear h0 h1 h2 h3 h4 h5
 generalize szO S = z at *
 go_enter Tryz.func183, Tryz.ntmps183
 go_upto_region 1 with fail
 go_quiet ((go_at_call 61; exact Calls.quiet_of_same (hl _ H5.out)))
 all_goals
  go_wp2_with fail
  go_ret
  exact ⟨ret_int (by omega), _, rfl⟩
theorem look_any (p : Nat) (A : Option Addr) (C : Nat) (L : List Nat) (seen0 : Nat) (pv0 : Value) (m : Nat) (w : World) (h0 : w.heap[p]? = some (.cells #[pv0, .slice A L.length C, .int .i64 (seen0 : Nat)] 170 (0, 0)))
  (hS : SB w A C L) (hA : ∀ g off s, A = some ⟨g, off, s⟩ → 0 < L.length → g ≠ p) (hL : L.length ≤ 140737488355328) :
  Calls Tryz.prog 157 #[.pointer (some ⟨p, 0, none⟩), .int .i64 (m : Nat)] w fun e w' => e = .returned (.tuple #[]) ∧ (∃ pv, FR w' p pv A C L (min m L.length) w.heap.size (some (L.take (min m L.length)))) ∧ Kept (fun k => k = p) w w' := by
 obtain ⟨k, hk⟩ : ∃ k, min m L.length = k := ⟨_, rfl⟩
 have hkl : k ≤ L.length := by omega
 have hmin : min (m : Int) (L.length : Int) = (k : Int) := by omega
 have hpl : p < w.heap.size := block_lt h0
 obtain ⟨A1, A2, s1, s2, b1, b2, g1, g2⟩ := hS.cut k hkl
 obtain ⟨c0, c1, c2, f0, f1, f2⟩ := cells3 h0
 obtain ⟨W1, hW1⟩ : ∃ W1, w.setCell ⟨p, 2, none⟩ (.int .i64 (k : Nat)) = W1 := ⟨_, rfl⟩
 have h1 : W1.heap[p]? = some (.cells #[pv0, .slice A L.length C, .int .i64 (k : Nat)] 170 (0, 0)) := by rw [← hW1]; exact heap_setCell_same w p 2 _ _ _ h0
 have hK1 : Kept (fun k => k = p) w W1 := by rw [← hW1]; exact (Kept.refl (fun k => k = p) w).setCell (.inl rfl) _
 have hb1 : SB W1 A1 C (L.take k) := b1.kept hK1 (fun g o s e h0 => by
  obtain ⟨o', s', e'⟩ := g1 g o s e
  rw [List.length_take] at h0
  exact hA g o' s' e' (by omega))
 have hlt : (L.take k).length = k := by rw [List.length_take]; omega
 have hr := fun (W : World) (hW : SB W A1 C (L.take k)) => read_any A1 k C (L.take k) W hlt (by omega) (by have := hW.l; omega) hW.n hW.b
 have HB := hide hb1
 go_enter Tryz.func157, Tryz.ntmps157
 go_upto_region 1 with fail
 rw [show (if L.length < m then (L.length : Int) else (m : Int)) = (k : Int) from by split <;> omega, hW1]
 obtain ⟨d0, d1, d2, e0, e1, e2⟩ := cells3 h1
 have H1 := hide h1
 have HK1 := hide hK1
 have HS := hide hS
 have HA := hide hA
 have hkz : ((k : Nat) : Int) = (k : Int) := rfl
 clear h0 hS hA c0 c1 c2 f0 f1 f2 b1 b2 s2 g1 g2 hW1 hK1 h1 hmin hb1 hlt
 go_region_held3 (fun w' => w'.cell? ⟨p, 1, none⟩ = some (.slice A L.length C) ∧ w'.cell? ⟨p, 2, none⟩ = some (.int .i64 (k : Nat))) (first | exact ⟨d1, d2⟩ | exact ⟨n1, n2⟩ | exact ⟨(World.cell?_setCell_other _ _ _ _ (by simp)).trans n1, (World.cell?_setCell_other _ _ _ _ (by simp)).trans n2⟩) (first
  | ((with_reducible refine (hr _ ?_).mono ?_)
     ·first | exact HB.out | exact HB.out.below ((Below.refl _ _).drew)
     rintro e w2 ⟨q, rfl, hR, hB⟩
     have n0 := cell_thru (cell_drew d0) hB
     have n1 := cell_thru (cell_drew d1) hB
     have n2 := cell_thru (cell_drew d2) hB
     have n0f : w2.frozen? ⟨p, 0, none⟩ = false := (hB.frozen (p := ⟨p, 0, none⟩) (block_lt_of_cell (cell_drew d0))).trans e0))
 go_wp2_with fail
 go_end0
 have hW2 : w2.heap[p]? = some (.cells #[pv0, .slice A L.length C, .int .i64 (k : Nat)] 170 (0, 0)) := (hB.block p (block_lt H1.out)).trans H1.out
 have hKs := HK1.out.size
 have hBs : W1.heap.size ≤ w2.heap.size := hB.size
 have hR1 : W1.heap.size ≤ q := hR.1.1
 have hK2 : Kept (fun k => k = p) w w2 := HK1.out.trans (Kept.of_below (w := W1) ⟨hB.os, hB.tape, hB.output, hB.size, hB.block⟩) (fun k _ h => h)
 rw [hk]
 refine ⟨rfl, ⟨.pointer (some ⟨q, 0, none⟩), heap_setCell_same w2 p 0 _ _ _ hW2, ?_, ?_, hpl, by simp [World.setCell]; omega, .inr ⟨q, rfl, ?_⟩⟩, hK2.setCell (.inl rfl) _⟩
 ·exact HS.out.kept (hK2.setCell (.inl rfl) _) (fun g o s e h0 => HA.out g o s e h0)
 ·exact fun g o s e h0 => ⟨HS.out.at g o s e h0, HA.out g o s e h0⟩
 ·refine (hR.kept (G := fun k => k = p) ((Kept.refl (fun k => k = p) w2).setCell (.inl rfl) _) (fun k hk e => ?_)).mono (fun k hk => ⟨?_, ?_⟩)
  ·have : W1.heap.size ≤ k := hk.1
   omega
  ·have : W1.heap.size ≤ k := hk.1
   omega
  ·simpa [World.setCell] using hk.2
theorem numberOf_any (A : Option Addr) (C n : Nat) (L : List Nat) (w : World) (hn : n = L.length) (h : SB w A C L) (hL : L.length ≤ 140737488355328) :
  Calls Tryz.prog 156 #[.slice A n C] w fun e w' => e = .returned (.int .u32 ((getFix (some L)).1 : Nat)) ∧ Below w.heap.size w w' := by
 subst hn
 have hr := read_any A L.length C L w rfl hL h.l h.n h.b
 go_enter Tryz.func156, Tryz.ntmps156
 go_wp2_with fail
 refine hr.mono ?_
 rintro e w1 ⟨p, rfl, hR, hB⟩
 go_wp2_with fail
 refine (rdFixed_any (.pointer (some ⟨p, 0, none⟩)) _ (some L) w1 (.inr ⟨p, rfl, hR⟩)).mono ?_
 rintro e w2 ⟨rfl, _, hK⟩
 go_wp2_with fail
 go_ret
 refine ⟨rfl, ((Kept.of_below (F := fun k => w.heap.size ≤ k) hB).trans hK (fun k hk h => ?_)).below (fun k h => h) (Nat.le_refl _)⟩
 have e : p = k := by simpa [own1] using h
 subst e
 exact hR.1.1
theorem fbytesOf_any (n : Nat) (w : World) (hn : n < 4294967296) :
  Calls Tryz.prog 69 #[.int .u32 (n : Nat)] w fun e w' => ∃ v, e = .returned v ∧ w'.ownsRow w.heap.size 5 1 v 4 (lc (fixB n)) ∧ Below w.heap.size w w' := by
 have hw : WP (w.alloc (.cells #[.pointer none, .int .i64 0, .bool false] 72)) (.pointer (some ⟨w.heap.size, 0, none⟩)) (fun k => k = w.heap.size) (some []) :=
  .inr ⟨_, rfl, rfl, by simp, .inl ⟨rfl, heap_alloc_new _ _⟩⟩
 have hfx := fixed_wp (.pointer (some ⟨w.heap.size, 0, none⟩)) (fun k => k = w.heap.size) (some []) n _ hn hw (fun k hk => by simp; omega) (by simp [szO])
 go_enter Tryz.func69, Tryz.ntmps69
 go_wp2_with fail
 refine hfx.mono ?_
 rintro e w1 ⟨rfl, hW, hK⟩
 have hby := bytes_wp _ _ _ w1 hW (by simp [putRaw, szO, fixB_len])
 clear hfx hw
 go_wp2_with fail
 refine hby.mono ?_
 rintro e w2 ⟨v, rfl, ho, hB⟩
 go_wp2_with fail
 go_ret
 have hs := hK.size
 simp only [World.size_alloc] at hs
 refine ⟨v, rfl, owns_lower ho (by omega), ?_⟩
 refine ((((Kept.of_below (F := fun k => w.heap.size ≤ k) (below_alloc w (.cells #[.pointer none, .int .i64 0, .bool false] 72))).trans hK (fun k hk h => ?_)).trans (Kept.of_below (F := fun _ => False) hB) (fun _ _ h => h.elim)).below (fun k h => h) (Nat.le_refl _))
 omega
theorem fread_any (A : Option Addr) (C n : Nat) (L : List Nat) (w : World) (hn : n = L.length) (hS : SB w A C L) (hL : L.length ≤ 140737488355328) :
  Calls Tryz.prog 108 #[.slice A n C] w fun e w' => ∃ p pv, e = .returned (.pointer (some ⟨p, 0, none⟩)) ∧ w.heap.size ≤ p ∧ FR w' p pv A C L 0 (w.heap.size + 1) (some []) ∧ Below w.heap.size w w' := by
 subst hn
 have h0 : (w.alloc (.cells #[.pointer none, .slice A L.length C, .int .i64 0] 170)).heap[w.heap.size]? = some (.cells #[.pointer none, .slice A L.length C, .int .i64 ((0 : Nat) : Int)] 170 (0, 0)) := heap_alloc_new _ _
 have hA : ∀ g off s, A = some ⟨g, off, s⟩ → 0 < L.length → g ≠ w.heap.size := fun g o s e h0 => by have := hS.at g o s e h0; omega
 have hlk := look_any w.heap.size A C L 0 (.pointer none) 0 _ h0 (hS.below (below_alloc _ _)) hA hL
 clear h0
 go_enter Tryz.func108, Tryz.ntmps108
 go_wp2_with fail
 refine hlk.mono ?_
 rintro e w1 ⟨rfl, ⟨pv, hF⟩, hK⟩
 rw [Nat.zero_min, List.take_zero] at hF
 clear hlk
 go_wp2_with fail
 go_ret
 refine ⟨_, pv, rfl, Nat.le_refl _, ?_, ((Kept.of_below (F := fun k => k = w.heap.size) (below_alloc w _)).trans hK (fun _ _ h => h)).below (fun k h => by omega) (Nat.le_refl _)⟩
 rw [World.size_alloc] at hF
 exact hF
open Go.RowKit
def PartPost (w : World) (p : Nat) (A : Option Addr) (t : Nat) (G : Option (PT × List Nat)) (v : Value) (w' : World) : Prop :=
 ∃ pv A' C' L' seen' N' S', FR w' p pv A' C' L' seen' N' S' ∧ w.heap.size ≤ N' ∧ (∀ g o s, A' = some ⟨g, o, s⟩ → ∃ o' s', A = some ⟨g, o', s'⟩) ∧
   match G with
   | some (q, R) => S'.isSome = true ∧ L' = R ∧ q.1 = t ∧ w'.ownsRow w.heap.size 5 1 v q.2.length (lc q.2)
   | none => S' = none
theorem getText_len (most : Int) (S : Option (List Nat)) : (getText most S).1.length ≤ szO S := by
 have := getNum_lt most S
 rw [getText_of]
 generalize getNum most S = y at *
 obtain ⟨v, _ | L⟩ := y
 ·simp [textOf]
 ·have h2 : L.length ≤ szO S := this.2
  unfold textOf
  simp only []
  split
  ·simp
  ·simp only [List.length_take]; omega
theorem part_win (t : Nat) (r : List Nat) :
  (∃ v k, v ≤ maxDisk ∧ getNum 67108864 (some (r.take (min 6 r.length))) = (v, some ((r.take (min 6 r.length)).drop k)) ∧ k ≤ min 6 r.length ∧ k ≤ r.length ∧
   ((r.length < k + v ∧ getPart (t :: r) = none ∧ getText v (some (r.take (min (k + v) r.length))) = ([], none)) ∨
    (k + v ≤ r.length ∧ getPart (t :: r) = some ((t, (r.drop k).take v), r.drop (k + v)) ∧ getText v (some (r.take (min (k + v) r.length))) = ((r.drop k).take v, some [])))) ∨
  (getNum 67108864 (some (r.take (min 6 r.length))) = (0, none) ∧ getPart (t :: r) = none ∧ getText 0 (some (r.take (min (min 6 r.length) r.length))) = ([], none)) := by
 have h6 : r.take (min 6 r.length) = r.take 6 := by
  rcases Nat.le_total 6 r.length with h | h
  ·rw [Nat.min_eq_left h]
  ·rw [Nat.min_eq_right h, List.take_of_length_le h, List.take_of_length_le (Nat.le_refl _)]
 have hp6 : pN 6 0 (r.take 6) = pN 6 0 r := pN_take 6 6 0 r (Nat.le_refl _)
 rcases getPart_cases t r with ⟨v, k, h1, h2, h3⟩ | ⟨h1, h2⟩
 ·left
  have hl := pN_len 6 0 r v k h1
  have hm : v ≤ maxNum := by unfold maxDisk at h2; unfold maxNum; omega
  refine ⟨v, k, h2, ?_, by omega, hl.2.1, ?_⟩
  ·rw [h6, getNum_at (hp6.trans h1) (by unfold maxDisk at h2; omega) hm]
  ·have hc := pN_cut 6 (min (k + v) r.length) 0 r v k h1 (by omega)
   have ht := getText_at (most := v) hc (by omega) hm
   have hd : (r.drop k).length = r.length - k := List.length_drop
   rw [List.length_drop, List.length_take] at ht
   by_cases hlt : r.length < k + v
   ·left
    rw [if_pos (by omega)] at h3 ht
    exact ⟨hlt, h3, ht⟩
   ·right
    rw [if_neg (by omega)] at h3 ht
    refine ⟨by omega, by rw [h3, List.drop_drop], ?_⟩
    rw [ht, Nat.min_eq_left (by omega)]
    have e1 : ((r.take (k + v)).drop k) = (r.drop k).take v := by rw [List.drop_take]; congr 1; omega
    rw [e1, List.take_take, Nat.min_self]
    congr 2
    rw [List.drop_eq_nil_iff, List.length_take]; omega
 ·right
  refine ⟨?_, h2, ?_⟩
  ·rw [h6]
   exact getNum_off (fun v k hp hc => by have := h1 v k (hp6.symm.trans hp); unfold maxDisk at this; omega)
  ·rw [Nat.min_eq_left (Nat.min_le_right _ _), h6]
   exact getText_off (fun v k hp hc => by have := h1 v k (hp6.symm.trans hp); omega)
theorem part_win2 (t : Nat) (r : List Nat) : ∃ (v u : Nat) (S1 : Option (List Nat)) (x : List Nat) (S2 : Option (List Nat)), getNum 67108864 (some (r.take (min 6 r.length))) = (v, S1) ∧ szO S1 ≤ min 6 r.length ∧ min 6 r.length - szO S1 = u ∧ v ≤ maxDisk ∧
  getText v (some (r.take (min (u + v) r.length))) = (x, S2) ∧ szO S2 ≤ min (u + v) r.length ∧
  (match getPart (t :: r) with
   | some (q, R) => S2 = some [] ∧ R = r.drop (min (u + v) r.length - szO S2) ∧ q = (t, x)
   | none => S2 = none) := by
 rcases part_win t r with ⟨v, k, h1, h2, h3, h4, ⟨h5, h6, h7⟩ | ⟨h5, h6, h7⟩⟩ | ⟨h1, h2, h3⟩
 ·have hs : szO (some ((r.take (min 6 r.length)).drop k)) = min 6 r.length - k := by simp [szO]
  refine ⟨v, k, _, _, _, h2, by rw [hs]; omega, by rw [hs]; omega, h1, h7, by simp [szO], ?_⟩
  rw [h6]
 ·have hs : szO (some ((r.take (min 6 r.length)).drop k)) = min 6 r.length - k := by simp [szO]
  refine ⟨v, k, _, _, _, h2, by rw [hs]; omega, by rw [hs]; omega, h1, h7, by simp [szO], ?_⟩
  rw [h6]
  refine ⟨rfl, ?_, rfl⟩
  show r.drop (k + v) = r.drop (min (k + v) r.length - 0)
  rw [Nat.min_eq_left h5, Nat.sub_zero]
 ·refine ⟨0, min 6 r.length, none, [], none, h1, by simp [szO], by simp [szO], by unfold maxDisk; omega, h3, by simp [szO], ?_⟩
  rw [h2]
theorem part_any (p : Nat) (pv : Value) (A : Option Addr) (C t : Nat) (LL r : List Nat) (seen : Nat) (w : World) (h : w.heap[p]? = some (.cells #[pv, .slice A LL.length C, .int .i64 (seen : Nat)] 170 (0, 0))) (hSw : SB w A C LL) (hA : ∀ g off s, A = some ⟨g, off, s⟩ → 0 < LL.length → g ≠ p) (hLL : LL = t :: r) (hsz : LL.length ≤ 140737488355328) :
  Calls Tryz.prog 159 #[.pointer (some ⟨p, 0, none⟩)] w fun e w' => ∃ TA TL TC, e = .returned (.agg #[.int .u8 (t : Nat), .slice TA TL TC]) ∧ PartPost w p A t (getPart (t :: r)) (.slice TA TL TC) w' ∧ Kept (fun k => k = p) w w' := by
 have hlen : LL.length = r.length + 1 := by rw [hLL]; rfl
 have hpw : p < w.heap.size := block_lt h
 obtain ⟨W0, hW0⟩ : ∃ W0, w.alloc (.cells #[.int .u8 0, .slice none 0 0] 40) = W0 := ⟨_, rfl⟩
 have hK0 : Kept (fun _ => False) w W0 := by rw [← hW0]; exact Kept.of_below (below_alloc w _)
 have hs0 : W0.heap.size = w.heap.size + 1 := by rw [← hW0]; simp
 have hr0 : W0.heap[w.heap.size]? = some (.cells #[.int .u8 0, .slice none 0 0] 40 (0, 0)) := by rw [← hW0]; exact heap_alloc_new _ _
 have h0 := hK0.heap h (fun h => h)
 have hS := hSw.kept hK0 (fun _ _ _ _ _ h => h)
 have hAw : ∀ g off s, A = some ⟨g, off, s⟩ → 0 < LL.length → g < w.heap.size := hSw.at
 obtain ⟨b, off, rfl, hc⟩ := hS.b.cell (by omega)
 have c00 : W0.cell? ⟨b, off, none⟩ = some (.int .u8 (t : Nat)) := by
  have := hc 0 (by omega)
  rw [hLL] at this
  exact this
 obtain ⟨A1, A2, s1, s2, b1, b2, g1, g2⟩ := hS.cut 1 (by omega)
 have hd1 : LL.drop 1 = r := by rw [hLL]; rfl
 rw [hd1] at b2
 have s2' : ∀ wx, (Instr.slice 28 (.slice (some ⟨b, off, none⟩) LL.length C) (some (.int .i64 1)) none none).run Tryz.prog wx = .ok (.slice A2 r.length (C - 1)) wx := by
  have e : LL.length - 1 = r.length := by omega
  rw [← e]; exact s2
 obtain ⟨c0, c1, c2, f0, f1, f2⟩ := cells3 h0
 have hAb := hA b off none rfl (by omega)
 have hbw := hAw b off none rfl (by omega)
 have hnz : (0 : Int) < (LL.length : Int) := by omega
 -- the bytes behind the tag are what is left
 obtain ⟨W1, hW1⟩ : ∃ W1, W0.setCell ⟨p, 1, none⟩ (.slice A2 r.length (C - 1)) = W1 := ⟨_, rfl⟩
 have hK1 : Kept (fun k => k = p) W0 W1 := by rw [← hW1]; exact (Kept.refl (fun k => k = p) W0).setCell (.inl rfl) _
 have h1 : W1.heap[p]? = some (.cells #[pv, .slice A2 r.length (C - 1), .int .i64 (seen : Nat)] 170 (0, 0)) := by rw [← hW1]; exact heap_setCell_same W0 p 1 _ _ _ h0
 have hA2 : ∀ g off s, A2 = some ⟨g, off, s⟩ → 0 < r.length → g ≠ p := fun g o s e h0 => by
  obtain ⟨o', s', e'⟩ := g2 g o s e
  cases e'
  exact hAb
 have hS1 : SB W1 A2 (C - 1) r := b2.kept hK1 (fun g o s e h0 => hA2 g o s e h0)
 have hlk1 := look_any p A2 (C - 1) r seen pv 6 W1 h1 hS1 hA2 (by omega)
 rw [show ((6 : Nat) : Int) = 6 from rfl] at hlk1
 have hKw1 : Kept (fun k => k = p) w W1 := (hK0.mono (fun _ _ h => h.elim)).trans hK1 (fun _ _ h => h)
 have hr1 : W1.heap[w.heap.size]? = some (.cells #[.int .u8 0, .slice none 0 0] 40 (0, 0)) := hK1.heap hr0 (fun e => by omega)
 obtain ⟨v, u, S1, x, S2, n1, n2, n3, n4, n5, n6, n7⟩ := part_win2 t r
 have hx := getText_len v (some (r.take (min (u + v) r.length)))
 rw [n5] at hx
 unfold maxDisk at n4
 have HG2 := hide g2
 have HL := hide hlen
 have HSZ := hide hsz
 have Hpw := hide hpw
 have Hbw := hide (And.intro hbw hAb)
 have hrs : r.length ≤ 140737488355328 := by omega
 clear s1 s2 b1 g1 hd1 hS hA hc h0 b2 g2 hLL hlen hsz hSw h hK0 hs0 hr0 hAw hbw hpw hK1 h1 hS1 hAb
 generalize LL.length = m at *
 go_enter Tryz.func159, Tryz.ntmps159
 go_wp2_with fail
 refine hlk1.mono ?_
 rintro e w2 ⟨rfl, ⟨pv2, hF2⟩, hK2⟩
 clear hlk1 c00 c0 c1 c2 f0 f1 f2 hW0 hW1 s2' hnz
 have hmin6 : min 6 r.length ≤ 6 := Nat.min_le_left _ _
 have hRP2 := hF2.2.2.2.2.2
 have hnum := rdNumber_any pv2 _ _ 67108864 w2 hRP2 (fun _ h => h.2) (wf64 (by omega) (by omega)) (by simp [szO]; omega)
 rw [n1] at hnum
 obtain ⟨c0, c1, c2, f0, f1, f2⟩ := cells3 hF2.1
 have HF2 := hide hF2
 clear hF2 hRP2
 go_wp2_with fail
 refine hnum.mono ?_
 rintro e w3 ⟨rfl, hR3, hK3⟩
 have hF3 := HF2.out.wire hK3 hR3
 clear hnum hR3 c0 c1 c2 f0 f1 f2
 have hgot := got_any p pv2 _ _ _ _ _ _ w3 hF3 n2 (by omega)
 rw [n3] at hgot
 have hlk2 := fun n => look_any p A2 (C - 1) r (min 6 r.length) pv2 (u + v) (w3.drewN n) hF3.1 (hF3.2.1.kept ((Kept.refl (fun _ => False) w3).drewN n) (fun _ _ _ _ _ h => h)) hA2 hrs
 rw [show ((u + v : Nat) : Int) = (u : Int) + (v : Int) from by omega] at hlk2
 have hu0 : (0 : Int) ≤ (u : Int) := by omega
 have hu6 : (u : Int) ≤ 6 := by omega
 have hv0 : (0 : Int) ≤ (v : Int) := by omega
 have hv6 : (v : Int) ≤ 67108864 := by omega
 have HF3 := hide hF3
 clear hF3
 go_wp2_with fail
 refine hgot.mono ?_
 rintro e w4 ⟨rfl, n, rfl⟩
 go_wp2_with fail
 refine (hlk2 n).mono ?_
 rintro e w5 ⟨rfl, ⟨pv5, hF5⟩, hK5⟩
 have hRP5 := hF5.2.2.2.2.2
 have htx := rdText_any pv5 _ _ (v : Nat) w5 hRP5 (fun _ h => h.2) (wf64 (by omega) (by omega)) (by simp [szO]; omega)
 rw [n5] at htx
 obtain ⟨c0, c1, c2, f0, f1, f2⟩ := cells3 hF5.1
 have HF5 := hide hF5
 clear hF5 hRP5 hlk2 hgot
 go_wp2_with fail
 refine htx.mono ?_
 rintro e w6 ⟨tv, rfl, ho6, hR6, hK6⟩
 have hF6 := HF5.out.wire hK6 hR6
 clear htx hR6 c0 c1 c2 f0 f1 f2
 have hmin9 : min (u + v) r.length ≤ r.length := Nat.min_le_right _ _
 have hgot2 := fun (W : World) (hW : FR W p pv5 A2 (C - 1) r (min (u + v) r.length) (w3.drewN n).heap.size S2) => got_any p pv5 _ _ _ _ _ _ W hW n6 (by omega)
 obtain ⟨g, hg⟩ : ∃ g, min (u + v) r.length - szO S2 = g := ⟨_, rfl⟩
 rw [hg] at hgot2
 obtain ⟨B1, B2, s1, s2, b1, b2, g1, g2⟩ := hF6.2.1.cut g (by omega)
 obtain ⟨c0, c1, c2, f0, f1, f2⟩ := cells3 hF6.1
 have HF6 := hide hF6
 have HN7 := hide n7
 have HA2 := hide hA2
 have HB := hide (And.intro b2 g2)
 clear hF6 s1 b1 b2 g1 g2 n7 n5 n1 hx hA2
 obtain ⟨TA, TC, rfl⟩ := owns_slice ho6
 have hs5 := hK5.size
 have hs3 := hK3.size
 have hs2 := hK2.size
 have hwl : w.heap.size < W1.heap.size := block_lt hr1
 have hpr : p ≠ w.heap.size := by have := Hpw.out; omega
 have hO2 : ∀ k, own1 pv2 k → W1.heap.size ≤ k := fun k hk => (HF2.out.2.2.2.2.2.own k hk).1
 have hO5 : ∀ k, own1 pv5 k → w3.heap.size ≤ k := fun k hk => (HF5.out.2.2.2.2.2.own k hk).1
 have hr6 : w6.heap[w.heap.size]? = some (.cells #[.int .u8 0, .slice none 0 0] 40 (0, 0)) := by
  have h2 := hK2.heap hr1 (fun e => hpr e.symm)
  have h3 := hK3.heap h2 (fun e => by have := hO2 _ e; omega)
  have h5 := hK5.heap (show (w3.drewN n).heap[w.heap.size]? = _ from h3) (fun e => hpr e.symm)
  exact hK6.heap h5 (fun e => by have := hO5 _ e; omega)
 have hKw6 : Kept (fun k => k = p) w w6 := by
  refine (((hKw1.trans hK2 (fun _ _ h => h)).trans hK3 (fun k hk e => ?_)).drewN n |>.trans hK5 (fun _ _ h => h)).trans hK6 (fun k hk e => ?_)
  ·have := hO2 _ e; omega
  ·have := hO5 _ e; omega
 have HEND : Hid (∀ n', ∀ W, W = (((w6.drewN n').setCell ⟨p, 1, none⟩ (.slice B2 (r.length - g) (C - 1 - g))).setCell ⟨w.heap.size, 0, none⟩ (.int .u8 (t : Nat))).setCell ⟨w.heap.size, 1, none⟩ (.slice TA x.length TC) →
   W.heap[w.heap.size]? = some (.cells #[.int .u8 (t : Nat), .slice TA x.length TC] 40 (0, 0)) ∧ PartPost w p (some ⟨b, off, none⟩) t (getPart (t :: r)) (.slice TA x.length TC) W ∧ Kept (fun k => k = p) w W) := by
  intro n' W hW
  have hW1 : ((w6.drewN n').setCell ⟨p, 1, none⟩ (.slice B2 (r.length - g) (C - 1 - g))).heap[p]? = some (.cells #[pv5, .slice B2 (r.length - g) (C - 1 - g), .int .i64 (min (u + v) r.length : Nat)] 170 (0, 0)) := heap_setCell_same (w6.drewN n') p 1 _ _ _ HF6.out.1
  have hWr : ((w6.drewN n').setCell ⟨p, 1, none⟩ (.slice B2 (r.length - g) (C - 1 - g))).heap[w.heap.size]? = some (.cells #[.int .u8 0, .slice none 0 0] 40 (0, 0)) := (Below.heap_setCell _ _ _ _ (fun e => hpr e.symm)).trans hr6
  have hKW : Kept (fun k => k = p ∨ k = w.heap.size) w6 W := by
   rw [hW]
   exact ((((Kept.refl (fun k => k = p ∨ k = w.heap.size) w6).drewN n').setCell (.inl (.inl rfl)) _).setCell (.inl (.inr rfl)) _).setCell (.inl (.inr rfl)) _
  have hsW := hKW.size
  have hs6 := hK6.size
  have hsd : (w3.drewN n).heap.size = w3.heap.size := rfl
  have hWp : W.heap[p]? = some (.cells #[pv5, .slice B2 (r.length - g) (C - 1 - g), .int .i64 (min (u + v) r.length : Nat)] 170 (0, 0)) := by
   rw [hW, Below.heap_setCell _ _ _ _ hpr, Below.heap_setCell _ _ _ _ hpr]
   exact hW1
  have hBb : ∀ g' o s, B2 = some ⟨g', o, s⟩ → g' = b := fun g' o s e => by
   obtain ⟨o1, s1, e1⟩ := HB.out.2 g' o s e
   obtain ⟨o2, s2, e2⟩ := HG2.out g' o1 s1 e1
   cases e2; rfl
  have hdl : (r.drop g).length = r.length - g := List.length_drop
  refine ⟨?_, ⟨pv5, B2, C - 1 - g, r.drop g, min (u + v) r.length, (w3.drewN n).heap.size, S2, ⟨by rw [hdl]; exact hWp, HB.out.1.kept hKW (fun g' o s e _ hh => ?_), fun g' o s e _ => ?_, HF6.out.2.2.2.1, by have := HF6.out.2.2.2.2.1; omega, ?_⟩, by omega, fun g' o s e => ?_, ?_⟩, ?_⟩
  ·rw [hW]
   exact heap_setCell_same _ w.heap.size 1 _ _ (.slice TA x.length TC) (heap_setCell_same _ w.heap.size 0 _ _ (.int .u8 (t : Nat)) hWr)
  ·have h1 := hBb g' o s e
   have h2 := Hbw.out
   rcases hh with hh | hh
   ·exact h2.2 (by omega)
   ·omega
  ·have h1 := hBb g' o s e
   have h2 := Hbw.out
   exact ⟨by omega, fun e => h2.2 (by omega)⟩
  ·refine (HF6.out.2.2.2.2.2.kept hKW (fun k hk hh => ?_)).mono (fun k hk => ⟨hk.1, by omega⟩)
   have := HF6.out.2.2.2.1
   rcases hh with hh | hh <;> omega
  ·obtain ⟨o1, s1, e1⟩ := HB.out.2 g' o s e
   exact HG2.out g' o1 s1 e1
  ·have hown : W.ownsRow w.heap.size 5 1 (.slice TA x.length TC) x.length (lc x) := owns_lower (owns_kept ho6 hKW (fun k hk hh => by
    have := (owns_cells ho6 k hk).2.1
    rcases hh with hh | hh
    ·have := Hpw.out; omega
    ·omega)) (by omega)
   have h7 := HN7.out
   cases hq : getPart (t :: r) with
   | none => rw [hq] at h7; exact h7
   | some y =>
     obtain ⟨q, R⟩ := y
     rw [hq] at h7
     obtain ⟨h1, h2, rfl⟩ := h7
     exact ⟨by rw [h1]; rfl, by rw [h2, hg], rfl, hown⟩
  ·rw [hW]
   exact (((hKw6.drewN n').setCell (.inl rfl) _).setCell (.inr (Nat.le_refl _)) _).setCell (.inr (Nat.le_refl _)) _
 obtain ⟨d0, d1, e0, e1⟩ := cells2 hr6
 clear hr1 hr6 hKw1 hKw6 hO2 hO5 hK2 hK3 hK5 hK6 ho6
 go_upto_region 7 with fail
 go_region_with ((refine (hgot2 _ (HF6.out.kept ((Kept.refl (fun _ => False) w6).drew) (fun _ _ h => h.elim))).mono ?_); rintro e w7 ⟨rfl, n7, rfl⟩)
 all_goals
  go_wp2_with fail
  obtain ⟨h1, h2, h3⟩ := HEND.out _ _ rfl
  exact bodyPost_ret_by (results_cell_row rfl _ _ w.heap.size 40 #[.int .u8 (t : Nat), .slice TA x.length TC] (0, 0) _ rfl h1 Tryz.underlying40 rfl (by kernel_rfl)) rfl ⟨_, _, _, rfl, h2, h3⟩
end Go.Proofs.YtppdbinppibjhaaGreatDoor
