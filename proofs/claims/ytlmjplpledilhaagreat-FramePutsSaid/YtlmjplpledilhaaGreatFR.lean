/-
  The program's reader of parts in memory; look, got, read; fixed numbers and their bytes.
-/
import Derived.Test.YtlmjplpledilhaaGreatRdAll
import Derived.Test.YtlmjplpledilhaaGreatWrRef
import Derived.Test.YtlmjplpledilhaaGreatFMath
import Derived.BigQuiet
namespace Go.Proofs.YtlmjplpledilhaaGreat
open Go.RowKit

/-- A slice that holds the bytes L. -/
structure SB (w : World) (A : Option Addr) (C : Nat) (L : List Nat) : Prop where
  l : L.length ≤ C
  m : C ≤ 9223372036854775807
  n : A = none → C = 0
  o : C = 0 ∨ ∃ b off, A = some ⟨b, off, none⟩
  b : BL w A L
theorem SB.at {w : World} {A : Option Addr} {C : Nat} {L : List Nat} (h : SB w A C L) : ∀ g off s, A = some ⟨g, off, s⟩ → 0 < L.length → g < w.heap.size := by
  intro g off s e h0
  obtain ⟨b, o, e', hc⟩ := h.b.cell h0
  rw [e] at e'; cases e'
  exact block_lt_of_cell (hc 0 h0)
theorem SB.kept {w w' : World} {A : Option Addr} {C : Nat} {L : List Nat} {F : Nat → Prop} (h : SB w A C L) (hk : Kept F w w') (hF : ∀ g off s, A = some ⟨g, off, s⟩ → 0 < L.length → ¬ F g) : SB w' A C L :=
  ⟨h.l, h.m, h.n, h.o, h.b.kept0 hk hF⟩
theorem SB.below {w w' : World} {A : Option Addr} {C : Nat} {L : List Nat} (h : SB w A C L) (hb : Below w.heap.size w w') : SB w' A C L := ⟨h.l, h.m, h.n, h.o, h.b.below hb⟩
theorem SB.cells {w w' : World} {A : Option Addr} {C : Nat} {L : List Nat} (h : SB w A C L) (hb : CellsKept w w') : SB w' A C L := ⟨h.l, h.m, h.n, h.o, h.b.cells hb⟩
theorem SB.own {w : World} {B n : Nat} {v : Value} {L : List Nat} (h : w.ownsRow B 5 1 v n (lc L)) (hL : ∀ b ∈ L, b < 256) : n = L.length ∧ ∃ A C, v = .slice A L.length C ∧ SB w A C L ∧ (∀ g off s, A = some ⟨g, off, s⟩ → v.ownBlock = some g ∧ B ≤ g ∧ g < w.heap.size) := by
  obtain ⟨hn, A, C, hv, h1, h2, h3, h4, h5, h6⟩ := owns_bl h hL
  subst hn
  refine ⟨rfl, A, C, hv, ⟨h1, h2, h3, ?_, h5⟩, fun g off s e => ?_⟩
  · rcases h4 with h | ⟨b, h⟩
    · exact .inl h
    · exact .inr ⟨b, 0, h⟩
  · have := h6 g off s e
    exact ⟨this.1, this.2.2.1, this.2.2.2⟩
/-- It is cut. -/
theorem SB.cut {w : World} {A : Option Addr} {C : Nat} {L : List Nat} (h : SB w A C L) (k : Nat) (hk : k ≤ L.length) : ∃ A1 A2 : Option Addr,
    (∀ wx, (Instr.slice 26 (.slice A L.length C) none (some (.int .i64 (k : Int))) none).run Tryz.prog wx = .ok (.slice A1 k C) wx) ∧
    (∀ wx, (Instr.slice 26 (.slice A L.length C) (some (.int .i64 (k : Int))) none none).run Tryz.prog wx = .ok (.slice A2 (L.length - k) (C - k)) wx) ∧
    SB w A1 C (L.take k) ∧ SB w A2 (C - k) (L.drop k) ∧ (∀ g off s, A1 = some ⟨g, off, s⟩ → ∃ off' s', A = some ⟨g, off', s'⟩) ∧ (∀ g off s, A2 = some ⟨g, off, s⟩ → ∃ off' s', A = some ⟨g, off', s'⟩) := by
  obtain ⟨A1, A2, s1, s2, b1, b2, n1, n2, q2, g1, g2⟩ := slices_bl A k C L w hk h.l h.o h.n h.b
  have hC := h.l
  have hm := h.m
  refine ⟨A1, A2, s1, s2, ⟨by rw [List.length_take]; omega, hm, n1, ?_, b1⟩, ⟨by rw [List.length_drop]; omega, by omega, n2, q2, b2⟩, g1, g2⟩
  rcases h.o with h0 | ⟨b, off, e⟩
  · exact .inl h0
  · cases A1 with
    | none => exact .inl (n1 rfl)
    | some a =>
      obtain ⟨g, o, s⟩ := a
      by_cases hC0 : C = 0
      · exact .inl hC0
      · right
        have h1 := s1 w
        subst e
        have ht : Tryz.prog.underlying 26 = some (.slice (Tryz.prog.elem 26)) := by kernel_rfl
        have hs : ∀ wx, (sizeOf (Tryz.prog.elem 26)).run Tryz.prog wx = .ok 1 wx := fun wx => by kernel_rfl
        rw [run_slice_h w _ _ L.length C ht .i64 (k : Int) (by omega) (by omega), hs] at h1
        simp [Result.andThen, sliced, hC0, Addr.add] at h1
        exact ⟨g, o, by rw [h1.2.2]⟩
/-- It is cut at both ends. -/
theorem SB.mid {w : World} {A : Option Addr} {C : Nat} {L : List Nat} (h : SB w A C L) (lo m : Nat) (h2 : lo + m ≤ L.length) : ∃ A2 : Option Addr,
    (∀ wx, (Instr.slice 26 (.slice A L.length C) (some (.int .i64 (lo : Int))) (some (.int .i64 ((lo : Int) + (m : Int)))) none).run Tryz.prog wx = .ok (.slice A2 m (C - lo)) wx) ∧
    SB w A2 (C - lo) ((L.drop lo).take m) ∧ (∀ g off s, A2 = some ⟨g, off, s⟩ → ∃ off' s', A = some ⟨g, off', s'⟩) := by
  have ht : Tryz.prog.underlying 26 = some (.slice (Tryz.prog.elem 26)) := by kernel_rfl
  have hs : ∀ wx, (sizeOf (Tryz.prog.elem 26)).run Tryz.prog wx = .ok 1 wx := fun wx => by kernel_rfl
  have hl := h.l
  have hm := h.m
  have hl2 : ((L.drop lo).take m).length = m := by rw [List.length_take, List.length_drop]; omega
  refine ⟨if C = lo then A else A.map (·.add (lo * 1)), fun wx => ?_, ?_⟩
  · rw [run_slice_lh wx _ A L.length C ht .i64 .i64 (lo : Int) ((lo : Int) + (m : Int)) (by omega) (by omega) (by omega), hs]
    have e : ((lo : Int) + (m : Int)).toNat = lo + m := by omega
    simp [Result.andThen, sliced, e]
  · rcases h.o with h0 | ⟨b, off, rfl⟩
    · have hL0 : L = [] := List.eq_nil_of_length_eq_zero (by omega)
      subst hL0
      have : C = lo := by simp at h2; omega
      rw [if_pos this]
      refine ⟨⟨by rw [hl2]; simp at h2; omega, by omega, fun _ => by omega, .inl (by omega), by simpa using h.b⟩, fun g o s e => ⟨o, s, e⟩⟩
    · by_cases hck : C = lo
      · have hm0 : m = 0 := by omega
        subst hm0
        rw [if_pos hck]
        refine ⟨⟨by rw [hl2]; omega, by omega, fun _ => by omega, .inl (by omega), by rw [List.take_zero]; exact BL.mk (by simp) (.inl rfl)⟩, fun g o s e => ⟨o, s, e⟩⟩
      · rw [if_neg hck]
        have e : (some (⟨b, off, none⟩ : Addr)).map (·.add (lo * 1)) = some ⟨b, off + lo, none⟩ := by
          simp only [Option.map_some, Nat.mul_one]
          unfold Addr.add
          split
          · rename_i e; rw [e, Nat.add_zero]
          · rfl
        rw [e]
        exact ⟨⟨by rw [hl2]; omega, by omega, (fun e => by cases e), .inr ⟨b, off + lo, rfl⟩, (h.b.drop lo (by omega)).take m⟩, fun g o s e => by cases e; exact ⟨off, none, rfl⟩⟩

/-- The reader of parts at p: what no part has come from, how many of these the wire's reader was told of, and what that one holds; its own blocks lie from N on. -/
def FR (w : World) (p : Nat) (pv : Value) (A : Option Addr) (C : Nat) (L : List Nat) (seen N : Nat) (S : Option (List Nat)) : Prop :=
  w.heap[p]? = some (.cells #[pv, .slice A L.length C, .int .i64 (seen : Nat)] 92 (0, 0)) ∧ SB w A C L ∧ (∀ g off s, A = some ⟨g, off, s⟩ → 0 < L.length → g < N ∧ g ≠ p) ∧ p < N ∧ N ≤ w.heap.size ∧
    RP w pv (fun k => N ≤ k ∧ k < w.heap.size) S

theorem FR.kept {w w' : World} {p : Nat} {pv : Value} {A : Option Addr} {C : Nat} {L : List Nat} {seen N : Nat} {S : Option (List Nat)} {G : Nat → Prop} (h : FR w p pv A C L seen N S) (hk : Kept G w w')
    (hG : ∀ k, k < w.heap.size → G k → k ≠ p ∧ k < N ∧ ∀ g o s, A = some ⟨g, o, s⟩ → 0 < L.length → k ≠ g) : FR w' p pv A C L seen N S := by
  obtain ⟨h0, h1, h2, h3, h4, h5⟩ := h
  have hs := hk.size
  refine ⟨hk.heap h0 (fun e => (hG p (block_lt h0) e).1 rfl), h1.kept hk (fun g o s e hl hg => (hG g (by have := (h2 g o s e hl).1; omega) hg).2.2 g o s e hl rfl), h2, h3, by omega, (h5.kept (hk.mono (G := fun k => G k ∧ k < w.heap.size) (fun k h1 h2 => ⟨h2, h1⟩)) (fun k hk hg => ?_)).mono (fun k hk => ⟨hk.1, by omega⟩)⟩
  have := (hG k hg.2 hg.1).2.1
  omega
theorem FR.wire {w w' : World} {p : Nat} {pv : Value} {A : Option Addr} {C : Nat} {L : List Nat} {seen N : Nat} {S S' : Option (List Nat)} (h : FR w p pv A C L seen N S) (hk : Kept (own1 pv) w w') (hR : RP w' pv (fun k => N ≤ k ∧ k < w.heap.size) S') : FR w' p pv A C L seen N S' := by
  obtain ⟨h0, h1, h2, h3, h4, h5⟩ := h
  have hs := hk.size
  have hN : ∀ k, own1 pv k → N ≤ k := fun k hk => (h5.own k hk).1
  exact ⟨hk.heap h0 (fun e => by have := hN p e; omega), h1.kept hk (fun g o s e hl hg => by have := hN g hg; have := (h2 g o s e hl).1; omega), h2, h3, by omega, hR.mono (fun k hk => ⟨hk.1, by omega⟩)⟩

set_option maxRecDepth 100000 in
set_option maxHeartbeats 400000 in
/-- How many of the bytes looked at were got. -/
theorem got_any (p : Nat) (pv : Value) (A : Option Addr) (C : Nat) (L : List Nat) (seen N : Nat) (S : Option (List Nat)) (w : World) (h : FR w p pv A C L seen N S) (hs : szO S ≤ seen) (hm : seen ≤ 140737488355328) :
    Calls Tryz.prog 115 #[.pointer (some ⟨p, 0, none⟩)] w fun e w' => e = .returned (.int .i64 ((seen - szO S : Nat) : Int)) ∧ ∃ n, w' = w.drewN n := by
  obtain ⟨h0, h1, h2, h3, h4, h5⟩ := h
  obtain ⟨c0, c1, c2, f0, f1, f2⟩ := cells3 h0
  have hl := fun (W : World) (hW : RP W pv (fun k => N ≤ k ∧ k < w.heap.size) S) => (left_any pv _ S W hW).mono (R' := fun e w' => e = .returned (.int .i64 (szO S : Nat)) ∧ w' = W) (fun e w' h => ⟨h.1, h.2.symm⟩)
  obtain ⟨pa, rfl⟩ := h5.form
  have H5 := hide h5
  clear h0 h1 h2 h3 h4 h5
  generalize szO S = z at *
  go_enter Tryz.func115, Tryz.ntmps115
  go_upto_region 1 with fail
  go_quiet ((go_at_call 132; exact Calls.quiet_of_same (hl _ H5.out)))
  all_goals
    go_wp2_with fail
    go_ret
    exact ⟨ret_int (by omega), _, rfl⟩

set_option maxRecDepth 100000 in
set_option maxHeartbeats 1000000 in
theorem look_any (p : Nat) (A : Option Addr) (C : Nat) (L : List Nat) (seen0 : Nat) (pv0 : Value) (m : Nat) (w : World) (h0 : w.heap[p]? = some (.cells #[pv0, .slice A L.length C, .int .i64 (seen0 : Nat)] 92 (0, 0)))
    (hS : SB w A C L) (hA : ∀ g off s, A = some ⟨g, off, s⟩ → 0 < L.length → g ≠ p) (hL : L.length ≤ 140737488355328) :
    Calls Tryz.prog 76 #[.pointer (some ⟨p, 0, none⟩), .int .i64 (m : Nat)] w fun e w' => e = .returned (.tuple #[]) ∧ (∃ pv, FR w' p pv A C L (min m L.length) w.heap.size (some (L.take (min m L.length)))) ∧ Kept (fun k => k = p) w w' := by
  obtain ⟨k, hk⟩ : ∃ k, min m L.length = k := ⟨_, rfl⟩
  have hkl : k ≤ L.length := by omega
  have hmin : min (m : Int) (L.length : Int) = (k : Int) := by omega
  have hpl : p < w.heap.size := block_lt h0
  obtain ⟨A1, A2, s1, s2, b1, b2, g1, g2⟩ := hS.cut k hkl
  obtain ⟨c0, c1, c2, f0, f1, f2⟩ := cells3 h0
  obtain ⟨W1, hW1⟩ : ∃ W1, w.setCell ⟨p, 2, none⟩ (.int .i64 (k : Nat)) = W1 := ⟨_, rfl⟩
  have h1 : W1.heap[p]? = some (.cells #[pv0, .slice A L.length C, .int .i64 (k : Nat)] 92 (0, 0)) := by rw [← hW1]; exact heap_setCell_same w p 2 _ _ _ h0
  have hK1 : Kept (fun k => k = p) w W1 := by rw [← hW1]; exact (Kept.refl (fun k => k = p) w).setCell (.inl rfl) _
  have hb1 : SB W1 A1 C (L.take k) := b1.kept hK1 (fun g o s e h0 => by
    obtain ⟨o', s', e'⟩ := g1 g o s e
    rw [List.length_take] at h0
    exact hA g o' s' e' (by omega))
  have hlt : (L.take k).length = k := by rw [List.length_take]; omega
  have hr := fun (W : World) (hW : SB W A1 C (L.take k)) => read_any A1 k C (L.take k) W hlt (by omega) (by have := hW.l; omega) hW.n hW.b
  have HB := hide hb1
  go_enter Tryz.func76, Tryz.ntmps76
  go_upto_region 1 with fail
  rw [show (if L.length < m then (L.length : Int) else (m : Int)) = (k : Int) from by split <;> omega, hW1]
  obtain ⟨d0, d1, d2, e0, e1, e2⟩ := cells3 h1
  have H1 := hide h1
  have HK1 := hide hK1
  have HS := hide hS
  have HA := hide hA
  have hkz : ((k : Nat) : Int) = (k : Int) := rfl
  clear h0 hS hA c0 c1 c2 f0 f1 f2 b1 b2 s2 g1 g2 hW1 hK1 h1 hmin hb1 hlt
  go_region_held3 (fun w' => w'.cell? ⟨p, 1, none⟩ = some (.slice A L.length C) ∧ w'.cell? ⟨p, 2, none⟩ = some (.int .i64 (k : Nat))) (first | exact ⟨d1, d2⟩ | exact ⟨n1, n2⟩ | exact ⟨(World.cell?_setCell_other _ _ _ _ (by simp)).trans n1, (World.cell?_setCell_other _ _ _ _ (by simp)).trans n2⟩) (first
    | ((with_reducible refine (hr _ ?_).mono ?_)
       · first | exact HB.out | exact HB.out.below ((Below.refl _ _).drew)
       rintro e w2 ⟨q, rfl, hR, hB⟩
       have n0 := cell_thru (cell_drew d0) hB
       have n1 := cell_thru (cell_drew d1) hB
       have n2 := cell_thru (cell_drew d2) hB
       have n0f : w2.frozen? ⟨p, 0, none⟩ = false := (hB.frozen (p := ⟨p, 0, none⟩) (block_lt_of_cell (cell_drew d0))).trans e0))
  go_wp2_with fail
  go_end0
  have hW2 : w2.heap[p]? = some (.cells #[pv0, .slice A L.length C, .int .i64 (k : Nat)] 92 (0, 0)) := (hB.block p (block_lt H1.out)).trans H1.out
  have hKs := HK1.out.size
  have hBs : W1.heap.size ≤ w2.heap.size := hB.size
  have hR1 : W1.heap.size ≤ q := hR.1.1
  have hK2 : Kept (fun k => k = p) w w2 := HK1.out.trans (Kept.of_below (w := W1) ⟨hB.os, hB.tape, hB.output, hB.size, hB.block⟩) (fun k _ h => h)
  rw [hk]
  refine ⟨rfl, ⟨.pointer (some ⟨q, 0, none⟩), heap_setCell_same w2 p 0 _ _ _ hW2, ?_, ?_, hpl, by simp [World.setCell]; omega, .inr ⟨q, rfl, ?_⟩⟩, hK2.setCell (.inl rfl) _⟩
  · exact HS.out.kept (hK2.setCell (.inl rfl) _) (fun g o s e h0 => HA.out g o s e h0)
  · exact fun g o s e h0 => ⟨HS.out.at g o s e h0, HA.out g o s e h0⟩
  · refine (hR.kept (G := fun k => k = p) ((Kept.refl (fun k => k = p) w2).setCell (.inl rfl) _) (fun k hk e => ?_)).mono (fun k hk => ⟨?_, ?_⟩)
    · have : W1.heap.size ≤ k := hk.1
      omega
    · have : W1.heap.size ≤ k := hk.1
      omega
    · simpa [World.setCell] using hk.2

set_option maxRecDepth 100000 in
set_option maxHeartbeats 400000 in
theorem numberOf_any (A : Option Addr) (C n : Nat) (L : List Nat) (w : World) (hn : n = L.length) (h : SB w A C L) (hL : L.length ≤ 140737488355328) :
    Calls Tryz.prog 75 #[.slice A n C] w fun e w' => e = .returned (.int .u32 ((getFix (some L)).1 : Nat)) ∧ Below w.heap.size w w' := by
  subst hn
  have hr := read_any A L.length C L w rfl hL h.l h.n h.b
  go_enter Tryz.func75, Tryz.ntmps75
  go_wp2_with fail
  refine hr.mono ?_
  rintro e w1 ⟨p, rfl, hR, hB⟩
  go_wp2_with fail
  refine (rdFixed_any (.pointer (some ⟨p, 0, none⟩)) _ (some L) w1 (.inr ⟨p, rfl, hR⟩)).mono ?_
  rintro e w2 ⟨rfl, _, hK⟩
  go_wp2_with fail
  go_ret
  refine ⟨rfl, ((Kept.of_below (F := fun k => w.heap.size ≤ k) hB).trans hK (fun k hk h => ?_)).below (fun k h => h) (Nat.le_refl _)⟩
  have e : p = k := by simpa [own1] using h
  subst e
  exact hR.1.1

set_option maxRecDepth 100000 in
set_option maxHeartbeats 400000 in
theorem fbytesOf_any (n : Nat) (w : World) (hn : n < 4294967296) :
    Calls Tryz.prog 26 #[.int .u32 (n : Nat)] w fun e w' => ∃ v, e = .returned v ∧ w'.ownsRow w.heap.size 5 1 v 4 (lc (fixB n)) ∧ Below w.heap.size w w' := by
  have hw : WP (w.alloc (.cells #[.pointer none, .int .i64 0, .bool false] 101)) (.pointer (some ⟨w.heap.size, 0, none⟩)) (fun k => k = w.heap.size) (some []) :=
    .inr ⟨_, rfl, rfl, by simp, .inl ⟨rfl, heap_alloc_new _ _⟩⟩
  have hfx := fixed_wp (.pointer (some ⟨w.heap.size, 0, none⟩)) (fun k => k = w.heap.size) (some []) n _ hn hw (fun k hk => by simp; omega) (by simp [szO])
  go_enter Tryz.func26, Tryz.ntmps26
  go_wp2_with fail
  refine hfx.mono ?_
  rintro e w1 ⟨rfl, hW, hK⟩
  have hby := bytes_wp _ _ _ w1 hW (by simp [putRaw, szO, fixB_len])
  clear hfx hw
  go_wp2_with fail
  refine hby.mono ?_
  rintro e w2 ⟨v, rfl, ho, hB⟩
  go_wp2_with fail
  go_ret
  have hs := hK.size
  simp only [World.size_alloc] at hs
  refine ⟨v, rfl, owns_lower ho (by omega), ?_⟩
  refine ((((Kept.of_below (F := fun k => w.heap.size ≤ k) (below_alloc w (.cells #[.pointer none, .int .i64 0, .bool false] 101))).trans hK (fun k hk h => ?_)).trans (Kept.of_below (F := fun _ => False) hB) (fun _ _ h => h.elim)).below (fun k h => h) (Nat.le_refl _))
  omega

set_option maxRecDepth 100000 in
set_option maxHeartbeats 1000000 in
/-- A reader of bytes. -/
theorem fread_any (A : Option Addr) (C n : Nat) (L : List Nat) (w : World) (hn : n = L.length) (hS : SB w A C L) (hL : L.length ≤ 140737488355328) :
    Calls Tryz.prog 38 #[.slice A n C] w fun e w' => ∃ p pv, e = .returned (.pointer (some ⟨p, 0, none⟩)) ∧ w.heap.size ≤ p ∧ FR w' p pv A C L 0 (w.heap.size + 1) (some []) ∧ Below w.heap.size w w' := by
  subst hn
  have h0 : (w.alloc (.cells #[.pointer none, .slice A L.length C, .int .i64 0] 92)).heap[w.heap.size]? = some (.cells #[.pointer none, .slice A L.length C, .int .i64 ((0 : Nat) : Int)] 92 (0, 0)) := heap_alloc_new _ _
  have hA : ∀ g off s, A = some ⟨g, off, s⟩ → 0 < L.length → g ≠ w.heap.size := fun g o s e h0 => by have := hS.at g o s e h0; omega
  have hlk := look_any w.heap.size A C L 0 (.pointer none) 0 _ h0 (hS.below (below_alloc _ _)) hA hL
  clear h0
  go_enter Tryz.func38, Tryz.ntmps38
  go_wp2_with fail
  refine hlk.mono ?_
  rintro e w1 ⟨rfl, ⟨pv, hF⟩, hK⟩
  rw [Nat.zero_min, List.take_zero] at hF
  clear hlk
  go_wp2_with fail
  go_ret
  refine ⟨_, pv, rfl, Nat.le_refl _, ?_, ((Kept.of_below (F := fun k => k = w.heap.size) (below_alloc w _)).trans hK (fun _ _ h => h)).below (fun k h => by omega) (Nat.le_refl _)⟩
  rw [World.size_alloc] at hF
  exact hF
end Go.Proofs.YtlmjplpledilhaaGreat
