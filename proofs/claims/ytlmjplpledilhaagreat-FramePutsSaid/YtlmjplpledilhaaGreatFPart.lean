/-
  The program's reader gets a part.
-/
import Derived.Test.YtlmjplpledilhaaGreatFR
namespace Go.Proofs.YtlmjplpledilhaaGreat
open Go.RowKit

/-- What a part's call leaves. -/
def PartPost (w : World) (p : Nat) (A : Option Addr) (t : Nat) (G : Option (PT × List Nat)) (v : Value) (w' : World) : Prop :=
  ∃ pv A' C' L' seen' N' S', FR w' p pv A' C' L' seen' N' S' ∧ w.heap.size ≤ N' ∧ (∀ g o s, A' = some ⟨g, o, s⟩ → ∃ o' s', A = some ⟨g, o', s'⟩) ∧
    match G with
    | some (q, R) => S'.isSome = true ∧ L' = R ∧ q.1 = t ∧ w'.ownsRow w.heap.size 5 1 v q.2.length (lc q.2)
    | none => S' = none

theorem getText_len (most : Int) (S : Option (List Nat)) : (getText most S).1.length ≤ szO S := by
  have := getNum_lt most S
  rw [getText_of]
  generalize getNum most S = y at *
  obtain ⟨v, _ | L⟩ := y
  · simp [textOf]
  · have h2 : L.length ≤ szO S := this.2
    unfold textOf
    simp only []
    split
    · simp
    · simp only [List.length_take]; omega
/-- What the windows show of a part: the number, then the text. -/
theorem part_win (t : Nat) (r : List Nat) :
    (∃ v k, v ≤ maxDisk ∧ getNum 67108864 (some (r.take (min 6 r.length))) = (v, some ((r.take (min 6 r.length)).drop k)) ∧ k ≤ min 6 r.length ∧ k ≤ r.length ∧
      ((r.length < k + v ∧ getPart (t :: r) = none ∧ getText v (some (r.take (min (k + v) r.length))) = ([], none)) ∨
       (k + v ≤ r.length ∧ getPart (t :: r) = some ((t, (r.drop k).take v), r.drop (k + v)) ∧ getText v (some (r.take (min (k + v) r.length))) = ((r.drop k).take v, some [])))) ∨
    (getNum 67108864 (some (r.take (min 6 r.length))) = (0, none) ∧ getPart (t :: r) = none ∧ getText 0 (some (r.take (min (min 6 r.length) r.length))) = ([], none)) := by
  have h6 : r.take (min 6 r.length) = r.take 6 := by
    rcases Nat.le_total 6 r.length with h | h
    · rw [Nat.min_eq_left h]
    · rw [Nat.min_eq_right h, List.take_of_length_le h, List.take_of_length_le (Nat.le_refl _)]
  have hp6 : pN 6 0 (r.take 6) = pN 6 0 r := pN_take 6 6 0 r (Nat.le_refl _)
  rcases getPart_cases t r with ⟨v, k, h1, h2, h3⟩ | ⟨h1, h2⟩
  · left
    have hl := pN_len 6 0 r v k h1
    have hm : v ≤ maxNum := by unfold maxDisk at h2; unfold maxNum; omega
    refine ⟨v, k, h2, ?_, by omega, hl.2.1, ?_⟩
    · rw [h6, getNum_at (hp6.trans h1) (by unfold maxDisk at h2; omega) hm]
    · have hc := pN_cut 6 (min (k + v) r.length) 0 r v k h1 (by omega)
      have ht := getText_at (most := v) hc (by omega) hm
      have hd : (r.drop k).length = r.length - k := List.length_drop
      rw [List.length_drop, List.length_take] at ht
      by_cases hlt : r.length < k + v
      · left
        rw [if_pos (by omega)] at h3 ht
        exact ⟨hlt, h3, ht⟩
      · right
        rw [if_neg (by omega)] at h3 ht
        refine ⟨by omega, by rw [h3, List.drop_drop], ?_⟩
        rw [ht, Nat.min_eq_left (by omega)]
        have e1 : ((r.take (k + v)).drop k) = (r.drop k).take v := by rw [List.drop_take]; congr 1; omega
        rw [e1, List.take_take, Nat.min_self]
        congr 2
        rw [List.drop_eq_nil_iff, List.length_take]; omega
  · right
    refine ⟨?_, h2, ?_⟩
    · rw [h6]
      exact getNum_off (fun v k hp hc => by have := h1 v k (hp6.symm.trans hp); unfold maxDisk at this; omega)
    · rw [Nat.min_eq_left (Nat.min_le_right _ _), h6]
      exact getText_off (fun v k hp hc => by have := h1 v k (hp6.symm.trans hp); omega)

/-- The same, as the walk wants it: the number v, how many bytes it took (u), the text x. -/
theorem part_win2 (t : Nat) (r : List Nat) : ∃ (v u : Nat) (S1 : Option (List Nat)) (x : List Nat) (S2 : Option (List Nat)), getNum 67108864 (some (r.take (min 6 r.length))) = (v, S1) ∧ szO S1 ≤ min 6 r.length ∧ min 6 r.length - szO S1 = u ∧ v ≤ maxDisk ∧
    getText v (some (r.take (min (u + v) r.length))) = (x, S2) ∧ szO S2 ≤ min (u + v) r.length ∧
    (match getPart (t :: r) with
      | some (q, R) => S2 = some [] ∧ R = r.drop (min (u + v) r.length - szO S2) ∧ q = (t, x)
      | none => S2 = none) := by
  rcases part_win t r with ⟨v, k, h1, h2, h3, h4, ⟨h5, h6, h7⟩ | ⟨h5, h6, h7⟩⟩ | ⟨h1, h2, h3⟩
  · have hs : szO (some ((r.take (min 6 r.length)).drop k)) = min 6 r.length - k := by simp [szO]
    refine ⟨v, k, _, _, _, h2, by rw [hs]; omega, by rw [hs]; omega, h1, h7, by simp [szO], ?_⟩
    rw [h6]
  · have hs : szO (some ((r.take (min 6 r.length)).drop k)) = min 6 r.length - k := by simp [szO]
    refine ⟨v, k, _, _, _, h2, by rw [hs]; omega, by rw [hs]; omega, h1, h7, by simp [szO], ?_⟩
    rw [h6]
    refine ⟨rfl, ?_, rfl⟩
    show r.drop (k + v) = r.drop (min (k + v) r.length - 0)
    rw [Nat.min_eq_left h5, Nat.sub_zero]
  · refine ⟨0, min 6 r.length, none, [], none, h1, by simp [szO], by simp [szO], by unfold maxDisk; omega, h3, by simp [szO], ?_⟩
    rw [h2]

set_option maxRecDepth 100000 in
set_option maxHeartbeats 2000000 in
theorem part_any (p : Nat) (pv : Value) (A : Option Addr) (C t : Nat) (LL r : List Nat) (seen : Nat) (w : World) (h : w.heap[p]? = some (.cells #[pv, .slice A LL.length C, .int .i64 (seen : Nat)] 92 (0, 0))) (hSw : SB w A C LL) (hA : ∀ g off s, A = some ⟨g, off, s⟩ → 0 < LL.length → g ≠ p) (hLL : LL = t :: r) (hsz : LL.length ≤ 140737488355328) :
    Calls Tryz.prog 78 #[.pointer (some ⟨p, 0, none⟩)] w fun e w' => ∃ TA TL TC, e = .returned (.agg #[.int .u8 (t : Nat), .slice TA TL TC]) ∧ PartPost w p A t (getPart (t :: r)) (.slice TA TL TC) w' ∧ Kept (fun k => k = p) w w' := by
  have hlen : LL.length = r.length + 1 := by rw [hLL]; rfl
  have hpw : p < w.heap.size := block_lt h
  obtain ⟨W0, hW0⟩ : ∃ W0, w.alloc (.cells #[.int .u8 0, .slice none 0 0] 45) = W0 := ⟨_, rfl⟩
  have hK0 : Kept (fun _ => False) w W0 := by rw [← hW0]; exact Kept.of_below (below_alloc w _)
  have hs0 : W0.heap.size = w.heap.size + 1 := by rw [← hW0]; simp
  have hr0 : W0.heap[w.heap.size]? = some (.cells #[.int .u8 0, .slice none 0 0] 45 (0, 0)) := by rw [← hW0]; exact heap_alloc_new _ _
  have h0 := hK0.heap h (fun h => h)
  have hS := hSw.kept hK0 (fun _ _ _ _ _ h => h)
  have hAw : ∀ g off s, A = some ⟨g, off, s⟩ → 0 < LL.length → g < w.heap.size := hSw.at
  obtain ⟨b, off, rfl, hc⟩ := hS.b.cell (by omega)
  have c00 : W0.cell? ⟨b, off, none⟩ = some (.int .u8 (t : Nat)) := by
    have := hc 0 (by omega)
    rw [hLL] at this
    exact this
  obtain ⟨A1, A2, s1, s2, b1, b2, g1, g2⟩ := hS.cut 1 (by omega)
  have hd1 : LL.drop 1 = r := by rw [hLL]; rfl
  rw [hd1] at b2
  have s2' : ∀ wx, (Instr.slice 26 (.slice (some ⟨b, off, none⟩) LL.length C) (some (.int .i64 1)) none none).run Tryz.prog wx = .ok (.slice A2 r.length (C - 1)) wx := by
    have e : LL.length - 1 = r.length := by omega
    rw [← e]; exact s2
  obtain ⟨c0, c1, c2, f0, f1, f2⟩ := cells3 h0
  have hAb := hA b off none rfl (by omega)
  have hbw := hAw b off none rfl (by omega)
  have hnz : (0 : Int) < (LL.length : Int) := by omega
  -- the bytes behind the tag are what is left
  obtain ⟨W1, hW1⟩ : ∃ W1, W0.setCell ⟨p, 1, none⟩ (.slice A2 r.length (C - 1)) = W1 := ⟨_, rfl⟩
  have hK1 : Kept (fun k => k = p) W0 W1 := by rw [← hW1]; exact (Kept.refl (fun k => k = p) W0).setCell (.inl rfl) _
  have h1 : W1.heap[p]? = some (.cells #[pv, .slice A2 r.length (C - 1), .int .i64 (seen : Nat)] 92 (0, 0)) := by rw [← hW1]; exact heap_setCell_same W0 p 1 _ _ _ h0
  have hA2 : ∀ g off s, A2 = some ⟨g, off, s⟩ → 0 < r.length → g ≠ p := fun g o s e h0 => by
    obtain ⟨o', s', e'⟩ := g2 g o s e
    cases e'
    exact hAb
  have hS1 : SB W1 A2 (C - 1) r := b2.kept hK1 (fun g o s e h0 => hA2 g o s e h0)
  have hlk1 := look_any p A2 (C - 1) r seen pv 6 W1 h1 hS1 hA2 (by omega)
  rw [show ((6 : Nat) : Int) = 6 from rfl] at hlk1
  have hKw1 : Kept (fun k => k = p) w W1 := (hK0.mono (fun _ _ h => h.elim)).trans hK1 (fun _ _ h => h)
  have hr1 : W1.heap[w.heap.size]? = some (.cells #[.int .u8 0, .slice none 0 0] 45 (0, 0)) := hK1.heap hr0 (fun e => by omega)
  obtain ⟨v, u, S1, x, S2, n1, n2, n3, n4, n5, n6, n7⟩ := part_win2 t r
  have hx := getText_len v (some (r.take (min (u + v) r.length)))
  rw [n5] at hx
  unfold maxDisk at n4
  have HG2 := hide g2
  have HL := hide hlen
  have HSZ := hide hsz
  have Hpw := hide hpw
  have Hbw := hide (And.intro hbw hAb)
  have hrs : r.length ≤ 140737488355328 := by omega
  clear s1 s2 b1 g1 hd1 hS hA hc h0 b2 g2 hLL hlen hsz hSw h hK0 hs0 hr0 hAw hbw hpw hK1 h1 hS1 hAb
  generalize LL.length = m at *
  go_enter Tryz.func78, Tryz.ntmps78
  go_wp2_with fail
  refine hlk1.mono ?_
  rintro e w2 ⟨rfl, ⟨pv2, hF2⟩, hK2⟩
  clear hlk1 c00 c0 c1 c2 f0 f1 f2 hW0 hW1 s2' hnz
  have hmin6 : min 6 r.length ≤ 6 := Nat.min_le_left _ _
  have hRP2 := hF2.2.2.2.2.2
  have hnum := rdNumber_any pv2 _ _ 67108864 w2 hRP2 (fun _ h => h.2) (wf64 (by omega) (by omega)) (by simp [szO]; omega)
  rw [n1] at hnum
  obtain ⟨c0, c1, c2, f0, f1, f2⟩ := cells3 hF2.1
  have HF2 := hide hF2
  clear hF2 hRP2
  go_wp2_with fail
  refine hnum.mono ?_
  rintro e w3 ⟨rfl, hR3, hK3⟩
  have hF3 := HF2.out.wire hK3 hR3
  clear hnum hR3 c0 c1 c2 f0 f1 f2
  have hgot := got_any p pv2 _ _ _ _ _ _ w3 hF3 n2 (by omega)
  rw [n3] at hgot
  have hlk2 := fun n => look_any p A2 (C - 1) r (min 6 r.length) pv2 (u + v) (w3.drewN n) hF3.1 (hF3.2.1.kept ((Kept.refl (fun _ => False) w3).drewN n) (fun _ _ _ _ _ h => h)) hA2 hrs
  rw [show ((u + v : Nat) : Int) = (u : Int) + (v : Int) from by omega] at hlk2
  have hu0 : (0 : Int) ≤ (u : Int) := by omega
  have hu6 : (u : Int) ≤ 6 := by omega
  have hv0 : (0 : Int) ≤ (v : Int) := by omega
  have hv6 : (v : Int) ≤ 67108864 := by omega
  have HF3 := hide hF3
  clear hF3
  go_wp2_with fail
  refine hgot.mono ?_
  rintro e w4 ⟨rfl, n, rfl⟩
  go_wp2_with fail
  refine (hlk2 n).mono ?_
  rintro e w5 ⟨rfl, ⟨pv5, hF5⟩, hK5⟩
  have hRP5 := hF5.2.2.2.2.2
  have htx := rdText_any pv5 _ _ (v : Nat) w5 hRP5 (fun _ h => h.2) (wf64 (by omega) (by omega)) (by simp [szO]; omega)
  rw [n5] at htx
  obtain ⟨c0, c1, c2, f0, f1, f2⟩ := cells3 hF5.1
  have HF5 := hide hF5
  clear hF5 hRP5 hlk2 hgot
  go_wp2_with fail
  refine htx.mono ?_
  rintro e w6 ⟨tv, rfl, ho6, hR6, hK6⟩
  have hF6 := HF5.out.wire hK6 hR6
  clear htx hR6 c0 c1 c2 f0 f1 f2
  have hmin9 : min (u + v) r.length ≤ r.length := Nat.min_le_right _ _
  have hgot2 := fun (W : World) (hW : FR W p pv5 A2 (C - 1) r (min (u + v) r.length) (w3.drewN n).heap.size S2) => got_any p pv5 _ _ _ _ _ _ W hW n6 (by omega)
  obtain ⟨g, hg⟩ : ∃ g, min (u + v) r.length - szO S2 = g := ⟨_, rfl⟩
  rw [hg] at hgot2
  obtain ⟨B1, B2, s1, s2, b1, b2, g1, g2⟩ := hF6.2.1.cut g (by omega)
  obtain ⟨c0, c1, c2, f0, f1, f2⟩ := cells3 hF6.1
  have HF6 := hide hF6
  have HN7 := hide n7
  have HA2 := hide hA2
  have HB := hide (And.intro b2 g2)
  clear hF6 s1 b1 b2 g1 g2 n7 n5 n1 hx hA2
  obtain ⟨TA, TC, rfl⟩ := owns_slice ho6
  have hs5 := hK5.size
  have hs3 := hK3.size
  have hs2 := hK2.size
  have hwl : w.heap.size < W1.heap.size := block_lt hr1
  have hpr : p ≠ w.heap.size := by have := Hpw.out; omega
  have hO2 : ∀ k, own1 pv2 k → W1.heap.size ≤ k := fun k hk => (HF2.out.2.2.2.2.2.own k hk).1
  have hO5 : ∀ k, own1 pv5 k → w3.heap.size ≤ k := fun k hk => (HF5.out.2.2.2.2.2.own k hk).1
  have hr6 : w6.heap[w.heap.size]? = some (.cells #[.int .u8 0, .slice none 0 0] 45 (0, 0)) := by
    have h2 := hK2.heap hr1 (fun e => hpr e.symm)
    have h3 := hK3.heap h2 (fun e => by have := hO2 _ e; omega)
    have h5 := hK5.heap (show (w3.drewN n).heap[w.heap.size]? = _ from h3) (fun e => hpr e.symm)
    exact hK6.heap h5 (fun e => by have := hO5 _ e; omega)
  have hKw6 : Kept (fun k => k = p) w w6 := by
    refine (((hKw1.trans hK2 (fun _ _ h => h)).trans hK3 (fun k hk e => ?_)).drewN n |>.trans hK5 (fun _ _ h => h)).trans hK6 (fun k hk e => ?_)
    · have := hO2 _ e; omega
    · have := hO5 _ e; omega
  have HEND : Hid (∀ n', ∀ W, W = (((w6.drewN n').setCell ⟨p, 1, none⟩ (.slice B2 (r.length - g) (C - 1 - g))).setCell ⟨w.heap.size, 0, none⟩ (.int .u8 (t : Nat))).setCell ⟨w.heap.size, 1, none⟩ (.slice TA x.length TC) →
      W.heap[w.heap.size]? = some (.cells #[.int .u8 (t : Nat), .slice TA x.length TC] 45 (0, 0)) ∧ PartPost w p (some ⟨b, off, none⟩) t (getPart (t :: r)) (.slice TA x.length TC) W ∧ Kept (fun k => k = p) w W) := by
    intro n' W hW
    have hW1 : ((w6.drewN n').setCell ⟨p, 1, none⟩ (.slice B2 (r.length - g) (C - 1 - g))).heap[p]? = some (.cells #[pv5, .slice B2 (r.length - g) (C - 1 - g), .int .i64 (min (u + v) r.length : Nat)] 92 (0, 0)) := heap_setCell_same (w6.drewN n') p 1 _ _ _ HF6.out.1
    have hWr : ((w6.drewN n').setCell ⟨p, 1, none⟩ (.slice B2 (r.length - g) (C - 1 - g))).heap[w.heap.size]? = some (.cells #[.int .u8 0, .slice none 0 0] 45 (0, 0)) := (Below.heap_setCell _ _ _ _ (fun e => hpr e.symm)).trans hr6
    have hKW : Kept (fun k => k = p ∨ k = w.heap.size) w6 W := by
      rw [hW]
      exact ((((Kept.refl (fun k => k = p ∨ k = w.heap.size) w6).drewN n').setCell (.inl (.inl rfl)) _).setCell (.inl (.inr rfl)) _).setCell (.inl (.inr rfl)) _
    have hsW := hKW.size
    have hs6 := hK6.size
    have hsd : (w3.drewN n).heap.size = w3.heap.size := rfl
    have hWp : W.heap[p]? = some (.cells #[pv5, .slice B2 (r.length - g) (C - 1 - g), .int .i64 (min (u + v) r.length : Nat)] 92 (0, 0)) := by
      rw [hW, Below.heap_setCell _ _ _ _ hpr, Below.heap_setCell _ _ _ _ hpr]
      exact hW1
    have hBb : ∀ g' o s, B2 = some ⟨g', o, s⟩ → g' = b := fun g' o s e => by
      obtain ⟨o1, s1, e1⟩ := HB.out.2 g' o s e
      obtain ⟨o2, s2, e2⟩ := HG2.out g' o1 s1 e1
      cases e2; rfl
    have hdl : (r.drop g).length = r.length - g := List.length_drop
    refine ⟨?_, ⟨pv5, B2, C - 1 - g, r.drop g, min (u + v) r.length, (w3.drewN n).heap.size, S2, ⟨by rw [hdl]; exact hWp, HB.out.1.kept hKW (fun g' o s e _ hh => ?_), fun g' o s e _ => ?_, HF6.out.2.2.2.1, by have := HF6.out.2.2.2.2.1; omega, ?_⟩, by omega, fun g' o s e => ?_, ?_⟩, ?_⟩
    · rw [hW]
      exact heap_setCell_same _ w.heap.size 1 _ _ (.slice TA x.length TC) (heap_setCell_same _ w.heap.size 0 _ _ (.int .u8 (t : Nat)) hWr)
    · have h1 := hBb g' o s e
      have h2 := Hbw.out
      rcases hh with hh | hh
      · exact h2.2 (by omega)
      · omega
    · have h1 := hBb g' o s e
      have h2 := Hbw.out
      exact ⟨by omega, fun e => h2.2 (by omega)⟩
    · refine (HF6.out.2.2.2.2.2.kept hKW (fun k hk hh => ?_)).mono (fun k hk => ⟨hk.1, by omega⟩)
      have := HF6.out.2.2.2.1
      rcases hh with hh | hh <;> omega
    · obtain ⟨o1, s1, e1⟩ := HB.out.2 g' o s e
      exact HG2.out g' o1 s1 e1
    · have hown : W.ownsRow w.heap.size 5 1 (.slice TA x.length TC) x.length (lc x) := owns_lower (owns_kept ho6 hKW (fun k hk hh => by
        have := (owns_cells ho6 k hk).2.1
        rcases hh with hh | hh
        · have := Hpw.out; omega
        · omega)) (by omega)
      have h7 := HN7.out
      cases hq : getPart (t :: r) with
      | none => rw [hq] at h7; exact h7
      | some y =>
        obtain ⟨q, R⟩ := y
        rw [hq] at h7
        obtain ⟨h1, h2, rfl⟩ := h7
        exact ⟨by rw [h1]; rfl, by rw [h2, hg], rfl, hown⟩
    · rw [hW]
      exact (((hKw6.drewN n').setCell (.inl rfl) _).setCell (.inr (Nat.le_refl _)) _).setCell (.inr (Nat.le_refl _)) _
  obtain ⟨d0, d1, e0, e1⟩ := cells2 hr6
  clear hr1 hr6 hKw1 hKw6 hO2 hO5 hK2 hK3 hK5 hK6 ho6
  go_upto_region 7 with fail
  go_region_with ((refine (hgot2 _ (HF6.out.kept ((Kept.refl (fun _ => False) w6).drew) (fun _ _ h => h.elim))).mono ?_); rintro e w7 ⟨rfl, n7, rfl⟩)
  all_goals
    go_wp2_with fail
    obtain ⟨h1, h2, h3⟩ := HEND.out _ _ rfl
    exact bodyPost_ret_by (results_cell_row rfl _ _ w.heap.size 45 #[.int .u8 (t : Nat), .slice TA x.length TC] (0, 0) _ rfl h1 Tryz.underlying45 rfl (by kernel_rfl)) rfl ⟨_, _, _, rfl, h2, h3⟩
end Go.Proofs.YtlmjplpledilhaaGreat
