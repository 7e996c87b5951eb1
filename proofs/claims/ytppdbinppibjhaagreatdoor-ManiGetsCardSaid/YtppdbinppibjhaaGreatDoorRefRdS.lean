/-
  The reference's reader gets rising rows.
-/
import Derived.Test.YtppdbinppibjhaaGreatDoorRefRdA
set_option maxHeartbeats 1000000
set_option maxRecDepth 100000
set_option linter.unusedVariables false
set_option linter.unusedSimpArgs false
namespace Go.Proofs.YtppdbinppibjhaaGreatDoor
open Go.RowKit
theorem RR.kept2 {w w' : World} {p C : Nat} {A : Option Addr} {L : List Nat} {S : Option (List Nat)} {G : Nat → Prop} (h : RR w p A C L S) (hk : Kept G w w') (hp : ¬ G p) (hA : ∀ g off s, A = some ⟨g, off, s⟩ → 0 < L.length → ¬ G g) : RR w' p A C L S := by
 obtain ⟨a, h1, h2, h3, h4, h5, h6, h7, h8, h9⟩ := h
 refine ⟨a, h1, hk.heap h2 hp, h3, ?_, h5, h6, h7, h8, h9⟩
 rcases Nat.eq_zero_or_pos L.length with h0 | h0
 ·exact BL.mk h4.lt (.inl h0)
 ·exact h4.kept hk (fun g o s e => hA g o s e h0)
theorem RR.at {w : World} {p C : Nat} {A : Option Addr} {L : List Nat} {S : Option (List Nat)} (h : RR w p A C L S) : p < w.heap.size ∧ ∀ g off s, A = some ⟨g, off, s⟩ → 0 < L.length → g < w.heap.size := by
 obtain ⟨a, h1, h2, h3, h4, h5, h6, h7, h8, h9⟩ := h
 refine ⟨block_lt h2, fun g off s e h0 => ?_⟩
 obtain ⟨b, o, e', hc⟩ := h4.cell h0
 rw [e] at e'
 cases e'
 exact block_lt_of_cell (hc 0 h0)
theorem getNum_cap (m : Int) (L : List Nat) : (((getNum 1099511627776 (some L)).1 : Int) ≤ m → getNum m (some L) = getNum 1099511627776 (some L) ∨ (getNum 1099511627776 (some L)).2 = none) ∧
  ((getNum 1099511627776 (some L)).2 = none → (getNum m (some L)).2 = none) ∧ (m < ((getNum 1099511627776 (some L)).1 : Int) → (getNum m (some L)).2 = none) := by
 cases hp : pN 6 0 L with
 | none => rw [getNum_none_eq hp, getNum_none_eq hp]; exact ⟨fun _ => .inl rfl, fun _ => rfl, fun _ => rfl⟩
 | some x =>
   obtain ⟨v, k⟩ := x
   rw [getNum_some_eq hp, getNum_some_eq hp]
   unfold maxNum
   by_cases h1 : v ≤ 1099511627776
   ·rw [if_pos (show (v : Int) ≤ 1099511627776 ∧ v ≤ 1099511627776 from ⟨by omega, h1⟩)]
    refine ⟨fun h => .inl ?_, fun h => (by cases h), fun h => ?_⟩
    ·simp only at h
     rw [if_pos ⟨h, h1⟩]
    ·simp only at h
     rw [if_neg (by omega)]
   ·rw [if_neg (by omega), if_neg (by omega)]
    exact ⟨fun _ => .inl rfl, fun _ => rfl, fun _ => rfl⟩
def RisAt (res : List Int × Option (List Nat)) (total : Option (List Int × List Nat)) (most : Int) (q : Nat) (l : Int) (St : Option (List Nat)) (done : List Int) : Prop :=
 (St = none ∧ res = ([], none)) ∨ ∃ L', St = some L' ∧ RowAt total most q l L' done ∧ (l = -1 ∨ (l ≤ most ∧ l ≤ 1099511627776)) ∧ done.length + L'.length ≤ 1000000
theorem RisAt.next {res : List Int × Option (List Nat)} {total : Option (List Int × List Nat)} {most l : Int} {q : Nat} {L' : List Nat} {done : List Int} (hres : total = none → res = ([], none)) (hrow : RowAt total most (q + 1) l L' done) (hsz : done.length + L'.length ≤ 1000000) :
  ((l + 1 + ((getNum 1099511627776 (some L')).1 : Int) ≤ most ∧ l + 1 + ((getNum 1099511627776 (some L')).1 : Int) ≤ 1099511627776) → RisAt res total most q (l + 1 + ((getNum 1099511627776 (some L')).1 : Int)) (getNum 1099511627776 (some L')).2 (done ++ [l + 1 + ((getNum 1099511627776 (some L')).1 : Int)])) ∧
  (¬ (l + 1 + ((getNum 1099511627776 (some L')).1 : Int) ≤ most ∧ l + 1 + ((getNum 1099511627776 (some L')).1 : Int) ≤ 1099511627776) → RisAt res total most q (l + 1 + ((getNum 1099511627776 (some L')).1 : Int)) none (done ++ [l + 1 + ((getNum 1099511627776 (some L')).1 : Int)])) := by
 have hmm : min most (maxNum : Int) ≤ 1099511627776 := by unfold maxNum; exact Int.min_le_right _ _
 have hcap := getNum_cap (min most maxNum - l - 1) L'
 have hbad := fun e => hrow.bad e
 constructor
 ·intro hx
  have hmin : min most (maxNum : Int) = most ∨ min most (maxNum : Int) = 1099511627776 := by unfold maxNum; omega
  cases hS : (getNum 1099511627776 (some L')).2 with
  | none => exact .inl ⟨rfl, hres (hbad (hcap.2.1 hS))⟩
  | some L2 =>
    have e : getNum (min most maxNum - l - 1) (some L') = getNum 1099511627776 (some L') := by
     rcases hcap.1 (by omega) with h | h
     ·exact h
     ·rw [hS] at h; cases h
    have hg : getNum (min most maxNum - l - 1) (some L') = ((getNum 1099511627776 (some L')).1, some L2) := by rw [e, ← hS]
    have hm := (getNum_more 1099511627776 (some L') L2 hS).1
    simp only [szO] at hm
    exact .inr ⟨L2, rfl, hrow.step hg, .inr hx, by simp; omega⟩
 ·intro hx
  have hmin : min most (maxNum : Int) ≤ most := Int.min_le_left _ _
  exact .inl ⟨rfl, hres (hbad (hcap.2.2 (by omega)))⟩
theorem rrRising_any (p : Nat) (A : Option Addr) (C : Nat) (L : List Nat) (S : Option (List Nat)) (many most : Int) (w : World) (h : RR w p A C L S) (hmany : (Lit.int .i64 many).wf = true) (hmost : (Lit.int .i64 most).wf = true) (hsz : L.length ≤ 900000) :
  Calls Tryz.prog 119 #[.pointer (some ⟨p, 0, none⟩), .int .i64 many, .int .i64 most] w fun e w' => ∃ v, e = .returned v ∧ w'.ownsRow w.heap.size 3 1 v (getRising many most S).1.length (li (getRising many most S).1) ∧ RR w' p A C L (getRising many most S).2 ∧ Kept (fun k => k = p) w w' := by
 have hnum := refNum_any p A C L S many w h hmany
 have hlt := getNum_lt many S
 have hnz := getNum_none0 many S
 have hres := getRising_of many most S
 have hb0 := bounds_i64 hmost
 have hat := hide h.at
 clear h hmany hmost
 generalize getRising many most S = res at *
 generalize getNum many S = g at *
 obtain ⟨n, S1⟩ := g
 simp only at hlt hnz hnum hres
 have hnI : (n : Int) ≤ 1099511627776 := by unfold maxNum at hlt; omega
 obtain ⟨total, htot⟩ : ∃ t, getRow most n (-1) S1 = t := ⟨_, rfl⟩
 rw [htot] at hres
 have hresN : total = none → res = ([], none) := fun e => by rw [hres, e]; rfl
 have hstart : ∀ wx, RR wx p A C L S1 → RisAt res total most n (-1) S1 [] := fun wx hR => by
  cases S1 with
  | none =>
    have h0 := hnz rfl
    subst h0
    exact .inl ⟨rfl, by rw [hres, ← htot]; rfl⟩
  | some L1 =>
    refine .inr ⟨L1, rfl, ?_, .inl rfl, ?_⟩
    ·unfold RowAt
     rw [← htot]
     cases getRow most n (-1) (some L1) with
     | none => rfl
     | some x => simp
    ·obtain ⟨a, _, e⟩ := hR.bl.2 L1 rfl
     simp; omega
 have HST := hide hstart
 have HRN := hide hresN
 have HRS := hide hres
 clear hstart hresN hres hlt hnz htot
 obtain ⟨i0, hi, hq0, hq1, hq2⟩ := info_parts info_int
 go_enter Tryz.func119, Tryz.ntmps119
 go_wp2_with fail
 refine hnum.mono ?_
 rintro e w1 ⟨rfl, hR1, hK1⟩
 clear hnum
 go_wp2_with fail
 go_loopg [8, 9, 10] n (fun q s8 s9 s10 wr => ∃ (k : Nat) (l : Int) (done : List Int) (St : Option (List Nat)), k + q = n ∧ s9 = .int .i64 l ∧ s10 = .int .i64 (k : Nat) ∧ -1 ≤ l ∧ l ≤ 4398046511104 ∧ wr.ownsRow w.heap.size 3 1 s8 done.length (li done) ∧ RR wr p A C L St ∧ Kept (fun j => j = p) w wr ∧ RisAt res total most q l St done ∧ done.length ≤ 1000001)
 case atStart => exact ⟨0, -1, [], S1, by omega, rfl, rfl, by omega, by omega, World.ownsRow_nil _ _ _ _, hR1, hK1, HST.out _ hR1, by simp⟩
 case round =>
  obtain ⟨k, l, done, St, hkq, rfl, rfl, hl1, hl2, hown, hR, hK, hinv, hdl⟩ := hrel
  have hkn : (k : Int) ≤ (n : Int) := by omega
  have hk0 : (0 : Int) ≤ (k : Int) := by omega
  obtain ⟨c2, f2⟩ := hR.flag
  have HR := hide hR
  rcases hinv with ⟨rfl, hre⟩ | ⟨L', rfl, hrow, hlm, hsz2⟩
  ·simp only [Option.isNone_none] at c2
   have HRE := hide hre
   have hnil := World.ownsRow_nil wr w.heap.size 3 1
   clear hre hR
   by_cases hkz : (k : Int) < (n : Int)
   ·clear hkq
    go_wp2_with fail
    go_ret
    rw [HRE.out]
    exact ⟨_, rfl, World.ownsRow_nil _ _ _ _, HR.out, hK⟩
   ·clear hkq
    go_wp2_with fail
    go_ret
    rw [HRE.out]
    exact ⟨_, rfl, World.ownsRow_nil _ _ _ _, HR.out, hK⟩
  ·simp only [Option.isNone_some] at c2
   cases gk with
   | zero =>
     have hkz : ¬ ((k : Int) < (n : Int)) := by omega
     have ht := hrow.done
     have HRE : Hid (res = (done, some L')) := by rw [HRS.out, ht]; rfl
     clear hkq hR hrow ht
     go_wp2_with fail
     go_ret
     rw [HRE.out]
     exact ⟨_, rfl, hown, HR.out, hK⟩
   | succ q =>
     have hkz : (k : Int) < (n : Int) := by omega
     have hnl := refNum_any p A C L (some L') 1099511627776 wr hR (wf64 (by omega) (by omega))
     have hnx := RisAt.next HRN.out hrow hsz2
     have hgl := getNum_lt 1099511627776 (some L')
     have HN := hide hnx
     have hl3 : l ≤ 1099511627776 := by omega
     clear hR hrow hlm hnx
     generalize getNum 1099511627776 (some L') = gg at *
     obtain ⟨g, S2⟩ := gg
     simp only at hnl hgl HN
     have hgb : (g : Int) ≤ 1099511627776 := by unfold maxNum at hgl; omega
     have hg0 : (0 : Int) ≤ (g : Int) := by omega
     clear hgl
     go_wp2_with fail
     refine hnl.mono ?_
     rintro e w2 ⟨rfl, hR2, hK2⟩
     have hK02 := hK.trans hK2 (fun _ _ h => h)
     have hbd := hR2.bad
     have hfl := hR2.flag
     have hR2' := hide hR2
     have hsz9 := hK02.size
     have hown2 : w2.ownsRow w.heap.size 3 1 u8 done.length (li done) := owns_kept hown hK2 (fun gg hgg h => by
      have h1 := (owns_cells hown gg hgg).2.1
      have h2 := hat.out.1
      omega)
     have hat2 : ∀ G : Nat → Prop, (∀ k, G k → w.heap.size ≤ k) → ¬ G p ∧ ∀ g' off s, A = some ⟨g', off, s⟩ → 0 < L.length → ¬ G g' := fun G hG => ⟨fun h => by have := hG p h; have := hat.out.1; omega, fun g' off s e h0 h => by have := hG g' h; have := hat.out.2 g' off s e h0; omega⟩
     have HAT := hide hat2
     clear hnl hR2 hat2
     go_upto_region 8 with fail
     go_cut [37] (fun s wx => w2 = wx ∧ ∃ t : Bool, s = .bool t ∧ (t = false ↔ (l + 1 + (g : Int) ≤ most ∧ l + 1 + (g : Int) ≤ 1099511627776)))
     case first =>
      clear hbd
      go_wp2_with fail
      all_goals
       go_meet
       refine ⟨rfl, _, rfl, ?_⟩
       simp
       try omega
     case rest =>
      obtain ⟨rfl, t, rfl, ht⟩ := hcut
      cases t
      ·have hI := HN.out.1 (ht.1 rfl)
       clear HN ht hbd
       go_upto_region 10 with fail
       obtain ⟨W0, hW0⟩ : ∃ W0, w2 = W0 := ⟨_, rfl⟩
       have hRW := hR2'.out
       have hKW := hK02
       have hownW := hown2
       rw [hW0] at hRW hKW hownW ⊢
       clear hW0 hown2 hK02 hR2'
       have hKa : Kept (fun _ => False) W0 (W0.alloc (.cells #[.int .i64 (l + 1 + (g : Int))] 3)) := Kept.of_below (below_alloc _ _)
       have hOw8 : ∀ j, u8.ownBlock = some j → w.heap.size ≤ j := fun j hj => (owns_cells hownW j hj).2.1
       have hownA := owns_thru hownW (below_alloc W0 (.cells #[.int .i64 (l + 1 + (g : Int))] 3))
       have hn1 := cell_one_new W0 (.int .i64 (l + 1 + (g : Int))) 3
       have hszW := hKW.size
       have HI := hide hI
       have HRW := hide hRW
       have HO8 := hide hOw8
       clear hI hRW hOw8 hownW
       go_wp2_with (at_builtin; go_must (refine wpList_append_foot _ rfl (.tmp 41) (.tmp 43) 49 rfl 3 i0 (.int .i64 0) 8 Tryz.underlying49 hi hq0 hq1 hq2 rfl w.heap.size u8 done.length (li done) rfl hownA (some ⟨W0.heap.size, 0, none⟩) 1 1 [.int .i64 (l + 1 + (g : Int))] rfl rfl (fun e => by cases e) (fun ad e => by cases e; exact hn1) (by simp [Value.oneCell']) (by unfold maxLen; omega) (by omega) (by simp; omega) ?_); intro A3 C3 w3 hown3 hg3)
       have hKg := hg3.kept (F := fun j => u8.ownBlock = some j) (fun _ h => h)
       go_roundg q
       case measure => omega
       case rel =>
        refine ⟨k + 1, l + 1 + g, done ++ [l + 1 + (g : Int)], _, by omega, rfl, by go_num, by omega, by omega, ?_, ?_, ?_, HI.out, by simp; omega⟩
        ·rw [List.length_append, li_append]
         exact hown3
        ·exact (HRW.out.kept hKa (fun h => h) (fun _ _ _ _ h => h)).kept2 hKg (HAT.out _ HO8.out).1 (HAT.out _ HO8.out).2
        ·refine (hKW.trans hKa (fun _ _ h => h.elim)).trans hKg (fun j hj h => ?_)
         have := HO8.out j h
         omega
      ·have hI := HN.out.2 (fun h => by cases ht.2 h)
       clear HN ht
       obtain ⟨hb1, hb2⟩ := hbd
       obtain ⟨c22, f22⟩ := hfl
       go_upto_region 10 with fail
       obtain ⟨W0, hW0⟩ : ∃ W0, w2.setCell ⟨p, 2, none⟩ (.bool true) = W0 := ⟨_, rfl⟩
       have hRW := hb1
       have hKW := hK02.trans hb2 (fun _ _ h => h)
       have hownW := owns_kept hown2 hb2 (fun gg hgg h => by
        have h1 := (owns_cells hown2 gg hgg).2.1
        have h2 := hat.out.1
        omega)
       rw [hW0] at hRW hKW hownW ⊢
       clear hW0 hown2 hK02 hR2' hb1 hb2 c22 f22
       have hKa : Kept (fun _ => False) W0 (W0.alloc (.cells #[.int .i64 (l + 1 + (g : Int))] 3)) := Kept.of_below (below_alloc _ _)
       have hOw8 : ∀ j, u8.ownBlock = some j → w.heap.size ≤ j := fun j hj => (owns_cells hownW j hj).2.1
       have hownA := owns_thru hownW (below_alloc W0 (.cells #[.int .i64 (l + 1 + (g : Int))] 3))
       have hn1 := cell_one_new W0 (.int .i64 (l + 1 + (g : Int))) 3
       have hszW := hKW.size
       have HI := hide hI
       have HRW := hide hRW
       have HO8 := hide hOw8
       clear hI hRW hOw8 hownW
       go_wp2_with (at_builtin; go_must (refine wpList_append_foot _ rfl (.tmp 41) (.tmp 43) 49 rfl 3 i0 (.int .i64 0) 8 Tryz.underlying49 hi hq0 hq1 hq2 rfl w.heap.size u8 done.length (li done) rfl hownA (some ⟨W0.heap.size, 0, none⟩) 1 1 [.int .i64 (l + 1 + (g : Int))] rfl rfl (fun e => by cases e) (fun ad e => by cases e; exact hn1) (by simp [Value.oneCell']) (by unfold maxLen; omega) (by omega) (by simp; omega) ?_); intro A3 C3 w3 hown3 hg3)
       have hKg := hg3.kept (F := fun j => u8.ownBlock = some j) (fun _ h => h)
       go_roundg q
       case measure => omega
       case rel =>
        refine ⟨k + 1, l + 1 + g, done ++ [l + 1 + (g : Int)], _, by omega, rfl, by go_num, by omega, by omega, ?_, ?_, ?_, HI.out, by simp; omega⟩
        ·rw [List.length_append, li_append]
         exact hown3
        ·exact (HRW.out.kept hKa (fun h => h) (fun _ _ _ _ h => h)).kept2 hKg (HAT.out _ HO8.out).1 (HAT.out _ HO8.out).2
        ·refine (hKW.trans hKa (fun _ _ h => h.elim)).trans hKg (fun j hj h => ?_)
         have := HO8.out j h
         omega
end Go.Proofs.YtppdbinppibjhaaGreatDoor
