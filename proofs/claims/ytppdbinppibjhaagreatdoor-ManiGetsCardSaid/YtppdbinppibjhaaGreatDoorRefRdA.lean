/-
  The reference's reader.
-/
import Derived.Test.YtppdbinppibjhaaGreatDoorRdAlls
set_option maxHeartbeats 2000000
set_option maxRecDepth 100000
set_option linter.unusedVariables false
set_option linter.unusedSimpArgs false
namespace Go.Proofs.YtppdbinppibjhaaGreatDoor
open Go.RowKit
def RR (w : World) (p : Nat) (A : Option Addr) (C : Nat) (L : List Nat) (S : Option (List Nat)) : Prop :=
 ∃ at_, at_ ≤ L.length ∧ w.heap[p]? = some (.cells #[.slice A L.length C, .int .i64 (at_ : Nat), .bool S.isNone] 183 (0, 0)) ∧ (∀ g off s, A = some ⟨g, off, s⟩ → 0 < L.length → g ≠ p) ∧ BL w A L ∧ L.length ≤ C ∧ C ≤ 9223372036854775807 ∧ (A = none → C = 0) ∧ (C = 0 ∨ ∃ b off, A = some ⟨b, off, none⟩) ∧ ∀ M, S = some M → M = L.drop at_
theorem RR.kept {w w' : World} {p C : Nat} {A : Option Addr} {L : List Nat} {S : Option (List Nat)} {G : Nat → Prop} (h : RR w p A C L S) (hk : Kept G w w') (hp : ¬ G p) (hA : ∀ g off s, A = some ⟨g, off, s⟩ → ¬ G g) : RR w' p A C L S := by
 obtain ⟨a, h1, h2, h3, h4, h5, h6, h7, h8, h9⟩ := h
 exact ⟨a, h1, hk.heap h2 hp, h3, h4.kept hk hA, h5, h6, h7, h8, h9⟩
theorem RR.bad {w : World} {p C : Nat} {A : Option Addr} {L : List Nat} {S : Option (List Nat)} (h : RR w p A C L S) : RR (w.setCell ⟨p, 2, none⟩ (.bool true)) p A C L none ∧ Kept (fun k => k = p) w (w.setCell ⟨p, 2, none⟩ (.bool true)) := by
 have hk : Kept (fun k => k = p) w (w.setCell ⟨p, 2, none⟩ (.bool true)) := (Kept.refl (fun k => k = p) w).setCell (.inl rfl) _
 obtain ⟨a, h1, h2, h3, h4, h5, h6, h7, h8, h9⟩ := h
 exact ⟨⟨a, h1, heap_setCell_same _ p 2 _ _ _ h2, h3, h4.kept0 hk (fun g o s e h0 => h3 g o s e h0), h5, h6, h7, h8, fun M e => by cases e⟩, hk⟩
theorem RR.move {w : World} {p C a m : Nat} {A : Option Addr} {L : List Nat} (ha : a + m ≤ L.length) (h : RR w p A C L (some (L.drop a))) (h2 : w.heap[p]? = some (.cells #[.slice A L.length C, .int .i64 (a : Nat), .bool false] 183 (0, 0))) :
  RR (w.setCell ⟨p, 1, none⟩ (.int .i64 ((a + m : Nat) : Int))) p A C L (some (L.drop (a + m))) ∧ Kept (fun k => k = p) w (w.setCell ⟨p, 1, none⟩ (.int .i64 ((a + m : Nat) : Int))) := by
 have hk : Kept (fun k => k = p) w (w.setCell ⟨p, 1, none⟩ (.int .i64 ((a + m : Nat) : Int))) := (Kept.refl (fun k => k = p) w).setCell (.inl rfl) _
 obtain ⟨_, _, _, h3, h4, h5, h6, h7, h8, _⟩ := h
 exact ⟨⟨a + m, ha, heap_setCell_same _ p 1 _ _ _ h2, h3, h4.kept0 hk (fun g o s e h0 => h3 g o s e h0), h5, h6, h7, h8, fun M e => by cases e; rfl⟩, hk⟩
theorem RR.open_ {w : World} {p C : Nat} {A : Option Addr} {L M : List Nat} (h : RR w p A C L (some M)) : ∃ a, a ≤ L.length ∧ M = L.drop a ∧ w.heap[p]? = some (.cells #[.slice A L.length C, .int .i64 (a : Nat), .bool false] 183 (0, 0)) := by
 obtain ⟨a, h1, h2, _, _, _, _, _, _, h9⟩ := h
 exact ⟨a, h1, h9 M rfl, h2⟩
def nextO : Option (List Nat) → Nat × Option (List Nat)
 | none => (0, none)
 | some [] => (0, none)
 | some (b :: r) => (b, some r)
theorem rnext_any (p : Nat) (A : Option Addr) (C : Nat) (L : List Nat) (S : Option (List Nat)) (w : World) (h : RR w p A C L S) :
  Calls Tryz.prog 162 #[.pointer (some ⟨p, 0, none⟩)] w fun e w' => e = .returned (.int .i64 ((nextO S).1 : Nat)) ∧ RR w' p A C L (nextO S).2 ∧ Kept (fun k => k = p) w w' := by
 have hbad : ∀ m, RR ((w.drewN m).setCell ⟨p, 2, none⟩ (.bool true)) p A C L none ∧ Kept (fun k => k = p) w ((w.drewN m).setCell ⟨p, 2, none⟩ (.bool true)) := fun m => by
  have hh : RR (w.drewN m) p A C L S := h
  exact ⟨hh.bad.1, ((Kept.refl _ w).drewN m).trans hh.bad.2 (fun _ _ h => h)⟩
 cases S with
 | none =>
   obtain ⟨a, h1, h2, h3, _⟩ := h
   obtain ⟨c0, c1, c2, f0, f1, f2⟩ := cells3 h2
   simp only [Option.isNone_none] at c2
   clear h2
   go_enter Tryz.func162, Tryz.ntmps162
   go_upto_region 1 with fail
   go_cut [18] (fun s wx => s = .bool true ∧ ∃ m, wx = w.drewN m)
   case first =>
    go_quiet (fail)
    all_goals
     go_wp2_with fail
     go_meet
     exact ⟨rfl, _, rfl⟩
   case rest =>
    obtain ⟨rfl, m, rfl⟩ := hcut
    have hb := hbad m
    clear hbad
    go_wp2_with fail
    go_ret
    exact ⟨rfl, hb⟩
 | some M =>
   obtain ⟨a, ha, rfl, h2⟩ := h.open_
   obtain ⟨c0, c1, c2, f0, f1, f2⟩ := cells3 h2
   by_cases hlt : a < L.length
   ·have hM : L.drop a = L.getD a 0 :: L.drop (a + 1) := by
     rw [List.drop_eq_getElem_cons hlt]
     simp [hlt]
    have hmv := fun m => RR.move (w := w.drewN m) (m := 1) (by omega) h h2
    obtain ⟨_, _, _, h3, h4, h5, h6, h7, h8, _⟩ := h
    obtain ⟨g, off, rfl, hc⟩ := h4.cell (by omega)
    have hck := hc a hlt
    have hgp := h3 g off none rfl (by omega)
    rw [hM]
    simp only [nextO]
    have hal : (a : Int) < (L.length : Int) := by omega
    have ha0 : (0 : Int) ≤ (a : Int) := by omega
    have e1 : decide ((L.length : Int) ≤ (a : Int)) = false := decide_eq_false (by omega)
    have e1n : decide (L.length ≤ a) = false := decide_eq_false (by omega)
    have hL9 : L.length ≤ 9223372036854775807 := by omega
    have hx256 : L.getD a 0 < 256 := h4.1 a
    clear h2 h3 h4 h5 h7 h8 hc hM hbad
    generalize L.getD a 0 = x at *
    go_enter Tryz.func162, Tryz.ntmps162
    go_upto_region 1 with fail
    go_cut [18] (fun s wx => s = .bool false ∧ ∃ m, wx = w.drewN m)
    case first =>
     go_quiet (fail)
     all_goals
      go_wp2_with fail
      go_meet
      exact ⟨rfl, _, rfl⟩
    case rest =>
     obtain ⟨rfl, m, rfl⟩ := hcut
     clear e1 e1n
     go_upto_region 5 with fail
     have hmv' := hmv m
     clear hmv
     obtain ⟨Wx, hWx⟩ : ∃ Wx, (w.drewN m).setCell ⟨p, 1, none⟩ (.int .i64 ((a : Int) + 1)) = Wx := ⟨_, rfl⟩
     have hKx : Kept (fun k => k = p) (w.drewN m) Wx := by rw [← hWx]; exact hmv'.2
     have k0 : Wx.cell? ⟨p, 0, none⟩ = some (.slice (some ⟨g, off, none⟩) L.length C) := by rw [← hWx, World.cell?_setCell_other _ _ _ _ (by simp)]; exact c0
     have k1 : Wx.cell? ⟨p, 1, none⟩ = some (.int .i64 ((a : Int) + 1)) := by rw [← hWx]; exact World.cell?_setCell_same' _ _ _ (by show (w.cell? _).isSome = true; rw [c1]; rfl)
     have k2 : Wx.cell? ⟨g, off + a, none⟩ = some (.int .u8 (x : Nat)) := hKx.cell hck hgp
     have HR : Hid (∀ n, RR (Wx.drewN n) p (some ⟨g, off, none⟩) C L (some (L.drop (a + 1))) ∧ Kept (fun k => k = p) w (Wx.drewN n)) := fun n => by
      rw [← hWx]
      exact ⟨hmv'.1, ((Kept.refl _ w).drewN m).trans (hmv'.2.drewN n) (fun _ _ h => h)⟩
     have hw1 : IntKind.i64.wrap ((a : Int) + 1 - 1) = (a : Int) := by rw [show (a : Int) + 1 - 1 = (a : Int) from by omega]; exact IntWalk.i64_in _ (by omega)
     have hw2 : IntKind.i64.wrap (a : Int) = (a : Int) := IntWalk.i64_in _ (by omega)
     rw [hWx]
     clear hmv' hWx hKx c0 c1 c2 hck
     go_quiet (fail)
     all_goals
      go_wp2_with fail
      go_ret
      exact ⟨rfl, HR.out _⟩
   ·have hM : L.drop a = [] := List.drop_eq_nil_iff.2 (by omega)
    rw [hM]
    have e1 : decide ((L.length : Int) ≤ (a : Int)) = true := decide_eq_true (by omega)
    have e1n : decide (L.length ≤ a) = true := decide_eq_true (by omega)
    clear h2 h hM
    go_enter Tryz.func162, Tryz.ntmps162
    go_upto_region 1 with fail
    go_cut [18] (fun s wx => s = .bool true ∧ ∃ m, wx = w.drewN m)
    case first =>
     go_quiet (fail)
     all_goals
      go_wp2_with fail
      go_meet
      exact ⟨rfl, _, rfl⟩
    case rest =>
     obtain ⟨rfl, m, rfl⟩ := hcut
     have hb := hbad m
     clear hbad e1
     go_wp2_with fail
     go_ret
     exact ⟨rfl, hb⟩
theorem getNum_yl (most : Int) (M : List Nat) : getNum most (some M) = if yl 6 M = 0 ∨ 128 ≤ M.getD (yl 6 M - 1) 0 ∨ (M.getD (yl 6 M - 1) 0 = 0 ∧ 1 < yl 6 M) then (0, none) else if ((acc M (yl 6 M) : Nat) : Int) ≤ most ∧ acc M (yl 6 M) ≤ maxNum then (acc M (yl 6 M), some (M.drop (yl 6 M))) else (0, none) := by
 unfold getNum
 simp only [pN_yl 6 0 M]
 by_cases h : yl 6 M = 0 ∨ 128 ≤ M.getD (yl 6 M - 1) 0 ∨ (M.getD (yl 6 M - 1) 0 = 0 ∧ 1 < yl 6 M)
 ·rw [if_pos (by omega), if_pos h]
 ·rw [if_neg (by omega), if_neg h]
theorem getNum_short (most : Int) (M : List Nat) (k : Nat) (hg : Goes M k) (h : k = M.length ∨ k = 6) : getNum most (some M) = (0, none) := by
 have hy := hg.full (by omega)
 rw [getNum_yl, hy, if_pos ?_]
 by_cases h0 : k = 0
 ·exact .inl h0
 ·exact .inr (.inl (hg.1 (k - 1) (by omega)))
theorem getNum_last (most : Int) (M : List Nat) (k : Nat) (hg : Goes M k) (h6 : k < 6) (hl : k < M.length) (hb : M.getD k 0 < 128) : getNum most (some M) =
  if M.getD k 0 = 0 ∧ 0 < k then (0, none) else if ((acc M (k + 1) : Nat) : Int) ≤ most ∧ acc M (k + 1) ≤ maxNum then (acc M (k + 1), some (M.drop (k + 1))) else (0, none) := by
 have hy := hg.last h6 hl hb
 rw [getNum_yl, hy, Nat.add_sub_cancel]
 by_cases h : M.getD k 0 = 0 ∧ 0 < k
 ·rw [if_pos (by omega), if_pos h]
 ·rw [if_neg (by omega), if_neg h]
theorem RR.flag {w : World} {p C : Nat} {A : Option Addr} {L : List Nat} {S : Option (List Nat)} (h : RR w p A C L S) : w.cell? ⟨p, 2, none⟩ = some (.bool S.isNone) ∧ w.frozen? ⟨p, 2, none⟩ = false := by
 obtain ⟨a, h1, h2, _⟩ := h
 exact ⟨(cells3 h2).2.2.1, (cells3 h2).2.2.2.2.2⟩
theorem refNum_none (p : Nat) (A : Option Addr) (C : Nat) (L : List Nat) (most : Int) (w : World) (h : RR w p A C L none) :
  Calls Tryz.prog 117 #[.pointer (some ⟨p, 0, none⟩), .int .i64 most] w fun e w' => e = .returned (.int .i64 ((getNum most none).1 : Nat)) ∧ RR w' p A C L (getNum most none).2 ∧ Kept (fun k => k = p) w w' := by
 go_enter Tryz.func117, Tryz.ntmps117
 go_wp2_with fail
 go_loopg [5, 6] 1 (fun q s5 s6 wr => s5 = .int .i64 0 ∧ s6 = .int .i64 0 ∧ wr = w)
 case atStart => exact ⟨rfl, rfl, rfl⟩
 case round =>
  obtain ⟨rfl, rfl, hw⟩ := hrel
  subst hw
  have hnx := rnext_any p A C L none _ h
  go_wp2_with fail
  refine hnx.mono ?_
  rintro e w1 ⟨rfl, hR, hK⟩
  have hfl := hR.flag
  have hbd := hide hR.bad
  simp only [nextO, Option.isNone_none] at hfl
  obtain ⟨c2, f2⟩ := hfl
  go_wp2_with fail
  go_ret
  exact ⟨rfl, hbd.out.1, hK.trans hbd.out.2 (fun _ _ h => h)⟩
theorem refNum_some (p : Nat) (A : Option Addr) (C : Nat) (L M : List Nat) (most : Int) (w : World) (h : RR w p A C L (some M)) (hmost : (Lit.int .i64 most).wf = true) :
  Calls Tryz.prog 117 #[.pointer (some ⟨p, 0, none⟩), .int .i64 most] w fun e w' => e = .returned (.int .i64 ((getNum most (some M)).1 : Nat)) ∧ RR w' p A C L (getNum most (some M)).2 ∧ Kept (fun k => k = p) w w' := by
 have hb0 := bounds_i64 hmost
 clear hmost
 go_enter Tryz.func117, Tryz.ntmps117
 go_wp2_with fail
 go_loopg [5, 6] 7 (fun q s5 s6 wr => ∃ k : Nat, k + q = 7 ∧ s5 = .int .i64 (acc M k : Nat) ∧ s6 = .int .i64 ((7 * k : Nat) : Int) ∧ Goes M k ∧ RR wr p A C L (some (M.drop k)) ∧ Kept (fun k => k = p) w wr)
 case atStart => exact ⟨0, by omega, rfl, rfl, ⟨fun i h => by omega, by omega, by omega⟩, h, Kept.refl _ _⟩
 case round =>
  obtain ⟨k, hkq, rfl, rfl, hg, hR0, hK0⟩ := hrel
  have hk6 := hg.2.1
  have hkl := hg.2.2
  have hnx := rnext_any p A C L _ wr hR0
  have hal := acc_lt M k
  clear hR0 h
  by_cases hend : k = M.length
  ·have hd : M.drop k = [] := List.drop_eq_nil_iff.2 (by omega)
   have HG := hide (getNum_short most M k hg (.inl hend))
   rw [hd] at hnx
   clear hg hd hend
   generalize acc M k = n at *
   go_wp2_with fail
   refine hnx.mono ?_
   rintro e w1 ⟨rfl, hR, hK⟩
   have hfl := hR.flag
   have hbd := hide hR.bad
   simp only [nextO, Option.isNone_none] at hfl
   obtain ⟨c2, f2⟩ := hfl
   clear hR
   go_wp2_with fail
   go_ret
   rw [HG.out]
   exact ⟨rfl, hbd.out.1, hK0.trans (hK.trans hbd.out.2 (fun _ _ h => h)) (fun _ _ h => h)⟩
  ·have hlt : k < M.length := by omega
   have hd : M.drop k = M.getD k 0 :: M.drop (k + 1) := by
    rw [List.drop_eq_getElem_cons hlt]
    simp [hlt]
   rw [hd] at hnx
   simp only [nextO] at hnx
   have hK00 := hide hK0
   have hlast := fun h6 => getNum_last most M k hg h6 hlt
   have hacc : acc M (k + 1) = acc M k + M.getD k 0 % 128 * 128 ^ k := rfl
   have hnext : k < 6 → 128 ≤ M.getD k 0 → Goes M (k + 1) := fun h => hg.next h hlt
   have hal1 := acc_lt M (k + 1)
   clear hd hK0
   generalize hbg : M.getD k 0 = b at *
   by_cases h6 : k = 6
   ·have HG := hide (getNum_short most M k hg (.inr h6))
    have h42 : (35 : Int) < 7 * (k : Int) := by omega
    clear hlast hacc hnext hg hal1 h6 hbg
    generalize acc M k = n at *
    go_wp2_with fail
    refine hnx.mono ?_
    rintro e w1 ⟨rfl, hR, hK⟩
    have hfl := hR.flag
    have hbd := hide hR.bad
    simp only [Option.isNone_some] at hfl
    obtain ⟨c2, f2⟩ := hfl
    clear hR
    go_wp2_with fail
    go_ret
    rw [HG.out]
    exact ⟨rfl, hbd.out.1, hK00.out.trans (hK.trans hbd.out.2 (fun _ _ h => h)) (fun _ _ h => h)⟩
   ·have h6' : k < 6 := by omega
    have h35 : ¬ ((35 : Int) < 7 * (k : Int)) := by omega
    have h350 : (0 : Int) ≤ 7 * (k : Int) := by omega
    by_cases hz : b = 0 ∧ 0 < k
    ·have HG : Hid (getNum most (some M) = (0, none)) := by rw [hlast h6' (by omega), if_pos hz]; rfl
     obtain ⟨rfl, hk0⟩ := hz
     have hk0' : (0 : Int) < 7 * (k : Int) := by omega
     clear hlast hacc hnext hg hal1 h6 hbg hal
     generalize acc M k = n at *
     go_wp2_with fail
     refine hnx.mono ?_
     rintro e w1 ⟨rfl, hR, hK⟩
     have hfl := hR.flag
     have hbd := hide hR.bad
     simp only [Option.isNone_some] at hfl
     obtain ⟨c2, f2⟩ := hfl
     clear hR
     go_wp2_with fail
     go_ret
     rw [HG.out]
     exact ⟨rfl, hbd.out.1, hK00.out.trans (hK.trans hbd.out.2 (fun _ _ h => h)) (fun _ _ h => h)⟩
    ·obtain ⟨q, hq⟩ : ∃ q, q = b % 128 * 2 ^ (7 * k) := ⟨_, rfl⟩
     have hpw : 128 ^ k = 2 ^ (7 * k) := by rw [show 128 = 2 ^ 7 from rfl, ← Nat.pow_mul]
     rw [hpw, ← hq] at hacc
     have hn42 : acc M (k + 1) < 128 ^ 6 := Nat.lt_of_lt_of_le hal1 (Nat.pow_le_pow_right (by omega) (by omega))
     have hn43 : acc M k + q < 4398046511104 := by rw [← hacc]; exact hn42
     have hqi : (b : Int) % 128 * 2 ^ (7 * k) = (q : Int) := by rw [hq]; simp
     have hsh : wrap64 ((b : Int) % 128 * 2 ^ (7 * k)) = (q : Int) := by rw [hqi]; exact IntWalk.wrap64_in _ ⟨by omega, by omega⟩
     have hz2 : (((b : Int) == 0) = true ∧ ¬ ((0 : Int) < 7 * (k : Int))) ∨ ((b : Int) == 0) = false := by
      by_cases h0 : b = 0
      ·exact .inl ⟨by simp [h0], by omega⟩
      ·exact .inr (by simp; omega)
     have hbI : (0 : Int) ≤ (b : Int) := by omega
     have HA := hide hacc
     have HSH := hide hsh
     have HN := hide hnext
     clear hacc hal1 h6 hbg hq hpw hal hg hqi hn42 hsh hnext
     generalize acc M k = n at *
     go_wp2_with fail
     refine hnx.mono ?_
     rintro e w1 ⟨rfl, hR, hK⟩
     have hfl := hR.flag
     have hbd := hide hR.bad
     have HR := hide hR
     simp only [Option.isNone_some] at hfl
     obtain ⟨c2, f2⟩ := hfl
     clear hR hnx
     go_upto_region 3 with fail
     go_cut [25] (fun s wx => s = .bool false ∧ w1 = wx)
     case first =>
      rcases hz2 with ⟨hz1, hz2⟩ | hz1
      all_goals
       go_wp2_with fail
       go_meet
       refine ⟨?_, rfl⟩
       simp
       omega
     case rest =>
      obtain ⟨rfl, rfl⟩ := hcut
      have hsh := HSH.out
      clear hz2 HSH
      by_cases hb128 : b < 128
      ·have hG0 := hlast h6' hb128
       rw [if_neg hz, HA.out] at hG0
       have hb128' : (b : Int) < 128 := by omega
       clear hlast hz HN
       go_upto_region 9 with fail
       clear hsh
       by_cases hgood : ((n + q : Nat) : Int) ≤ most ∧ n + q ≤ maxNum
       ·rw [if_pos hgood] at hG0
        have HG := hide hG0
        obtain ⟨g1, g2⟩ := hgood
        unfold maxNum at g2
        have g1' : ¬ (most < (n : Int) + (q : Int)) := by omega
        have g2' : ¬ ((1099511627776 : Int) < (n : Int) + (q : Int)) := by omega
        clear hG0 g1 g2
        go_wp2_with fail
        go_ret
        rw [HG.out]
        exact ⟨ret_int (by omega), HR.out, hK00.out.trans hK (fun _ _ h => h)⟩
       ·rw [if_neg hgood] at hG0
        have HG := hide hG0
        unfold maxNum at hgood
        by_cases g1 : most < (n : Int) + (q : Int)
        ·clear hG0 hgood
         go_wp2_with fail
         go_ret
         rw [HG.out]
         exact ⟨rfl, hbd.out.1, hK00.out.trans (hK.trans hbd.out.2 (fun _ _ h => h)) (fun _ _ h => h)⟩
        ·have g2 : (1099511627776 : Int) < (n : Int) + (q : Int) := by omega
         clear hG0 hgood
         go_wp2_with fail
         go_ret
         rw [HG.out]
         exact ⟨rfl, hbd.out.1, hK00.out.trans (hK.trans hbd.out.2 (fun _ _ h => h)) (fun _ _ h => h)⟩
      ·have hb128' : ¬ ((b : Int) < 128) := by omega
       have HG := hide (HN.out h6' (by omega))
       obtain ⟨q', rfl⟩ : ∃ q', gk = q' + 1 := ⟨gk - 1, by omega⟩
       clear hlast hz HN
       go_wp2_with fail
       go_roundg q'
       case measure => omega
       case rel => exact ⟨k + 1, by omega, by rw [HA.out]; go_num, by go_num, HG.out, HR.out, hK00.out.trans hK (fun _ _ h => h)⟩
theorem refNum_any (p : Nat) (A : Option Addr) (C : Nat) (L : List Nat) (S : Option (List Nat)) (most : Int) (w : World) (h : RR w p A C L S) (hmost : (Lit.int .i64 most).wf = true) :
  Calls Tryz.prog 117 #[.pointer (some ⟨p, 0, none⟩), .int .i64 most] w fun e w' => e = .returned (.int .i64 ((getNum most S).1 : Nat)) ∧ RR w' p A C L (getNum most S).2 ∧ Kept (fun k => k = p) w w' := by
 cases S with
 | none => exact refNum_none p A C L most w h
 | some M => exact refNum_some p A C L M most w h hmost
open Go.RowKit
theorem refLeft_any (p : Nat) (A : Option Addr) (C : Nat) (L : List Nat) (S : Option (List Nat)) (w : World) (h : RR w p A C L S) :
  Calls Tryz.prog 120 #[.pointer (some ⟨p, 0, none⟩)] w fun e w' => e = .returned (.int .i64 (szO S : Nat)) ∧ ∃ m, w' = w.drewN m := by
 cases S with
 | none =>
   obtain ⟨a, h1, h2, h3, _⟩ := h
   obtain ⟨c0, c1, c2, f0, f1, f2⟩ := cells3 h2
   simp only [Option.isNone_none] at c2
   clear h2
   go_enter Tryz.func120, Tryz.ntmps120
   go_wp2
   go_ret
   exact ⟨rfl, 0, rfl⟩
 | some M =>
   obtain ⟨a, ha, rfl, h2⟩ := h.open_
   obtain ⟨c0, c1, c2, f0, f1, f2⟩ := cells3 h2
   obtain ⟨_, _, _, _, _, h5, h6, _⟩ := h
   have hs : Hid (szO (some (L.drop a)) = L.length - a) := by simp [szO, Hid]
   have hal : (a : Int) ≤ (L.length : Int) := by omega
   have hl9 : (L.length : Int) ≤ 9223372036854775807 := by omega
   have hw : IntKind.i64.wrap ((L.length : Int) - (a : Int)) = (L.length : Int) - (a : Int) := IntWalk.i64_in _ (by omega)
   clear h2
   go_enter Tryz.func120, Tryz.ntmps120
   go_upto_region 3 with fail
   go_quiet (fail)
   go_wp2_with fail
   go_ret
   refine ⟨ret_int ?_, _, rfl⟩
   rw [hs.out]
   omega
def fixAt (S : Option (List Nat)) : Nat → Option (List Nat)
 | 0 => S
 | k + 1 => (nextO (fixAt S k)).2
theorem fixAt_some (L : List Nat) : ∀ k, fixAt (some L) k = if k ≤ L.length then some (L.drop k) else none
 | 0 => by simp [fixAt]
 | k + 1 => by
   show (nextO (fixAt (some L) k)).2 = _
   rw [fixAt_some L k]
   by_cases h : k + 1 ≤ L.length
   ·rw [if_pos (by omega), if_pos h, List.drop_eq_getElem_cons (by omega)]
    rfl
   ·rw [if_neg h]
    by_cases h2 : k ≤ L.length
    ·rw [if_pos h2, List.drop_eq_nil_iff.2 (by omega)]
     rfl
    ·rw [if_neg h2]
     rfl
theorem fixAt_none : ∀ k, fixAt none k = none
 | 0 => rfl
 | k + 1 => by
   show (nextO (fixAt none k)).2 = _
   rw [fixAt_none k]
   rfl
def fixV (S : Option (List Nat)) : Nat → Nat
 | 0 => 0
 | k + 1 => fixV S k + (nextO (fixAt S k)).1 * 256 ^ k
theorem fix_get (S : Option (List Nat)) : (fixAt S 4).isNone = (getFix S).2.isNone ∧ (∀ M, fixAt S 4 = some M → (getFix S).2 = some M ∧ fixV S 4 = (getFix S).1) ∧ (fixAt S 4 = none → (getFix S) = (0, none)) := by
 cases S with
 | none => rw [fixAt_none]; exact ⟨rfl, fun M h => (by cases h), fun _ => rfl⟩
 | some L =>
   rw [fixAt_some]
   have e : getFix (some L) = if L.length < 4 then (0, none) else (L.getD 0 0 + L.getD 1 0 * 256 + L.getD 2 0 * 65536 + L.getD 3 0 * 16777216, some (L.drop 4)) := rfl
   rw [e]
   by_cases h : L.length < 4
   ·rw [if_neg (by omega), if_pos h]
    exact ⟨rfl, fun M h => (by cases h), fun _ => rfl⟩
   ·rw [if_pos (by omega), if_neg h]
    refine ⟨rfl, fun M hM => ?_, fun h => (by cases h)⟩
    cases hM
    refine ⟨rfl, ?_⟩
    have hx : ∀ k, k < 4 → (nextO (fixAt (some L) k)).1 = L.getD k 0 := fun k hk => by
     rw [fixAt_some, if_pos (by omega), List.drop_eq_getElem_cons (by omega)]
     simp [nextO, show k < L.length by omega]
    simp only [fixV, hx 0 (by omega), hx 1 (by omega), hx 2 (by omega), hx 3 (by omega)]
    simp
theorem nextO_lt (w : World) (A : Option Addr) (L : List Nat) (S : Option (List Nat)) (hb : BL w A L) (hS : ∀ M, S = some M → ∃ a, M = L.drop a) : (nextO S).1 < 256 := by
 cases S with
 | none => simp [nextO]
 | some M =>
   obtain ⟨a, rfl⟩ := hS M rfl
   cases hd : L.drop a with
   | nil => simp [nextO]
   | cons b r =>
     refine hb.lt b ?_
     have : b ∈ L.drop a := by rw [hd]; exact List.mem_cons_self
     exact List.mem_of_mem_drop this
theorem RR.bl {w : World} {p C : Nat} {A : Option Addr} {L : List Nat} {S : Option (List Nat)} (h : RR w p A C L S) : BL w A L ∧ (∀ M, S = some M → ∃ a, M = L.drop a) := by
 obtain ⟨a, h1, h2, h3, h4, h5, h6, h7, h8, h9⟩ := h
 exact ⟨h4, fun M e => ⟨a, h9 M e⟩⟩
theorem refFix_any (p : Nat) (A : Option Addr) (C : Nat) (L : List Nat) (S : Option (List Nat)) (w : World) (h : RR w p A C L S) :
  Calls Tryz.prog 118 #[.pointer (some ⟨p, 0, none⟩)] w fun e w' => e = .returned (.int .u32 ((getFix S).1 : Nat)) ∧ RR w' p A C L (getFix S).2 ∧ Kept (fun k => k = p) w w' := by
 have hfix := fix_get S
 have HF := hide hfix
 clear hfix
 go_enter Tryz.func118, Tryz.ntmps118
 go_wp2_with fail
 go_loopg [3, 4] 4 (fun q s3 s4 wr => ∃ k : Nat, k + q = 4 ∧ s3 = .int .u32 (fixV S k : Nat) ∧ fixV S k < 256 ^ k ∧ s4 = .int .i64 (k : Nat) ∧ RR wr p A C L (fixAt S k) ∧ Kept (fun k => k = p) w wr)
 case atStart => exact ⟨0, by omega, rfl, by simp [fixV], rfl, h, Kept.refl _ _⟩
 case round =>
  obtain ⟨k, hkq, rfl, hv, rfl, hR, hK⟩ := hrel
  cases gk with
  | zero =>
    obtain rfl : k = 4 := by omega
    have hfl := hR.flag
    obtain ⟨c2, f2⟩ := hfl
    have hR' := hide hR
    cases hs : fixAt S 4 with
    | none =>
      rw [hs] at c2 hR'
      simp only [Option.isNone_none] at c2
      have HG := hide (HF.out.2.2 hs)
      clear hs hv hR
      generalize fixV S 4 = v at *
      go_wp2_with fail
      go_ret
      rw [HG.out]
      exact ⟨rfl, hR'.out, hK⟩
    | some M =>
      rw [hs] at c2 hR'
      simp only [Option.isNone_some] at c2
      have HG := hide (HF.out.2.1 M hs)
      clear hs hv hR
      generalize fixV S 4 = v at *
      go_wp2_with fail
      go_ret
      rw [HG.out.1, ← HG.out.2]
      exact ⟨rfl, hR'.out, hK⟩
  | succ q =>
    have hnx := rnext_any p A C L _ wr hR
    have hb := nextO_lt wr A L _ hR.bl.1 hR.bl.2
    have hE : fixV S (k + 1) = fixV S k + (nextO (fixAt S k)).1 * 256 ^ k := rfl
    have hE2 : fixAt S (k + 1) = (nextO (fixAt S k)).2 := rfl
    rw [← hE2] at hnx
    clear hR hE2
    generalize (nextO (fixAt S k)).1 = b at *
    have hbI : (b : Int) < 256 := by omega
    have hb0 : (0 : Int) ≤ (b : Int) := by omega
    obtain ⟨y, hy⟩ : ∃ y, y = fixV S (k + 1) := ⟨_, rfl⟩
    have HY := hide hy
    rw [hE] at hy
    have hyl : y < 256 ^ (k + 1) := by
     have h1 := Nat.mul_le_mul_right (256 ^ k) (show b ≤ 255 by omega)
     rw [Nat.pow_succ]; omega
    have hyl' := hide hyl
    generalize fixV S k = v at *
    have hk4 : k = 0 ∨ k = 1 ∨ k = 2 ∨ k = 3 := by omega
    rcases hk4 with rfl | rfl | rfl | rfl
    ·have o : bits BinOp.or IntKind.u32 (v : Int) ((b : Int)) = (y : Int) := by
      have := or_u32 v b 0 1 (by rfl) (by simpa using hv) (by simp at hyl hv; omega) (by simp at hv; omega) y (by simpa using hy)
      simpa using this
     clear hy hv hyl hE
     go_wp2_with fail
     refine hnx.mono ?_
     rintro e w1 ⟨rfl, hR1, hK1⟩
     go_wp2_with fail
     go_roundg q
     case measure => omega
     case rel => exact ⟨1, by omega, by rw [← HY.out], by rw [← HY.out]; exact hyl'.out, by go_num, hR1, hK.trans hK1 (fun _ _ h => h)⟩
    ·have o : bits BinOp.or IntKind.u32 (v : Int) ((b : Int) * 256) = (y : Int) := by
      have := or_u32 v b 8 256 (by rfl) (by simpa using hv) (by simp at hyl hv; omega) (by simp at hv; omega) y (by simpa using hy)
      simpa using this
     clear hy hv hyl hE
     go_wp2_with fail
     refine hnx.mono ?_
     rintro e w1 ⟨rfl, hR1, hK1⟩
     go_wp2_with fail
     go_roundg q
     case measure => omega
     case rel => exact ⟨2, by omega, by rw [← HY.out], by rw [← HY.out]; exact hyl'.out, by go_num, hR1, hK.trans hK1 (fun _ _ h => h)⟩
    ·have o : bits BinOp.or IntKind.u32 (v : Int) ((b : Int) * 65536) = (y : Int) := by
      have := or_u32 v b 16 65536 (by rfl) (by simpa using hv) (by simp at hyl hv; omega) (by simp at hv; omega) y (by simpa using hy)
      simpa using this
     clear hy hv hyl hE
     go_wp2_with fail
     refine hnx.mono ?_
     rintro e w1 ⟨rfl, hR1, hK1⟩
     go_wp2_with fail
     go_roundg q
     case measure => omega
     case rel => exact ⟨3, by omega, by rw [← HY.out], by rw [← HY.out]; exact hyl'.out, by go_num, hR1, hK.trans hK1 (fun _ _ h => h)⟩
    ·have o : bits BinOp.or IntKind.u32 (v : Int) ((b : Int) * 16777216) = (y : Int) := by
      have := or_u32 v b 24 16777216 (by rfl) (by simpa using hv) (by simp at hyl hv; omega) (by simp at hv; omega) y (by simpa using hy)
      simpa using this
     clear hy hv hyl hE
     go_wp2_with fail
     refine hnx.mono ?_
     rintro e w1 ⟨rfl, hR1, hK1⟩
     go_wp2_with fail
     go_roundg q
     case measure => omega
     case rel => exact ⟨4, by omega, by rw [← HY.out], by rw [← HY.out]; exact hyl'.out, by go_num, hR1, hK.trans hK1 (fun _ _ h => h)⟩
theorem slice_mid (a : Option Addr) (lo m cap : Nat) (L : List Nat) (w : World) (h2 : lo + m ≤ L.length) (hc : L.length ≤ cap) (ha : cap = 0 ∨ ∃ b off, a = some ⟨b, off, none⟩) (hn : a = none → cap = 0) (hz : BL w a L) :
  ∃ A2 : Option Addr, (∀ wx, (Instr.slice 28 (.slice a L.length cap) (some (.int .i64 (lo : Int))) (some (.int .i64 ((lo : Int) + (m : Int)))) none).run Tryz.prog wx = .ok (.slice A2 m (cap - lo)) wx) ∧
    BL w A2 ((L.drop lo).take m) ∧ (A2 = none → cap - lo = 0) := by
 have ht : Tryz.prog.underlying 28 = some (.slice (Tryz.prog.elem 28)) := by kernel_rfl
 have hs : ∀ wx, (sizeOf (Tryz.prog.elem 28)).run Tryz.prog wx = .ok 1 wx := fun wx => by kernel_rfl
 refine ⟨if cap = lo then a else a.map (·.add (lo * 1)), fun wx => ?_, ?_⟩
 ·rw [run_slice_lh wx _ a L.length cap ht .i64 .i64 (lo : Int) ((lo : Int) + (m : Int)) (by omega) (by omega) (by omega), hs]
  have e : ((lo : Int) + (m : Int)).toNat = lo + m := by omega
  simp [Result.andThen, sliced, e]
 ·rcases ha with h0 | ⟨b, off, rfl⟩
  ·have hL0 : L = [] := List.eq_nil_of_length_eq_zero (by omega)
   subst hL0
   refine ⟨?_, fun _ => by omega⟩
   rw [if_pos (by simp at h2; omega)]
   simpa using hz
  ·by_cases hck : cap = lo
   ·have hm : m = 0 := by omega
    subst hm
    refine ⟨?_, fun _ => by omega⟩
    rw [List.take_zero]
    exact BL.mk (by simp) (.inl rfl)
   ·rw [if_neg hck]
    have e : (some (⟨b, off, none⟩ : Addr)).map (·.add (lo * 1)) = some ⟨b, off + lo, none⟩ := by
     simp only [Option.map_some, Nat.mul_one]
     unfold Addr.add
     split
     ·rename_i e; rw [e, Nat.add_zero]
     ·rfl
    rw [e]
    exact ⟨(hz.drop lo (by omega)).take m, fun e => by cases e⟩
theorem rrText_any (p : Nat) (A : Option Addr) (C : Nat) (L : List Nat) (S : Option (List Nat)) (most : Int) (w : World) (h : RR w p A C L S) (hmost : (Lit.int .i64 most).wf = true) (hsz : L.length ≤ 1000000) :
  Calls Tryz.prog 161 #[.pointer (some ⟨p, 0, none⟩), .int .i64 most] w fun e w' => ∃ v, e = .returned v ∧ w'.ownsRow w.heap.size 5 1 v (getText most S).1.length (lc (getText most S).1) ∧ RR w' p A C L (getText most S).2 ∧ Kept (fun k => k = p) w w' := by
 have hnum := refNum_any p A C L S most w h hmost
 have hlt := getNum_lt most S
 have HT := hide (getText_of most S)
 clear h
 generalize getNum most S = g at *
 obtain ⟨n, S1⟩ := g
 simp only at hnum hlt
 have hnI : (n : Int) ≤ 1099511627776 := by unfold maxNum at hlt; omega
 clear hlt
 go_enter Tryz.func161, Tryz.ntmps161
 go_wp2_with fail
 refine hnum.mono ?_
 rintro e w1 ⟨rfl, h1, hK1⟩
 clear hnum
 have hbad : ∀ m, RR ((w1.drewN m).setCell ⟨p, 2, none⟩ (.bool true)) p A C L none ∧ Kept (fun k => k = p) w ((w1.drewN m).setCell ⟨p, 2, none⟩ (.bool true)) := fun m => by
  have hh : RR (w1.drewN m) p A C L S1 := h1
  exact ⟨hh.bad.1, (hK1.drewN m).trans hh.bad.2 (fun _ _ h => h)⟩
 have HB := hide hbad
 clear hbad
 cases S1 with
 | none =>
   have HT2 : Hid (getText most S = ([], none)) := HT.out
   obtain ⟨c2, f2⟩ := h1.flag
   simp only [Option.isNone_none] at c2
   clear h1
   go_upto_region 2 with fail
   go_cut [26] (fun s wx => s = .bool true ∧ ∃ m, wx = w1.drewN m)
   case first =>
    go_quiet (fail)
    all_goals
     go_wp2_with fail
     go_meet
     exact ⟨rfl, _, rfl⟩
   case rest =>
    obtain ⟨rfl, m, rfl⟩ := hcut
    have hb := HB.out m
    go_wp2_with fail
    go_ret
    rw [HT2.out]
    exact ⟨_, rfl, World.ownsRow_nil _ _ _ _, hb⟩
 | some M =>
   obtain ⟨a, ha, rfl, h2⟩ := h1.open_
   obtain ⟨c0, c1, c2, f0, f1, f2⟩ := cells3 h2
   have hal : (a : Int) ≤ (L.length : Int) := by omega
   have hw1 : IntKind.i64.wrap ((L.length : Int) - (a : Int)) = (L.length : Int) - (a : Int) := IntWalk.i64_in _ (by omega)
   by_cases hl : L.length - a < n
   ·have HT2 : Hid (getText most S = ([], none)) := by rw [HT.out]; simp only [textOf]; rw [if_pos (by rw [List.length_drop]; exact hl)]; rfl
    have d1 : decide ((L.length : Int) - (a : Int) < (n : Int)) = true := decide_eq_true (by omega)
    clear h1 h2
    go_upto_region 2 with fail
    go_cut [26] (fun s wx => s = .bool true ∧ ∃ m, wx = w1.drewN m)
    case first =>
     go_quiet (fail)
     all_goals
      go_wp2_with fail
      go_meet
      exact ⟨rfl, _, rfl⟩
    case rest =>
     obtain ⟨rfl, m, rfl⟩ := hcut
     have hb := HB.out m
     clear d1
     go_wp2_with fail
     go_ret
     rw [HT2.out]
     exact ⟨_, rfl, World.ownsRow_nil _ _ _ _, hb⟩
   ·have HT2 : Hid (getText most S = ((L.drop a).take n, some (L.drop (a + n)))) := by rw [HT.out]; simp only [textOf]; rw [if_neg (by rw [List.length_drop]; exact hl), List.drop_drop]; rfl
    have d1 : decide ((L.length : Int) - (a : Int) < (n : Int)) = false := decide_eq_false (by omega)
    have hmv := fun m => RR.move (w := w1.drewN m) (m := n) (by omega) h1 h2
    have H1 := hide h1
    clear h1 h2
    go_upto_region 2 with fail
    go_cut [26] (fun s wx => s = .bool false ∧ ∃ m, wx = w1.drewN m)
    case first =>
     go_quiet (fail)
     all_goals
      go_wp2_with fail
      go_meet
      exact ⟨rfl, _, rfl⟩
    case rest =>
     obtain ⟨rfl, m, rfl⟩ := hcut
     clear d1
     have hn0 : (0 : Int) ≤ (n : Int) := by omega
     go_upto_region 6 with fail
     have hmv' := hmv m
     clear hmv
     rw [Int.natCast_add] at hmv'
     obtain ⟨Wx, hWx⟩ : ∃ Wx, (w1.drewN m).setCell ⟨p, 1, none⟩ (.int .i64 ((a : Int) + (n : Int))) = Wx := ⟨_, rfl⟩
     have hKx : Kept (fun k => k = p) (w1.drewN m) Wx := by rw [← hWx]; exact hmv'.2
     have k0 : Wx.cell? ⟨p, 0, none⟩ = some (.slice A L.length C) := by rw [← hWx, World.cell?_setCell_other _ _ _ _ (by simp)]; exact c0
     have k1 : Wx.cell? ⟨p, 1, none⟩ = some (.int .i64 ((a : Int) + (n : Int))) := by rw [← hWx]; exact World.cell?_setCell_same' _ _ _ (by show (w1.cell? _).isSome = true; rw [c1]; rfl)
     have hRx : RR Wx p A C L (some (L.drop (a + n))) := by rw [← hWx]; exact hmv'.1
     have hK2 : Kept (fun k => k = p) w Wx := ((hK1.drewN m).trans hKx (fun _ _ h => h))
     rw [hWx]
     clear hmv' hWx hKx c0 c1 c2 f0 f1 f2 HB
     obtain ⟨i0, hi, hq0, hq1, hq2⟩ := info_parts info_u8
     have hRx' := hide hRx
     obtain ⟨_, _, _, _, h4, h5, h6, h7, h8, _⟩ := hRx
     obtain ⟨A2, hsl, hbl, hAn⟩ := slice_mid A a n C L Wx (by omega) h5 h8 h7 h4
     have hb := below_alloc Wx (.cells #[] 5)
     have hown : (Wx.alloc (.cells #[] 5)).ownsRow w.heap.size 5 1 (.slice (some ⟨Wx.heap.size, 0, none⟩) 0 0) 0 [] := World.ownsRow_made Wx #[] 0 hK2.size (by unfold maxLen; omega) rfl
     have hnews := (hbl.below hb).news
     have hone := lc_one ((L.drop a).take n)
     have hlen : (lc ((L.drop a).take n)).length = n := by rw [lc_length, List.length_take, List.length_drop]; omega
     have hnone : A2 = none → n = 0 ∧ C - a = 0 := fun h => by have := hAn h; omega
     have hw2 : IntKind.i64.wrap ((a : Int) + (n : Int) - (n : Int)) = (a : Int) := by rw [show (a : Int) + (n : Int) - (n : Int) = (a : Int) from by omega]; exact IntWalk.i64_in _ (by omega)
     have hw3 : IntKind.i64.wrap (a : Int) = (a : Int) := IntWalk.i64_in _ (by omega)
     have HLn : Hid (((L.drop a).take n).length = n) := by show ((L.drop a).take n).length = n; rw [List.length_take, List.length_drop]; omega
     have k0' := cell_alloc_l (W := Wx) (.cells #[] 5) k0
     have k1' := cell_alloc_l (W := Wx) (.cells #[] 5) k1
     have hn9 : n ≤ 1000000 := by omega
     clear h4 h5 h6 h7 h8 hbl hAn H1 hl hK1 HT hw1
     generalize hnw : lc ((L.drop a).take n) = news at hnews hone hlen
     have HN := hide hnw
     clear hnw
     go_region_law
      ((refine step_append_foot _ (by rfl) (.tmp 39) (.tmp 54) 28 (by rfl) 5 i0 (.int .u8 0) 1 Tryz.underlying28 hi hq0 hq1 hq2 rfl w.heap.size (.slice (some ⟨Wx.heap.size, 0, none⟩) 0 0) 0 [] (by rfl) hown A2 n (C - a) news (by rfl) hlen hnone hnews hone (by unfold maxLen; omega) (by omega) (by simp; have := hK2.size; omega) ?_); intro A3 C3 w3 hown3 hg3)
     all_goals
      go_wp2_with fail
      go_ret
      rw [HT2.out]
      simp only [Nat.zero_add, List.nil_append] at hown3 hg3
      have hKa : Kept (fun _ => False) Wx (Wx.alloc (.cells #[] 5)) := Kept.of_below hb
      have hKg := hg3.undrew.kept (F := fun k => k = Wx.heap.size) (fun g hg => by cases hg; rfl)
      have hKx3 : Kept (fun _ => False) Wx w3 := hKa.trans hKg (fun k hk h => by omega)
      refine ⟨_, rfl, ?_, hRx'.out.kept hKx3 (fun h => h) (fun _ _ _ _ h => h), hK2.trans hKx3 (fun _ _ h => h.elim)⟩
      rw [HLn.out, HN.out]
      exact hown3
end Go.Proofs.YtppdbinppibjhaaGreatDoor
