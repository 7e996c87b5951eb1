/-
  Lists of bytes that lie apart: the first loop marks them, the second grows them one by one.
-/
import Derived.Test.YtpmldopbjlnknaaGreatFlatNil
set_option maxHeartbeats 4000000
set_option maxRecDepth 100000
set_option linter.unusedVariables false
set_option linter.unusedSimpArgs false
namespace Go.Proofs.YtpmldopbjlnknaaGreat
open Go.RowKit
theorem flatBytes_any (b off n cap : Nat) (A : Nat → Option Addr) (l C : Nat → Nat) (X : Nat → List Value) (w : World) (hn : n ≤ 100000) (hl : ∀ r, r < n → l r ≤ 140000000000000) (ha : Apt n b A l C)
  (hc : ∀ r, r < n → w.cell? ⟨b, off + r, none⟩ = some (fv A l C r)) (ho : ∀ r, r < n → w.ownsRow 0 5 1 (fv A l C r) (l r) (X r)) :
  Calls Tryz.prog 74 #[.slice (some ⟨b, off, none⟩) n cap] w fun e w' => e = .returned (.bool true) ∧ St n A l C (fun r => mk r (l r)) w w' := by
 have HC := hide hc
 have HO := hide ho
 have HL := hide hl
 have HA := hide ha
 clear hc ho hl ha
 go_enter Tryz.func74, Tryz.ntmps74
 go_upto_block 0 with fail
 go_cut [] (fun wx => St n A l C (fun r => mk r (l r)) w wx)
 case first =>
  go_wp2_with fail
  go_loopg [3] n (fun q s3 wr => ∃ k : Nat, k + q = n ∧ s3 = .int .i64 (k : Nat) ∧ St n A l C (fun r => if r < k then mk r (l r) else X r) w wr)
  case atStart => exact ⟨0, by omega, rfl, ⟨Kept.refl _ _, fun r hr => by simpa using HO.out r hr⟩⟩
  case round =>
   obtain ⟨k, hkq, rfl, hst⟩ := hrel
   have hk0 : (0 : Int) ≤ (k : Int) := by omega
   cases gk with
   | zero =>
     obtain rfl : k = n := by omega
     have hkz : ¬ ((k : Int) < (k : Int)) := by omega
     have HS := hide (hst.congr (Y := fun r => mk r (l r)) (fun r hr => if_pos hr))
     clear hst
     go_wp2_with fail
     go_meet
     exact HS.out
   | succ q =>
     have hkz : (k : Int) < (n : Int) := by omega
     have hkn : k < n := by omega
     obtain ⟨wo, rfl⟩ : ∃ wo : World, wo = wr := ⟨_, rfl⟩
     have hst0 : St n A l C (fun r => if r = k then mk k 0 ++ (X k).drop 0 else if r < k then mk r (l r) else X r) w wo := hst.congr (fun r hr => by
      by_cases e : r = k
      ·subst e; simp [mk]
      ·rw [if_neg e])
     have hlk := HL.out k hkn
     have hXl : (X k).length = l k := by have := (HO.out k hkn).1; omega
     have HX := hide hXl
     clear hst hXl
     have hrow := hst0.row HA.out (HC.out k hkn)
     unfold fv at hrow
     go_wp2_with fail
     go_loopg [4] (l k) (fun q s4 wr => ∃ i : Nat, i + q = l k ∧ s4 = .int .i64 (i : Nat) ∧ St n A l C (fun r => if r = k then mk k i ++ (X k).drop i else if r < k then mk r (l r) else X r) w wr)
     case atStart => exact ⟨0, by omega, rfl, hst0⟩
     case round =>
      obtain ⟨i, hiq, rfl, hst⟩ := hrel
      clear hst0 hrow
      have hi0 : (0 : Int) ≤ (i : Int) := by omega
      have c1 := hst.row HA.out (HC.out k hkn)
      have hown := hst.2 k hkn
      simp only [if_true] at hown
      unfold fv at c1 hown
      cases gk with
      | zero =>
        have hil : i = l k := by omega
        have hiz : ¬ ((i : Int) < (l k : Int)) := by omega
        have HS : Hid (St n A l C (fun r => if r < k + 1 then mk r (l r) else X r) w wr) := hst.congr (fun r hr => by
         by_cases e : r = k
         ·subst e
          rw [if_pos rfl, if_pos (by omega), hil, List.drop_eq_nil_iff.2 (by rw [HX.out]; exact Nat.le_refl _), List.append_nil]
         ·rw [if_neg e]
          by_cases e2 : r < k
          ·rw [if_pos e2, if_pos (by omega)]
          ·rw [if_neg e2, if_neg (by omega)])
        clear hst hown hil
        go_wp2_with fail
        go_roundg q
        case measure => omega
        case rel => exact ⟨k + 1, by omega, by go_num, HS.out⟩
      | succ q2 =>
        have hiz : (i : Int) < (l k : Int) := by omega
        have hil : i < (mk k i ++ (X k).drop i).length := by rw [List.length_append, mk_length, List.length_drop, HX.out]; omega
        obtain ⟨g, C', hv, c3, f3, hlc, hcm⟩ := owns_cell hown (List.getElem?_eq_getElem hil)
        generalize (mk k i ++ (X k).drop i)[i] = u0 at c3
        have hgo : (fv A l C k).ownBlock = some g := by unfold fv; rw [hv]; rfl
        have hgb : g ≠ b := HA.out.nb k g hkn hgo
        have hset := hst.set HA.out (i := i) (u := .int .u8 (markN k i : Nat)) hkn hgo
        have HS : Hid (∀ m, St n A l C (fun r => if r = k then mk k (i + 1) ++ (X k).drop (i + 1) else if r < k then mk r (l r) else X r) w ((wr.setCell ⟨g, i, none⟩ (.int .u8 (markN k i : Nat))).drewN m)) := fun m => (hset.congr (fun r hr => by
         by_cases e : r = k
         ·simp only [if_pos e, if_true]
          exact mk_set k i (X k) (by rw [HX.out]; omega)
         ·simp only [if_neg e])).drewN m
        have c1' : (wr.setCell ⟨g, i, none⟩ (.int .u8 (markN k i : Nat))).cell? ⟨b, off + k, none⟩ = some (.slice (A k) (l k) (C k)) := by
         rw [World.cell?_setCell_other _ _ _ _ (by intro e; injection e with e1; first | exact hgb e1 | exact hgb e1.symm)]
         exact c1
        have hm := fun W : World => markByteN k i W (by omega) (by omega)
        injection hv with hAk _ _
        rw [hAk] at c1 c1'
        clear hst hown hset hil hAk
        go_upto_region 7 with fail
        go_region_held3 (fun w' => w'.cell? ⟨b, off + k, none⟩ = some (.slice (some ⟨g, 0, none⟩) (l k) (C k))) (first | exact c1 | exact c1') (first | (go_at_call 95; refine (hm _).mono ?_; rintro e w' ⟨rfl, rfl⟩))
        all_goals
         go_wp2_with fail
         go_roundg q2
         case measure => omega
         case rel => exact ⟨i + 1, by omega, by go_num, HS.out 1⟩
 case rest =>
  have hst1 := hcut
  have hsw : w.heap.size ≤ wc.heap.size := hst1.1.size
  have hvG : ∀ r g, r < n → (fv A l C r).ownBlock = some g → g ≠ wc.heap.size := fun r g hr hg => by
   have := (owns_cells (HO.out r hr) g hg).1
   omega
  have hbG : 0 < n → b ≠ wc.heap.size := fun h0 => by
   have := block_lt_of_cell (HC.out 0 h0)
   have h2 : b < w.heap.size := this
   omega
  have HVG := hide hvG
  have HBG := hide hbG
  have hmk := fun wx => run_make_row' (P := Tryz.prog) 34 26 (.slice none 0 0) 24 Tryz.underlying34 info_sb rfl .i64 .i64 n (by omega) (by omega) wx
  have HST1 := hide (hst1.1.alloc (.cells (madeCells #[.slice none 0 0] n) 26))
  have hst2 : St n A l C (fun r => mk r (l r)) w (wc.alloc (.cells (madeCells #[.slice none 0 0] n) 26)) := ⟨HST1.out, fun r hr => (hst1.2 r hr).alloc _⟩
  have hgs2 : GS n wc.heap.size A l C w 0 (fun r => mk r (l r + 64)) (wc.alloc (.cells (madeCells #[.slice none 0 0] n) 26)) := GS.made w wc
  have HS2 := hide hst2
  have HG2 := hide hgs2
  clear hst1 hcut HST1 hst2 hgs2 hvG hbG
  obtain ⟨i0, hi, hq0, hq1, hq2⟩ := info_parts info_u8
  go_upto_block 4 with fail
  clear hmk
  generalize hG : wc.heap.size = G at *
  go_cut [] (fun wx => St n A l C (fun r => mk r (l r)) w wx ∧ GS n G A l C w n (fun r => mk r (l r + 64)) wx)
  case first =>
   have HGG := hide hG
   clear hG
   go_wp2_with fail
   go_loopg [6] n (fun q s6 wr => ∃ k : Nat, k + q = n ∧ s6 = .int .i64 (k : Nat) ∧ St n A l C (fun r => mk r (l r)) w wr ∧ GS n G A l C w k (fun r => mk r (l r + 64)) wr)
   case atStart => exact ⟨0, by omega, rfl, HS2.out, HG2.out⟩
   case round =>
    obtain ⟨k, hkq, rfl, hst, hgs⟩ := hrel
    have hk0 : (0 : Int) ≤ (k : Int) := by omega
    cases gk with
    | zero =>
      obtain rfl : k = n := by omega
      have hkz : ¬ ((k : Int) < (k : Int)) := by omega
      have HS := hide (And.intro hst hgs)
      clear hst hgs
      go_wp2_with fail
      go_meet
      exact HS.out
    | succ q =>
      have hkz : (k : Int) < (n : Int) := by omega
      have hkn : k < n := by omega
      obtain ⟨wo, rfl⟩ : ∃ wo : World, wo = wr := ⟨_, rfl⟩
      have hlk := HL.out k hkn
      have c1 := hst.row HA.out (HC.out k hkn)
      have HST := hide hst
      have HGS := hide hgs
      have hownk := hst.2 k hkn
      have hwo : w.heap.size ≤ wo.heap.size := hst.1.size
      clear hst hgs
      unfold fv at c1
      go_wp2_with fail
      go_loopg [7, 8] 64 (fun q s7 s8 wr => ∃ (i : Nat) (A' : Option Addr) (C' : Nat), i + q = 64 ∧ s8 = .int .i64 (i : Nat) ∧ s7 = .slice A' (l k + i) C' ∧ wr.ownsRow 0 5 1 (.slice A' (l k + i) C') (l k + i) (mk k (l k + i)) ∧
       (∀ x, (Value.slice A' (l k + i) C').ownBlock = some x → (fv A l C k).ownBlock = some x ∨ wo.heap.size ≤ x) ∧ Kept (fun x => (fv A l C k).ownBlock = some x) wo wr ∧ wr.ownsRow 0 5 1 (fv A l C k) (l k) (mk k (l k)))
      case atStart => exact ⟨0, A k, C k, by omega, rfl, rfl, hownk, fun x hx => .inl hx, Kept.refl _ _, hownk⟩
      case round =>
       obtain ⟨i, A', C', hiq, rfl, rfl, hog, hgo, hK, hvk⟩ := hrel
       have hi0 : (0 : Int) ≤ (i : Int) := by omega
       have hbk : ¬ (fv A l C k).ownBlock = some b := fun h => HA.out.nb k b hkn h rfl
       have c2 := hK.cell c1 hbk
       clear hownk
       cases gk with
       | zero =>
         obtain rfl : i = 64 := by omega
         have hiz : ¬ ((64 : Int) < (64 : Int)) := by omega
         have hGk : ¬ (fv A l C k).ownBlock = some G := fun h => HVG.out k G hkn h rfl
         have hgs3 := HGS.out.kept hK hGk (fun r g hr h hf => by
          rcases h with h | h
          ·have := HA.out.dist r k g (by omega) hkn h hf
           omega
          ·have := (owns_cells (HO.out k hkn) g hf).1
           omega)
         have hst3 := HST.out.one HA.out hkn hK (fun g hg => .inl hg) hvk
         obtain ⟨u, d1, d2⟩ := hgs3.cell hkn
         have HS : Hid (St n A l C (fun r => mk r (l r)) w (wr.setCell ⟨G, k, none⟩ (.slice A' (l k + 64) C')) ∧ GS n G A l C w (k + 1) (fun r => mk r (l r + 64)) (wr.setCell ⟨G, k, none⟩ (.slice A' (l k + 64) C'))) :=
          ⟨hst3.setG hsw HVG.out _ _, hgs3.put hkn HVG.out hog (fun g hg => by
           rcases hgo g hg with h | h
           ·exact .inl h
           ·refine .inr ⟨by omega, fun e => ?_⟩
            obtain ⟨cur, h1, _⟩ := HGS.out
            have := block_lt h1
            omega)⟩
         clear hgs3 hst3 hog hgo hK hvk
         go_wp2_with fail
         go_roundg q
         case measure => omega
         case rel => exact ⟨k + 1, by omega, by go_num, HS.out⟩
       | succ q2 =>
         have hiz : (i : Int) < (64 : Int) := by omega
         have hm := fun W : World => markByteN k (l k + i) W (by omega) (by omega)
         rw [Int.natCast_add] at hm
         have hogA := owns_thru hog (below_alloc wr (.cells #[.int .u8 (markN k (l k + i) : Nat)] 5))
         have hn1 := cell_one_new wr (.int .u8 (markN k (l k + i) : Nat)) 5
         have HGO := hide hgo
         have HOG := hide hog
         have HVK := hide hvk
         clear hog hgo hvk
         go_wp2_with (first
          | (go_at_call 95; refine (hm _).mono ?_; rintro e w' ⟨rfl, rfl⟩)
          | (at_builtin; go_must (refine wpList_append_keep _ rfl (.tmp 57) (.tmp 67) 26 rfl 5 i0 (.int .u8 0) 1 Tryz.underlying26 hi hq0 hq1 hq2 rfl 0 _ (l k + i) (mk k (l k + i)) rfl hogA ⟨wr.heap.size, 0, none⟩ 1 1 [.int .u8 (markN k (l k + i) : Nat)] rfl rfl hn1 (by simp [Value.oneCell']) (by unfold maxLen; omega) (by omega) (by omega) ?_); intro A3 C3 w3 hown3 hg3 hold3))
         obtain ⟨e1, e2, e3⟩ := grow_step HVK.out HOG.out (by omega) hK HGO.out (below_alloc wr _) hg3 hold3
         rw [← mk_succ] at hown3
         go_roundg q2
         case measure => omega
         case rel => exact ⟨i + 1, A3, C3, by omega, by go_num, rfl, hown3, e3, e1, e2⟩
  case rest =>
   obtain ⟨hstA, hgsA⟩ := hcut
   have HSA := hide hstA
   have HGA := hide hgsA
   clear hstA hgsA HS2 HG2 hG
   obtain ⟨wA, hwA⟩ : ∃ wA, wc = wA := ⟨_, rfl⟩
   go_upto_block 8 with fail
   go_cut [] (fun wx => St n A l C (fun r => mk r (l r)) w wx ∧ GS n G A l C w n (fun r => mk r (l r + 64)) wx)
   case first =>
    clear hwA
    go_wp2_with fail
    go_loopg [9] n (fun q s9 wr => ∃ k : Nat, k + q = n ∧ s9 = .int .i64 (k : Nat) ∧ St n A l C (fun r => mk r (l r)) w wr ∧ GS n G A l C w n (fun r => mk r (l r + 64)) wr)
    case atStart => exact ⟨0, by omega, rfl, HSA.out, HGA.out⟩
    case round =>
     obtain ⟨k, hkq, rfl, hst, hgs⟩ := hrel
     have hk0 : (0 : Int) ≤ (k : Int) := by omega
     cases gk with
     | zero =>
       obtain rfl : k = n := by omega
       have hkz : ¬ ((k : Int) < (k : Int)) := by omega
       have HS := hide (And.intro hst hgs)
       clear hst hgs
       go_wp2_with fail
       go_meet
       exact HS.out
     | succ q =>
       have hkz : (k : Int) < (n : Int) := by omega
       have hkn : k < n := by omega
       have hlk := HL.out k hkn
       have HSG := hide (And.intro hst hgs)
       clear hst hgs
       obtain ⟨wo, rfl⟩ : ∃ wo : World, wo = wr := ⟨_, rfl⟩
       go_wp2_with fail
       go_loopg [10] (l k + 64) (fun q s10 wr => ∃ i : Nat, i + q = l k + 64 ∧ s10 = .int .i64 (i : Nat) ∧ St n A l C (fun r => mk r (l r)) w wr ∧ GS n G A l C w n (fun r => mk r (l r + 64)) wr)
       case atStart => exact ⟨0, by omega, rfl, HSG.out⟩
       case round =>
        obtain ⟨i, hiq, rfl, hst, hgs⟩ := hrel
        have hi0 : (0 : Int) ≤ (i : Int) := by omega
        have c1 := hst.row HA.out (HC.out k hkn)
        have hownk := hst.2 k hkn
        obtain ⟨A', C', d1, hown⟩ := hgs.get hkn
        have HS : Hid (∀ m, St n A l C (fun r => mk r (l r)) w (wr.drewN m) ∧ GS n G A l C w n (fun r => mk r (l r + 64)) (wr.drewN m)) := fun m => ⟨hst.drewN m, hgs.drewN m⟩
        have HS0 := hide (And.intro hst hgs)
        unfold fv at c1 hownk
        clear hst hgs
        cases gk with
        | zero =>
          have hiz : ¬ ((i : Int) < (l k : Int) + 64) := by omega
          clear hown hownk
          go_wp2_with fail
          go_roundg q
          case measure => omega
          case rel => exact ⟨k + 1, by omega, by go_num, HS0.out⟩
        | succ q2 =>
          have hiz : (i : Int) < (l k : Int) + 64 := by omega
          obtain ⟨g, C2, hv, d3, _, hlc, hcm⟩ := owns_cell hown (mk_get k (l k + 64) i (by omega))
          injection hv with hA' _ _
          have hm := fun W : World => (markByteN k i W (by omega) (by omega)).mono (R' := fun e w' => e = .returned (.int .u8 (markN k i : Nat)) ∧ w' = W) fun _ _ ⟨he, hw⟩ => ⟨he, hw.symm⟩
          subst hA'
          clear hown
          by_cases hlt : i < l k
          ·obtain ⟨g2, C3, hv2, d4, _, hlc2, hcm2⟩ := owns_cell hownk (mk_get k (l k) i hlt)
           injection hv2 with hAk _ _
           rw [hAk] at c1
           have hi1 : (i : Int) < (l k : Int) := by omega
           have e1 : decide ((i : Int) < (l k : Int)) = true := decide_eq_true hi1
           have e2 : decide (i < l k) = true := decide_eq_true hlt
           clear hownk hAk
           go_upto_region 24 with fail
           go_cut [122] (fun s wx => s = .bool false ∧ ∃ m, wx = wr.drewN m)
           case first =>
            go_quiet ((go_at_call 95; exact Calls.quiet_of_same (hm _)))
            all_goals
             go_wp2_with fail
             go_meet
             exact ⟨rfl, _, rfl⟩
           case rest =>
            obtain ⟨rfl, m, rfl⟩ := hcut
            clear e1 e2
            go_wp2_with fail
            go_roundg q2
            case measure => omega
            case rel => exact ⟨i + 1, by omega, by go_num, HS.out m⟩
          ·have hi1 : ¬ ((i : Int) < (l k : Int)) := by omega
           have e1 : decide ((i : Int) < (l k : Int)) = false := decide_eq_false hi1
           have e2 : decide (i < l k) = false := decide_eq_false hlt
           clear hownk
           go_upto_region 24 with fail
           go_cut [122] (fun s wx => s = .bool false ∧ ∃ m, wx = wr.drewN m)
           case first =>
            go_quiet ((go_at_call 95; exact Calls.quiet_of_same (hm _)))
            all_goals
             go_wp2_with fail
             go_meet
             exact ⟨rfl, _, rfl⟩
           case rest =>
            obtain ⟨rfl, m, rfl⟩ := hcut
            clear e1 e2
            go_wp2_with fail
            go_roundg q2
            case measure => omega
            case rel => exact ⟨i + 1, by omega, by go_num, HS.out m⟩
   case rest =>
    obtain ⟨hstB, hgsB⟩ := hcut
    have HSB := hide hstB
    have hgsB0 : GS n G A l C w 0 (fun r => mk r (l r) ++ mk (r + n) 64) wc := hgsB.less
    have HGB := hide hgsB0
    clear hstB hgsB hgsB0 HSA HGA hwA
    have hmk64 := fun wx => run_make_row' (P := Tryz.prog) 26 5 (.int .u8 0) 1 Tryz.underlying26 info_u8 rfl .i64 .i64 64 (by omega) (by omega) wx
    have hmk2 : ∀ wx, (Instr.makeSlice 26 (.int .i64 64) (.int .i64 64)).run Tryz.prog wx = .ok (.slice (some ⟨wx.heap.size, 0, none⟩) 64 64) (wx.alloc (.cells (madeCells #[.int .u8 0] 64) 5)) := hmk64
    clear hmk64
    go_upto_block 12 with fail
    go_cut [] (fun wx => St n A l C (fun r => mk r (l r)) w wx ∧ GS n G A l C w n (fun r => mk r (l r) ++ mk (r + n) 64) wx)
    case first =>
     go_wp2_with fail
     go_loopg [11] n (fun q s11 wr => ∃ k : Nat, k + q = n ∧ s11 = .int .i64 (k : Nat) ∧ St n A l C (fun r => mk r (l r)) w wr ∧ GS n G A l C w k (fun r => mk r (l r) ++ mk (r + n) 64) wr)
     case atStart => exact ⟨0, by omega, rfl, HSB.out, HGB.out⟩
     case round =>
      obtain ⟨k, hkq, rfl, hst, hgs⟩ := hrel
      have hk0 : (0 : Int) ≤ (k : Int) := by omega
      cases gk with
      | zero =>
        obtain rfl : k = n := by omega
        have hkz : ¬ ((k : Int) < (k : Int)) := by omega
        have HS := hide (And.intro hst hgs)
        clear hst hgs
        go_wp2_with fail
        go_meet
        exact HS.out
      | succ q =>
        have hkz : (k : Int) < (n : Int) := by omega
        have hkn : k < n := by omega
        obtain ⟨wo, rfl⟩ : ∃ wo : World, wo = wr := ⟨_, rfl⟩
        have hlk := HL.out k hkn
        have c1 := hst.row HA.out (HC.out k hkn)
        have HST := hide hst
        have HGS := hide hgs
        have hownk := hst.2 k hkn
        have hwo : w.heap.size ≤ wo.heap.size := hst.1.size
        have hbA : Below wo.heap.size wo (wo.alloc (.cells (madeCells #[.int .u8 0] 64) 5)) := below_alloc wo _
        have hmany0 : (wo.alloc (.cells (madeCells #[.int .u8 0] 64) 5)).ownsRow 0 5 1 (.slice (some ⟨wo.heap.size, 0, none⟩) 64 64) 64 (mk (k + n) 0 ++ (List.replicate 64 (.int .u8 0)).drop 0) := by
         refine ⟨by simp [mk], .inr ⟨wo.heap.size, 64, _, rfl, Nat.zero_le _, heap_alloc_new _ _, Nat.le_refl _, by unfold maxLen; omega, ?_, ?_⟩⟩
         ·rw [← Array.length_toList, toList_madeCells_one, List.length_replicate]
         ·rw [toList_madeCells_one]; simp [mk]
        have HM0 := hide hmany0
        have HBA := hide hbA
        clear hst hgs hmany0 hbA
        unfold fv at c1
        go_wp2_with fail
        go_loopg [13] 64 (fun q s13 wr => ∃ i : Nat, i + q = 64 ∧ s13 = .int .i64 (i : Nat) ∧ wr.ownsRow 0 5 1 (.slice (some ⟨wo.heap.size, 0, none⟩) 64 64) 64 (mk (k + n) i ++ (List.replicate 64 (.int .u8 0)).drop i) ∧ Below wo.heap.size wo wr)
        case atStart => exact ⟨0, by omega, rfl, HM0.out, HBA.out⟩
        case round =>
         obtain ⟨i, hiq, rfl, hmany, hbl⟩ := hrel
         have hi0 : (0 : Int) ≤ (i : Int) := by omega
         cases gk with
         | zero =>
           obtain rfl : i = 64 := by omega
           have hiz : ¬ ((64 : Int) < (64 : Int)) := by omega
           rw [List.drop_eq_nil_iff.2 (by simp), List.append_nil] at hmany
           have hnews := hmany.cells (g := wo.heap.size) rfl
           have hone := mk_one (k + n) 64
           have hlen := mk_length (k + n) 64
           have hown2 := owns_thru hownk hbl
           have c2 := cell_thru c1 hbl
           have HBL := hide hbl
           have hGlt : G < wo.heap.size := by
            obtain ⟨cur, h1, _⟩ := HGS.out
            exact block_lt h1
           unfold fv at hown2
           generalize hnw : mk (k + n) 64 = news at hnews hone hlen
           have HN := hide hnw
           have hgB : GS n G A l C w k (fun r => mk r (l r) ++ mk (r + n) 64) wr := HGS.out.kept (Kept.of_below (F := fun _ => False) hbl) (fun h => h) (fun _ _ _ _ h => h)
           have hGk : ¬ (fv A l C k).ownBlock = some G := fun h => HVG.out k G hkn h rfl
           have hkG : ∀ w3, Kept (fun x => (fv A l C k).ownBlock = some x) wr w3 → GS n G A l C w k (fun r => mk r (l r) ++ mk (r + n) 64) w3 := fun w3 hK => hgB.kept hK hGk (fun r g hr h hf => by
            rcases h with h | h
            ·have := HA.out.dist r k g (by omega) hkn h hf
             omega
            ·have := (owns_cells (HO.out k hkn) g hf).1
             omega)
           have HKG := hide hkG
           have hcellG : ∀ w3, Kept (fun x => (fv A l C k).ownBlock = some x) wr w3 → ∃ u, w3.cell? ⟨G, k, none⟩ = some u ∧ w3.frozen? ⟨G, k, none⟩ = false := fun w3 hK => (HKG.out w3 hK).cell hkn
           have HCG := hide hcellG
           have hstB : St n A l C (fun r => mk r (l r)) w wr := ⟨HST.out.1.trans (Kept.of_below (F := fun _ => False) hbl) (fun _ _ h => h.elim), fun r hr => owns_thru (HST.out.2 r hr) hbl⟩
           have HSTB := hide hstB
           clear hmany hownk hbl hnw hgB hkG hcellG hstB hGk
           go_wp2_with (at_builtin; go_must (refine wpList_append_keep _ rfl (.tmp 148) (.tmp 149) 26 rfl 5 i0 (.int .u8 0) 1 Tryz.underlying26 hi hq0 hq1 hq2 rfl 0 _ (l k) (mk k (l k)) rfl hown2 ⟨wo.heap.size, 0, none⟩ 64 64 news rfl hlen hnews hone (by unfold maxLen; omega) (by omega) (by omega) ?_); intro A3 C3 w3 hown3 hg3 hold3; have hK3 := hg3.kept (F := fun x => (fv A l C k).ownBlock = some x) (fun _ h => h); obtain ⟨u3, d1, d2⟩ := HCG.out w3 hK3)
           rw [← HN.out] at hown3
           have hS3 := HSTB.out.one HA.out hkn hK3 (fun g hg => .inl hg) hold3
           have hG3 := (HKG.out w3 hK3).put hkn HVG.out hown3 (fun g hg => by
            rcases hg3.foot (F := fun x => (fv A l C k).ownBlock = some x) (fun _ h => h) g hg with h | h
            ·exact .inl h
            ·have := HBL.out.size
             exact .inr ⟨by omega, by omega⟩)
           have HS := hide (And.intro (hS3.setG hsw HVG.out k (.slice A3 (l k + 64) C3)) hG3)
           clear hS3 hG3 hown3 hold3
           go_roundg q
           case measure => omega
           case rel => exact ⟨k + 1, by omega, by go_num, HS.out⟩
         | succ q2 =>
           have hiz : (i : Int) < (64 : Int) := by omega
           have hil : i < (mk (k + n) i ++ (List.replicate 64 (Value.int .u8 0)).drop i).length := by rw [List.length_append, mk_length, List.length_drop, List.length_replicate]; omega
           obtain ⟨g, C', hv, c3, f3, _, _⟩ := owns_cell hmany (List.getElem?_eq_getElem hil)
           generalize (mk (k + n) i ++ (List.replicate 64 (Value.int .u8 0)).drop i)[i] = u0 at c3
           cases hv
           have hset := owns_set (i := i) hmany rfl (.int .u8 (markN (k + n) i : Nat))
           rw [mk_set (k + n) i _ (by rw [List.length_replicate]; omega)] at hset
           have HS := hide hset
           have HB : Hid (Below wo.heap.size wo (wr.setCell ⟨wo.heap.size, i, none⟩ (.int .u8 (markN (k + n) i : Nat)))) := hbl.setCell (Nat.le_refl _) _
           have hm := fun W : World => markByteN (k + n) i W (by omega) (by omega)
           rw [Int.natCast_add] at hm
           clear hmany hset hil hownk hbl
           go_wp2_with (go_at_call 95; refine (hm _).mono ?_; rintro e w' ⟨rfl, rfl⟩)
           go_roundg q2
           case measure => omega
           case rel => exact ⟨i + 1, by omega, by go_num, HS.out, HB.out⟩
    case rest =>
     obtain ⟨hstC, hgsC⟩ := hcut
     have HSC := hide hstC
     have HGC := hide hgsC
     clear hstC hgsC HSB HGB hmk2
     go_wp2_with fail
     go_loopg [14] n (fun q s14 wr => ∃ k : Nat, k + q = n ∧ s14 = .int .i64 (k : Nat) ∧ St n A l C (fun r => mk r (l r)) w wr ∧ GS n G A l C w n (fun r => mk r (l r) ++ mk (r + n) 64) wr)
     case atStart => exact ⟨0, by omega, rfl, HSC.out, HGC.out⟩
     case round =>
      obtain ⟨k, hkq, rfl, hst, hgs⟩ := hrel
      have hk0 : (0 : Int) ≤ (k : Int) := by omega
      cases gk with
      | zero =>
        obtain rfl : k = n := by omega
        have hkz : ¬ ((k : Int) < (k : Int)) := by omega
        have HS := hide hst
        clear hst hgs
        go_wp2_with fail
        go_ret
        exact ⟨rfl, HS.out⟩
      | succ q =>
        have hkz : (k : Int) < (n : Int) := by omega
        have hkn : k < n := by omega
        have hlk := HL.out k hkn
        have HSG := hide (And.intro hst hgs)
        have c0 := hst.row HA.out (HC.out k hkn)
        unfold fv at c0
        clear hst hgs
        obtain ⟨wo, rfl⟩ : ∃ wo : World, wo = wr := ⟨_, rfl⟩
        go_wp2_with fail
        go_loopg [15] (l k) (fun q s15 wr => ∃ i : Nat, i + q = l k ∧ s15 = .int .i64 (i : Nat) ∧ St n A l C (fun r => mk r (l r)) w wr ∧ GS n G A l C w n (fun r => mk r (l r) ++ mk (r + n) 64) wr)
        case atStart => exact ⟨0, by omega, rfl, HSG.out⟩
        case round =>
         obtain ⟨i, hiq, rfl, hst, hgs⟩ := hrel
         clear c0
         have hi0 : (0 : Int) ≤ (i : Int) := by omega
         have c1 := hst.row HA.out (HC.out k hkn)
         have hownk := hst.2 k hkn
         obtain ⟨A', C', d1, hown⟩ := hgs.get hkn
         have HS : Hid (∀ m, St n A l C (fun r => mk r (l r)) w (wr.drewN m) ∧ GS n G A l C w n (fun r => mk r (l r) ++ mk (r + n) 64) (wr.drewN m)) := fun m => ⟨hst.drewN m, hgs.drewN m⟩
         have HS0 := hide (And.intro hst hgs)
         unfold fv at c1 hownk
         clear hst hgs
         cases gk with
         | zero =>
           have hiz : ¬ ((i : Int) < (l k : Int)) := by omega
           clear hown hownk
           go_wp2_with fail
           go_roundg q
           case measure => omega
           case rel => exact ⟨k + 1, by omega, by go_num, HS0.out⟩
         | succ q2 =>
           have hiz : (i : Int) < (l k : Int) := by omega
           have hi64 : (i : Int) < (l k : Int) + 64 := by omega
           have hlt : i < l k := by omega
           have hgi : (mk k (l k) ++ mk (k + n) 64)[i]? = some (.int .u8 (markN k i : Nat)) := by rw [List.getElem?_append_left (by rw [mk_length]; exact hlt)]; exact mk_get k (l k) i hlt
           obtain ⟨g, C2, hv, d3, _, hlc, hcm⟩ := owns_cell hown hgi
           injection hv with hA' _ _
           have hm := fun W : World => (markByteN k i W (by omega) (by omega)).mono (R' := fun e w' => e = .returned (.int .u8 (markN k i : Nat)) ∧ w' = W) fun _ _ ⟨he, hw⟩ => ⟨he, hw.symm⟩
           subst hA'
           obtain ⟨g2, C3, hv2, d4, _, hlc2, hcm2⟩ := owns_cell hownk (mk_get k (l k) i hlt)
           injection hv2 with hAk _ _
           rw [hAk] at c1
           clear hown hownk hAk hgi hlt
           go_upto_region 41 with fail
           go_cut [192] (fun s wx => s = .bool false ∧ ∃ m, wx = wr.drewN m)
           case first =>
            go_quiet ((go_at_call 95; exact Calls.quiet_of_same (hm _)))
            all_goals
             go_wp2_with fail
             go_meet
             exact ⟨rfl, _, rfl⟩
           case rest =>
            obtain ⟨rfl, m, rfl⟩ := hcut
            go_wp2_with fail
            go_roundg q2
            case measure => omega
            case rel => exact ⟨i + 1, by omega, by go_num, HS.out m⟩
open Go.RowKit
def bagCells (v : Value) : Array Value := #[.slice none 0 0, .slice none 0 0, .slice none 0 0, .slice none 0 0, .slice none 0 0, v, .slice none 0 0, .slice none 0 0, .slice none 0 0, .slice none 0 0, .slice none 0 0, .slice none 0 0, .slice none 0 0, .slice none 0 0, .slice none 0 0, .slice none 0 0, .slice none 0 0, .slice none 0 0, .slice none 0 0, .slice none 0 0, .slice none 0 0]
def Bag (w : World) (p : Nat) (v : Value) : Prop := w.heap[p]? = some (.cells (bagCells v) 93 (0, 0))
theorem Bag.cell {w : World} {p : Nat} {v : Value} (h : Bag w p v) (i : Nat) : w.cell? ⟨p, i, none⟩ = (bagCells v)[i]? := cell_of_row _ _ _ _ _ _ h
theorem Bag.below {w w' : World} {p : Nat} {v : Value} (h : Bag w p v) (hb : Below w.heap.size w w') : Bag w' p v := (hb.block p (block_lt h)).trans h
theorem Bag.kept {F : Nat → Prop} {w w' : World} {p : Nat} {v : Value} (h : Bag w p v) (hk : Kept F w w') (hp : ¬ F p) : Bag w' p v := hk.heap h hp
theorem bagApart_any (p b off n cap : Nat) (A : Nat → Option Addr) (l C : Nat → Nat) (X : Nat → List Value) (w : World) (hn : n ≤ 100000) (hl : ∀ r, r < n → l r ≤ 140000000000000) (ha : Apt n b A l C)
  (hp : Bag w p (.slice (some ⟨b, off, none⟩) n cap)) (hpv : ∀ r, r < n → (fv A l C r).ownBlock ≠ some p)
  (hc : ∀ r, r < n → w.cell? ⟨b, off + r, none⟩ = some (fv A l C r)) (ho : ∀ r, r < n → w.ownsRow 0 5 1 (fv A l C r) (l r) (X r)) :
  Calls Tryz.prog 40 #[.pointer (some ⟨p, 0, none⟩)] w fun e w' => e = .returned (.bool true) ∧ St n A l C (fun r => mk r (l r)) w w' := by
 have c0 : w.cell? ⟨p, 0, none⟩ = some (.slice none 0 0) := hp.cell 0
 have HC := hide hc
 have HO := hide ho
 have HP := hide hp
 have hnp : ¬ FF n A l C p := fun ⟨r, hr, h⟩ => hpv r hr h
 have HNP := hide hnp
 clear hc ho hp hpv hnp
 go_enter Tryz.func40, Tryz.ntmps40
 go_wp2_with fail
 refine (nil_Limbs _).mono ?_
 rintro e w1 ⟨rfl, hb1⟩
 have hp1 := HP.out.below hb1
 have HB1 := hide hb1
 have c1 : w1.cell? ⟨p, 1, none⟩ = some (.slice none 0 0) := hp1.cell 1
 have HPP1 := hide hp1
 clear hp1 hb1 c0
 go_wp2_with fail
 refine (nil_Words _).mono ?_
 rintro e w2 ⟨rfl, hb2⟩
 have hp2 := HPP1.out.below hb2
 have HB2 : Hid (Below w.heap.size w w2) := HB1.out.trans (hb2.mono HB1.out.size)
 have c2 : w2.cell? ⟨p, 2, none⟩ = some (.slice none 0 0) := hp2.cell 2
 have HPP2 := hide hp2
 clear hp2 hb2 c1
 go_wp2_with fail
 refine (nil_Ints _).mono ?_
 rintro e w3 ⟨rfl, hb3⟩
 have hp3 := HPP2.out.below hb3
 have HB3 : Hid (Below w.heap.size w w3) := HB2.out.trans (hb3.mono HB2.out.size)
 have c3 : w3.cell? ⟨p, 3, none⟩ = some (.slice none 0 0) := hp3.cell 3
 have HPP3 := hide hp3
 clear hp3 hb3 c2
 go_wp2_with fail
 refine (nil_Longs _).mono ?_
 rintro e w4 ⟨rfl, hb4⟩
 have hp4 := HPP3.out.below hb4
 have HB4 : Hid (Below w.heap.size w w4) := HB3.out.trans (hb4.mono HB3.out.size)
 have c4 : w4.cell? ⟨p, 4, none⟩ = some (.slice none 0 0) := hp4.cell 4
 have HPP4 := hide hp4
 clear hp4 hb4 c3
 go_wp2_with fail
 refine (nil_Texts _).mono ?_
 rintro e w5 ⟨rfl, hb5⟩
 have hp5 := HPP4.out.below hb5
 have HB5 : Hid (Below w.heap.size w w5) := HB4.out.trans (hb5.mono HB4.out.size)
 have c5 : w5.cell? ⟨p, 5, none⟩ = some (.slice (some ⟨b, off, none⟩) n cap) := hp5.cell 5
 have HPP5 := hide hp5
 clear hp5 hb5 c4
 go_wp2_with fail
 refine (flatBytes_any b off n cap A l C X w5 hn hl ha (fun r hr => cell_thru (HC.out r hr) HB5.out) (fun r hr => owns_thru (HO.out r hr) HB5.out)).mono ?_
 rintro e w6 ⟨rfl, hst⟩
 have hp6 := HPP5.out.kept hst.1 HNP.out
 have c6 : w6.cell? ⟨p, 6, none⟩ = some (.slice none 0 0) := hp6.cell 6
 have HPP6 := hide hp6
 have HST := hide hst
 clear hp6 hst c5
 go_wp2_with fail
 refine (nil_Truths _).mono ?_
 rintro e w7 ⟨rfl, hb7⟩
 have hp7 := HPP6.out.below hb7
 have HB7 := hide hb7
 have c7 : w7.cell? ⟨p, 7, none⟩ = some (.slice none 0 0) := hp7.cell 7
 have HPP7 := hide hp7
 clear hp7 hb7 c6
 go_wp2_with fail
 refine (nil_Nodes _).mono ?_
 rintro e w8 ⟨rfl, hb8⟩
 have hp8 := HPP7.out.below hb8
 have HB8 : Hid (Below w6.heap.size w6 w8) := HB7.out.trans (hb8.mono HB7.out.size)
 have c8 : w8.cell? ⟨p, 8, none⟩ = some (.slice none 0 0) := hp8.cell 8
 have HPP8 := hide hp8
 clear hp8 hb8 c7
 go_wp2_with fail
 refine (nil_Insts _).mono ?_
 rintro e w9 ⟨rfl, hb9⟩
 have hp9 := HPP8.out.below hb9
 have HB9 : Hid (Below w6.heap.size w6 w9) := HB8.out.trans (hb9.mono HB8.out.size)
 have c9 : w9.cell? ⟨p, 9, none⟩ = some (.slice none 0 0) := hp9.cell 9
 have HPP9 := hide hp9
 clear hp9 hb9 c8
 go_wp2_with fail
 refine (nil_Queries _).mono ?_
 rintro e w10 ⟨rfl, hb10⟩
 have hp10 := HPP9.out.below hb10
 have HB10 : Hid (Below w6.heap.size w6 w10) := HB9.out.trans (hb10.mono HB9.out.size)
 have c10 : w10.cell? ⟨p, 10, none⟩ = some (.slice none 0 0) := hp10.cell 10
 have HPP10 := hide hp10
 clear hp10 hb10 c9
 go_wp2_with fail
 refine (nil_Files _).mono ?_
 rintro e w11 ⟨rfl, hb11⟩
 have hp11 := HPP10.out.below hb11
 have HB11 : Hid (Below w6.heap.size w6 w11) := HB10.out.trans (hb11.mono HB10.out.size)
 have c11 : w11.cell? ⟨p, 11, none⟩ = some (.slice none 0 0) := hp11.cell 11
 have HPP11 := hide hp11
 clear hp11 hb11 c10
 go_wp2_with fail
 refine (nil_Docs _).mono ?_
 rintro e w12 ⟨rfl, hb12⟩
 have hp12 := HPP11.out.below hb12
 have HB12 : Hid (Below w6.heap.size w6 w12) := HB11.out.trans (hb12.mono HB11.out.size)
 have c12 : w12.cell? ⟨p, 12, none⟩ = some (.slice none 0 0) := hp12.cell 12
 have HPP12 := hide hp12
 clear hp12 hb12 c11
 go_wp2_with fail
 refine (nil_Places _).mono ?_
 rintro e w13 ⟨rfl, hb13⟩
 have hp13 := HPP12.out.below hb13
 have HB13 : Hid (Below w6.heap.size w6 w13) := HB12.out.trans (hb13.mono HB12.out.size)
 have c13 : w13.cell? ⟨p, 13, none⟩ = some (.slice none 0 0) := hp13.cell 13
 have HPP13 := hide hp13
 clear hp13 hb13 c12
 go_wp2_with fail
 refine (nil_Postings _).mono ?_
 rintro e w14 ⟨rfl, hb14⟩
 have hp14 := HPP13.out.below hb14
 have HB14 : Hid (Below w6.heap.size w6 w14) := HB13.out.trans (hb14.mono HB13.out.size)
 have c14 : w14.cell? ⟨p, 14, none⟩ = some (.slice none 0 0) := hp14.cell 14
 have HPP14 := hide hp14
 clear hp14 hb14 c13
 go_wp2_with fail
 refine (nil_ShardRefs _).mono ?_
 rintro e w15 ⟨rfl, hb15⟩
 have hp15 := HPP14.out.below hb15
 have HB15 : Hid (Below w6.heap.size w6 w15) := HB14.out.trans (hb15.mono HB14.out.size)
 have c15 : w15.cell? ⟨p, 15, none⟩ = some (.slice none 0 0) := hp15.cell 15
 have HPP15 := hide hp15
 clear hp15 hb15 c14
 go_wp2_with fail
 refine (nil_Manifests _).mono ?_
 rintro e w16 ⟨rfl, hb16⟩
 have hp16 := HPP15.out.below hb16
 have HB16 : Hid (Below w6.heap.size w6 w16) := HB15.out.trans (hb16.mono HB15.out.size)
 have c16 : w16.cell? ⟨p, 16, none⟩ = some (.slice none 0 0) := hp16.cell 16
 have HPP16 := hide hp16
 clear hp16 hb16 c15
 go_wp2_with fail
 refine (nil_Asks _).mono ?_
 rintro e w17 ⟨rfl, hb17⟩
 have hp17 := HPP16.out.below hb17
 have HB17 : Hid (Below w6.heap.size w6 w17) := HB16.out.trans (hb17.mono HB16.out.size)
 have c17 : w17.cell? ⟨p, 17, none⟩ = some (.slice none 0 0) := hp17.cell 17
 have HPP17 := hide hp17
 clear hp17 hb17 c16
 go_wp2_with fail
 refine (nil_Hits _).mono ?_
 rintro e w18 ⟨rfl, hb18⟩
 have hp18 := HPP17.out.below hb18
 have HB18 : Hid (Below w6.heap.size w6 w18) := HB17.out.trans (hb18.mono HB17.out.size)
 have c18 : w18.cell? ⟨p, 18, none⟩ = some (.slice none 0 0) := hp18.cell 18
 have HPP18 := hide hp18
 clear hp18 hb18 c17
 go_wp2_with fail
 refine (nil_Answers _).mono ?_
 rintro e w19 ⟨rfl, hb19⟩
 have hp19 := HPP18.out.below hb19
 have HB19 : Hid (Below w6.heap.size w6 w19) := HB18.out.trans (hb19.mono HB18.out.size)
 have c19 : w19.cell? ⟨p, 19, none⟩ = some (.slice none 0 0) := hp19.cell 19
 have HPP19 := hide hp19
 clear hp19 hb19 c18
 go_wp2_with fail
 refine (nil_Parts _).mono ?_
 rintro e w20 ⟨rfl, hb20⟩
 have hp20 := HPP19.out.below hb20
 have HB20 : Hid (Below w6.heap.size w6 w20) := HB19.out.trans (hb20.mono HB19.out.size)
 have c20 : w20.cell? ⟨p, 20, none⟩ = some (.slice none 0 0) := hp20.cell 20
 have HPP20 := hide hp20
 clear hp20 hb20 c19
 go_wp2_with fail
 refine (nil_Changes _).mono ?_
 rintro e w21 ⟨rfl, hb21⟩
 have hp21 := HPP20.out.below hb21
 have HB21 : Hid (Below w6.heap.size w6 w21) := HB20.out.trans (hb21.mono HB20.out.size)
 have HPP21 := hide hp21
 clear hp21 hb21 c20
 go_wp2_with fail
 go_ret
 refine ⟨rfl, ?_, fun r hr => owns_thru (HST.out.2 r hr) HB21.out⟩
 exact ((Kept.of_below HB5.out).trans HST.out.1 (fun _ _ h => h)).trans (Kept.of_below (F := fun _ => False) HB21.out) (fun _ _ h => h.elim)
open Go.RowKit
theorem putBytes_any (p k : Nat) (A5 : Option Addr) (C5 : Nat) (ys : List Value) (a : Option Addr) (len cap : Nat) (w : World) (hk : ys.length = k) (hk2 : k ≤ 100000) (hp : Bag w p (.slice A5 k C5)) (ho : w.ownsRow 0 26 1 (.slice A5 k C5) k ys) (hne : ∀ g, (Value.slice A5 k C5).ownBlock = some g → g ≠ p) :
  Calls Tryz.prog 39 #[.pointer (some ⟨p, 0, none⟩), .slice a len cap] w fun e w' => e = .returned (.tuple #[]) ∧ ∃ A6 C6, Bag w' p (.slice A6 (k + 1) C6) ∧ w'.ownsRow 0 26 1 (.slice A6 (k + 1) C6) (k + 1) (ys ++ [.slice a len cap]) ∧
   (∀ g, (Value.slice A6 (k + 1) C6).ownBlock = some g → g ≠ p ∧ ((Value.slice A5 k C5).ownBlock = some g ∨ w.heap.size ≤ g)) ∧ Kept (fun x => x = p ∨ (Value.slice A5 k C5).ownBlock = some x) w w' := by
 obtain ⟨i0, hi, hq0, hq1, hq2⟩ := info_parts info_sb
 have hpl : p < w.heap.size := block_lt hp
 have c5 : w.cell? ⟨p, 5, none⟩ = some (.slice A5 k C5) := hp.cell 5
 have f5 : w.frozen? ⟨p, 5, none⟩ = false := frozen_of_row _ _ _ _ _ hp
 have k5 := cell_alloc_l (W := w) (.cells #[.slice a len cap] 26) c5
 have m5 := frozen_alloc_l (W := w) (.cells #[.slice a len cap] 26) c5 f5
 have hoA := owns_thru ho (below_alloc w (.cells #[.slice a len cap] 26))
 have hn1 := cell_one_new w (.slice a len cap) 26
 have HP := hide hp
 have HK := hide hk
 have HNE := hide hne
 clear hp ho hk hne
 go_enter Tryz.func39, Tryz.ntmps39
 go_wp2_with (at_builtin; go_must (refine wpList_append_foot _ rfl (.tmp 8) (.tmp 10) 34 rfl 26 i0 (.slice none 0 0) 24 Tryz.underlying34 hi hq0 hq1 hq2 rfl 0 _ k ys rfl hoA (some ⟨w.heap.size, 0, none⟩) 1 1 [.slice a len cap] rfl rfl (fun e => by cases e) (fun ad e => by cases e; exact hn1) (by simp [Value.oneCell']) (by unfold maxLen; omega) (by omega) (by omega) ?_); intro A6 C6 w1 hown1 hg1; have hc1 := (hg1.kept (F := fun x => x ≠ p) HNE.out).cell k5 (fun h => h rfl); have hf1 := (hg1.kept (F := fun x => x ≠ p) HNE.out).unfrozen k5 (fun h => h rfl) m5)
 have hKa : Kept (fun _ => False) w (w.alloc (.cells #[.slice a len cap] 26)) := Kept.of_below (below_alloc w _)
 have hKg := hg1.kept (F := fun x => (Value.slice A5 k C5).ownBlock = some x) (fun _ h => h)
 have hKn := hg1.kept (F := fun x => x ≠ p) HNE.out
 have hfo := hg1.foot (F := fun x => (Value.slice A5 k C5).ownBlock = some x) (fun _ h => h)
 have hpb : Bag w1 p (.slice A5 k C5) := (HP.out.kept hKa (fun h => h)).kept hKn (fun h => h rfl)
 have hnew : ∀ g, (Value.slice A6 (k + 1) C6).ownBlock = some g → g ≠ p ∧ ((Value.slice A5 k C5).ownBlock = some g ∨ w.heap.size ≤ g) := fun g hg => by
  rcases hfo g hg with h | h
  ·exact ⟨HNE.out g h, .inl h⟩
  ·have := hKa.size
   exact ⟨by omega, .inr (by omega)⟩
 go_end0
 refine ⟨rfl, A6, C6, ?_, ?_, hnew, ?_⟩
 ·have h := heap_setCell_same w1 p 5 _ _ (.slice A6 (k + 1) C6) hpb
  exact h
 ·exact owns_other hown1 (fun e => (hnew p e).1 rfl) _
 ·exact (((hKa.mono (G := fun x => x = p ∨ (Value.slice A5 k C5).ownBlock = some x) (fun _ _ h => h.elim)).trans hKg (fun _ _ h => .inr h)).setCell (.inl (.inl rfl)) _)
theorem fv_range (A : Nat → Option Addr) (l C : Nat → Nat) (k : Nat) : ((List.range k).map (fv A l C)).length = k := by simp
theorem apartBytes_any (b off n cap : Nat) (A : Nat → Option Addr) (l C : Nat → Nat) (X : Nat → List Value) (w : World) (hn0 : 0 < n) (hn : n ≤ 100000) (hl : ∀ r, r < n → l r ≤ 140000000000000)
  (hd : ∀ r s g, r < n → s < n → (fv A l C r).ownBlock = some g → (fv A l C s).ownBlock = some g → r = s)
  (hc : ∀ r, r < n → w.cell? ⟨b, off + r, none⟩ = some (fv A l C r)) (ho : ∀ r, r < n → w.ownsRow 0 5 1 (fv A l C r) (l r) (X r)) :
  Calls Tryz.prog 15 #[.slice (some ⟨b, off, none⟩) n cap] w fun e w' => e = .returned (.bool true) ∧ St n A l C (fun r => mk r (l r)) w w' := by
 have HC := hide hc
 have HO := hide ho
 have HD := hide hd
 have HL := hide hl
 have hp0 : Bag (w.alloc (.cells (bagCells (.slice none 0 0)) 93)) w.heap.size (.slice none 0 0) := heap_alloc_new _ _
 have HP0 := hide hp0
 clear hc ho hd hl hp0
 go_enter Tryz.func15, Tryz.ntmps15
 go_wp2_with fail
 go_loopg [4] n (fun q s4 wr => ∃ (k : Nat) (A5 : Option Addr) (C5 : Nat), k + q = n ∧ s4 = .int .i64 (k : Nat) ∧ Bag wr w.heap.size (.slice A5 k C5) ∧ wr.ownsRow 0 26 1 (.slice A5 k C5) k ((List.range k).map (fv A l C)) ∧ (∀ g, (Value.slice A5 k C5).ownBlock = some g → g ≠ w.heap.size ∧ w.heap.size ≤ g) ∧ Below w.heap.size w wr)
 case atStart => exact ⟨0, none, 0, by omega, rfl, HP0.out, World.ownsRow_nil _ _ _ _, (fun g hg => by cases hg), below_alloc _ _⟩
 case round =>
  obtain ⟨k, A5, C5, hkq, rfl, hp, hown, hne, hbl⟩ := hrel
  have hk0 : (0 : Int) ≤ (k : Int) := by omega
  cases gk with
  | zero =>
    obtain rfl : k = n := by omega
    have hkz : ¬ ((k : Int) < (k : Int)) := by omega
    obtain ⟨g, C6, hv, _, _, _, _⟩ := owns_cell hown (show ((List.range k).map (fv A l C))[0]? = some (fv A l C 0) by simp [hn0])
    injection hv with hA5 _ hC
    have hgs := hne g (by rw [hA5]; rfl)
    have hcell : ∀ r, r < k → wr.cell? ⟨g, 0 + r, none⟩ = some (fv A l C r) := fun r hr => by
     obtain ⟨g', C', hv', hc', _⟩ := owns_cell hown (show ((List.range k).map (fv A l C))[r]? = some (fv A l C r) by simp [hr])
     rw [hA5] at hv'
     injection hv' with e1 _ _
     cases e1
     rw [Nat.zero_add]; exact hc'
    rw [hA5] at hp
    have hba := bagApart_any w.heap.size g 0 k C5 A l C X wr hn HL.out ⟨HD.out, fun r g' hr h e => by
      have := (owns_cells (HO.out r hr) g' h).1
      omega⟩ hp (fun r hr h => by
      have := (owns_cells (HO.out r hr) _ h).1
      omega) hcell (fun r hr => owns_thru (HO.out r hr) hbl)
    clear hp hown hne hcell hA5
    go_wp2_with fail
    refine hba.mono ?_
    rintro e w2 ⟨rfl, hst⟩
    go_wp2_with fail
    go_ret
    exact ⟨rfl, (Kept.of_below hbl).trans hst.1 (fun _ _ h => h), hst.2⟩
  | succ q =>
    have hkz : (k : Int) < (n : Int) := by omega
    have c1 : wr.cell? ⟨b, off + k, none⟩ = some (.slice (A k) (l k) (C k)) := cell_thru (HC.out k (by omega)) hbl
    have hpu := putBytes_any w.heap.size k A5 C5 _ (A k) (l k) (C k) wr (fv_range A l C k) (by omega) hp hown (fun g hg => (hne g hg).1)
    have hre : (List.range (k + 1)).map (fv A l C) = (List.range k).map (fv A l C) ++ [.slice (A k) (l k) (C k)] := by rw [List.range_succ, List.map_append]; rfl
    have HRE := hide hre
    have HNE := hide hne
    clear hp hown hre hne
    go_wp2_with fail
    refine hpu.mono ?_
    rintro e w2 ⟨rfl, A6, C6, h1, h2, h3, h4⟩
    go_wp2_with fail
    go_roundg q
    case measure => omega
    case rel =>
     refine ⟨k + 1, A6, C6, by omega, by go_num, h1, by rw [HRE.out]; exact h2, fun g hg => ?_, hbl.trans (h4.below (fun x hx => ?_) hbl.size)⟩
     ·obtain ⟨e1, e2 | e2⟩ := h3 g hg
      ·exact HNE.out g e2
      ·have := hbl.size
       exact ⟨e1, by omega⟩
     ·rcases hx with hx | hx
      ·omega
      ·exact (HNE.out x hx).2
theorem owns_to0 {w : World} {B n size : Nat} {v : Value} {xs : List Value} {e : TypeId} (h : w.ownsRow B e size v n xs) : w.ownsRow 0 e size v n xs := by
 obtain ⟨hl, ⟨hv, h0⟩ | ⟨g, cap, cur, hv, hg, hr⟩⟩ := h
 ·exact ⟨hl, .inl ⟨hv, h0⟩⟩
 ·exact ⟨hl, .inr ⟨g, cap, cur, hv, by omega, hr⟩⟩
theorem apart2 {A1 A2 : Option Addr} {C1 C2 s1 s2 : Nat} {X1 X2 : List Value} {w1 w : World} (g : Nat) (hb : w.heap[g]? = some (.cells #[.slice A1 s1 C1, .slice A2 s2 C2] 26 (0, 0))) (h1 : s1 ≤ 1000000) (h2 : s2 ≤ 1000000)
  (ho1 : w.ownsRow 0 5 1 (.slice A1 s1 C1) s1 X1) (ho2 : w.ownsRow w1.heap.size 5 1 (.slice A2 s2 C2) s2 X2) (hlt : ∀ g, (Value.slice A1 s1 C1).ownBlock = some g → g < w1.heap.size) :
  Calls Tryz.prog 15 #[.slice (some ⟨g, 0, none⟩) 2 2] w fun e w' => e = .returned (.bool true) ∧ Kept (fun k => (Value.slice A1 s1 C1).ownBlock = some k ∨ (Value.slice A2 s2 C2).ownBlock = some k) w w' := by
 refine (apartBytes_any g 0 2 2 (fun r => if r = 0 then A1 else A2) (fun r => if r = 0 then s1 else s2) (fun r => if r = 0 then C1 else C2) (fun r => if r = 0 then X1 else X2) w (by omega) (by omega) (fun r hr => by
  rcases (show r = 0 ∨ r = 1 by omega) with rfl | rfl
  ·show s1 ≤ _; omega
  ·show s2 ≤ _; omega)
  (fun r s k hr hs h1 h2 => by
   have hx2 : ∀ g, (Value.slice A2 s2 C2).ownBlock = some g → w1.heap.size ≤ g := fun g h => (owns_cells ho2 g h).2.1
   rcases (show r = 0 ∨ r = 1 by omega) with rfl | rfl <;> rcases (show s = 0 ∨ s = 1 by omega) with rfl | rfl
   ·rfl
   ·have := hlt k h1; have := hx2 k h2; omega
   ·have := hlt k h2; have := hx2 k h1; omega
   ·rfl)
  (fun r hr => by
   rw [Nat.zero_add, cell_of_row _ _ _ _ _ _ hb]
   rcases (show r = 0 ∨ r = 1 by omega) with rfl | rfl <;> rfl)
  (fun r hr => by
   rcases (show r = 0 ∨ r = 1 by omega) with rfl | rfl
   ·exact ho1
   ·exact owns_to0 ho2)).mono ?_
 rintro e w' ⟨he, hst⟩
 refine ⟨he, hst.1.mono (fun k _ hk => ?_)⟩
 obtain ⟨r, hr, h⟩ := hk
 rcases (show r = 0 ∨ r = 1 by omega) with rfl | rfl
 ·exact .inl h
 ·exact .inr h
end Go.Proofs.YtpmldopbjlnknaaGreat
