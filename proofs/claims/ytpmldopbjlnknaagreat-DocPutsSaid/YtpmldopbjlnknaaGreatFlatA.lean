/-
  Lists of bytes that lie apart: the first loop marks them, the second grows them one by one.
-/
import Derived.Test.YtpmldopbjlnknaaGreatFlatMs
import Derived.Outline
import Derived.Deep.CutBlock
import Derived.Deep.DeepCutAuto
import Derived.Deep.LoopGhost
import Derived.Deep.DeepMust
import Derived.BigQuiet
import Derived.Deep.QuietTactic
import Derived.Deep.RegionHeld3
import Derived.Laws.MakeOwn
import Derived.Deep.OwnRows
namespace Go.Proofs.YtpmldopbjlnknaaGreat
open Go.RowKit

set_option maxRecDepth 100000 in
set_option maxHeartbeats 1000000 in
theorem flatBytes_any (b off n cap : Nat) (A : Nat → Option Addr) (l C : Nat → Nat) (X : Nat → List Value) (w : World) (hn : n ≤ 100000) (hl : ∀ r, r < n → l r ≤ 140000000000000) (ha : Apt n b A l C)
    (hc : ∀ r, r < n → w.cell? ⟨b, off + r, none⟩ = some (fv A l C r)) (ho : ∀ r, r < n → w.ownsRow 0 5 1 (fv A l C r) (l r) (X r)) :
    Calls Tryz.prog 74 #[.slice (some ⟨b, off, none⟩) n cap] w fun e w' => e = .returned (.bool true) ∧ St n A l C (fun r => mk r (l r)) w w' := by
  have HC := hide hc
  have HO := hide ho
  have HL := hide hl
  have HA := hide ha
  clear hc ho hl ha
  go_enter Tryz.func74, Tryz.ntmps74
  go_upto_block 0 with fail
  go_cut [] (fun wx => St n A l C (fun r => mk r (l r)) w wx)
  case first =>
    go_wp2_with fail
    go_loopg [3] n (fun q s3 wr => ∃ k : Nat, k + q = n ∧ s3 = .int .i64 (k : Nat) ∧ St n A l C (fun r => if r < k then mk r (l r) else X r) w wr)
    case atStart => exact ⟨0, by omega, rfl, ⟨Kept.refl _ _, fun r hr => by simpa using HO.out r hr⟩⟩
    case round =>
      obtain ⟨k, hkq, rfl, hst⟩ := hrel
      have hk0 : (0 : Int) ≤ (k : Int) := by omega
      cases gk with
      | zero =>
        obtain rfl : k = n := by omega
        have hkz : ¬ ((k : Int) < (k : Int)) := by omega
        have HS := hide (hst.congr (Y := fun r => mk r (l r)) (fun r hr => if_pos hr))
        clear hst
        go_wp2_with fail
        go_meet
        exact HS.out
      | succ q =>
        have hkz : (k : Int) < (n : Int) := by omega
        have hkn : k < n := by omega
        obtain ⟨wo, rfl⟩ : ∃ wo : World, wo = wr := ⟨_, rfl⟩
        have hst0 : St n A l C (fun r => if r = k then mk k 0 ++ (X k).drop 0 else if r < k then mk r (l r) else X r) w wo := hst.congr (fun r hr => by
          by_cases e : r = k
          · subst e; simp [mk]
          · rw [if_neg e])
        have hlk := HL.out k hkn
        have hXl : (X k).length = l k := by have := (HO.out k hkn).1; omega
        have HX := hide hXl
        clear hst hXl
        have hrow := hst0.row HA.out (HC.out k hkn)
        unfold fv at hrow
        go_wp2_with fail
        go_loopg [4] (l k) (fun q s4 wr => ∃ i : Nat, i + q = l k ∧ s4 = .int .i64 (i : Nat) ∧ St n A l C (fun r => if r = k then mk k i ++ (X k).drop i else if r < k then mk r (l r) else X r) w wr)
        case atStart => exact ⟨0, by omega, rfl, hst0⟩
        case round =>
          obtain ⟨i, hiq, rfl, hst⟩ := hrel
          clear hst0 hrow
          have hi0 : (0 : Int) ≤ (i : Int) := by omega
          have c1 := hst.row HA.out (HC.out k hkn)
          have hown := hst.2 k hkn
          simp only [if_true] at hown
          unfold fv at c1 hown
          cases gk with
          | zero =>
            have hil : i = l k := by omega
            have hiz : ¬ ((i : Int) < (l k : Int)) := by omega
            have HS : Hid (St n A l C (fun r => if r < k + 1 then mk r (l r) else X r) w wr) := hst.congr (fun r hr => by
              by_cases e : r = k
              · subst e
                rw [if_pos rfl, if_pos (by omega), hil, List.drop_eq_nil_iff.2 (by rw [HX.out]; exact Nat.le_refl _), List.append_nil]
              · rw [if_neg e]
                by_cases e2 : r < k
                · rw [if_pos e2, if_pos (by omega)]
                · rw [if_neg e2, if_neg (by omega)])
            clear hst hown hil
            go_wp2_with fail
            go_roundg q
            case measure => omega
            case rel => exact ⟨k + 1, by omega, by go_num, HS.out⟩
          | succ q2 =>
            have hiz : (i : Int) < (l k : Int) := by omega
            have hil : i < (mk k i ++ (X k).drop i).length := by rw [List.length_append, mk_length, List.length_drop, HX.out]; omega
            obtain ⟨g, C', hv, c3, f3, hlc, hcm⟩ := owns_cell hown (List.getElem?_eq_getElem hil)
            generalize (mk k i ++ (X k).drop i)[i] = u0 at c3
            have hgo : (fv A l C k).ownBlock = some g := by unfold fv; rw [hv]; rfl
            have hgb : g ≠ b := HA.out.nb k g hkn hgo
            have hset := hst.set HA.out (i := i) (u := .int .u8 (markN k i : Nat)) hkn hgo
            have HS : Hid (∀ m, St n A l C (fun r => if r = k then mk k (i + 1) ++ (X k).drop (i + 1) else if r < k then mk r (l r) else X r) w ((wr.setCell ⟨g, i, none⟩ (.int .u8 (markN k i : Nat))).drewN m)) := fun m => (hset.congr (fun r hr => by
              by_cases e : r = k
              · simp only [if_pos e, if_true]
                exact mk_set k i (X k) (by rw [HX.out]; omega)
              · simp only [if_neg e])).drewN m
            have c1' : (wr.setCell ⟨g, i, none⟩ (.int .u8 (markN k i : Nat))).cell? ⟨b, off + k, none⟩ = some (.slice (A k) (l k) (C k)) := by
              rw [World.cell?_setCell_other _ _ _ _ (by intro e; injection e with e1; first | exact hgb e1 | exact hgb e1.symm)]
              exact c1
            have hm := fun W : World => markByteN k i W (by omega) (by omega)
            injection hv with hAk _ _
            rw [hAk] at c1 c1'
            clear hst hown hset hil hAk
            go_upto_region 7 with fail
            go_region_held3 (fun w' => w'.cell? ⟨b, off + k, none⟩ = some (.slice (some ⟨g, 0, none⟩) (l k) (C k))) (first | exact c1 | exact c1') (first | (go_at_call 95; refine (hm _).mono ?_; rintro e w' ⟨rfl, rfl⟩))
            all_goals
              go_wp2_with fail
              go_roundg q2
              case measure => omega
              case rel => exact ⟨i + 1, by omega, by go_num, HS.out 1⟩
  case rest =>
    have hst1 := hcut
    have hsw : w.heap.size ≤ wc.heap.size := hst1.1.size
    have hvG : ∀ r g, r < n → (fv A l C r).ownBlock = some g → g ≠ wc.heap.size := fun r g hr hg => by
      have := (owns_cells (HO.out r hr) g hg).1
      omega
    have hbG : 0 < n → b ≠ wc.heap.size := fun h0 => by
      have := block_lt_of_cell (HC.out 0 h0)
      have h2 : b < w.heap.size := this
      omega
    have HVG := hide hvG
    have HBG := hide hbG
    have hmk := fun wx => run_make_row' (P := Tryz.prog) 34 26 (.slice none 0 0) 24 Tryz.underlying34 info_sb rfl .i64 .i64 n (by omega) (by omega) wx
    have HST1 := hide (hst1.1.alloc (.cells (madeCells #[.slice none 0 0] n) 26))
    have hst2 : St n A l C (fun r => mk r (l r)) w (wc.alloc (.cells (madeCells #[.slice none 0 0] n) 26)) := ⟨HST1.out, fun r hr => (hst1.2 r hr).alloc _⟩
    have hgs2 : GS n wc.heap.size A l C w 0 (fun r => mk r (l r + 64)) (wc.alloc (.cells (madeCells #[.slice none 0 0] n) 26)) := GS.made w wc
    have HS2 := hide hst2
    have HG2 := hide hgs2
    clear hst1 hcut HST1 hst2 hgs2 hvG hbG
    obtain ⟨i0, hi, hq0, hq1, hq2⟩ := info_parts info_u8
    go_upto_block 4 with fail
    clear hmk
    generalize hG : wc.heap.size = G at *
    go_cut [] (fun wx => St n A l C (fun r => mk r (l r)) w wx ∧ GS n G A l C w n (fun r => mk r (l r + 64)) wx)
    case first =>
      have HGG := hide hG
      clear hG
      go_wp2_with fail
      go_loopg [6] n (fun q s6 wr => ∃ k : Nat, k + q = n ∧ s6 = .int .i64 (k : Nat) ∧ St n A l C (fun r => mk r (l r)) w wr ∧ GS n G A l C w k (fun r => mk r (l r + 64)) wr)
      case atStart => exact ⟨0, by omega, rfl, HS2.out, HG2.out⟩
      case round =>
        obtain ⟨k, hkq, rfl, hst, hgs⟩ := hrel
        have hk0 : (0 : Int) ≤ (k : Int) := by omega
        cases gk with
        | zero =>
          obtain rfl : k = n := by omega
          have hkz : ¬ ((k : Int) < (k : Int)) := by omega
          have HS := hide (And.intro hst hgs)
          clear hst hgs
          go_wp2_with fail
          go_meet
          exact HS.out
        | succ q =>
          have hkz : (k : Int) < (n : Int) := by omega
          have hkn : k < n := by omega
          obtain ⟨wo, rfl⟩ : ∃ wo : World, wo = wr := ⟨_, rfl⟩
          have hlk := HL.out k hkn
          have c1 := hst.row HA.out (HC.out k hkn)
          have HST := hide hst
          have HGS := hide hgs
          have hownk := hst.2 k hkn
          have hwo : w.heap.size ≤ wo.heap.size := hst.1.size
          clear hst hgs
          unfold fv at c1
          go_wp2_with fail
          go_loopg [7, 8] 64 (fun q s7 s8 wr => ∃ (i : Nat) (A' : Option Addr) (C' : Nat), i + q = 64 ∧ s8 = .int .i64 (i : Nat) ∧ s7 = .slice A' (l k + i) C' ∧ wr.ownsRow 0 5 1 (.slice A' (l k + i) C') (l k + i) (mk k (l k + i)) ∧
            (∀ x, (Value.slice A' (l k + i) C').ownBlock = some x → (fv A l C k).ownBlock = some x ∨ wo.heap.size ≤ x) ∧ Kept (fun x => (fv A l C k).ownBlock = some x) wo wr ∧ wr.ownsRow 0 5 1 (fv A l C k) (l k) (mk k (l k)))
          case atStart => exact ⟨0, A k, C k, by omega, rfl, rfl, hownk, fun x hx => .inl hx, Kept.refl _ _, hownk⟩
          case round =>
            obtain ⟨i, A', C', hiq, rfl, rfl, hog, hgo, hK, hvk⟩ := hrel
            have hi0 : (0 : Int) ≤ (i : Int) := by omega
            have hbk : ¬ (fv A l C k).ownBlock = some b := fun h => HA.out.nb k b hkn h rfl
            have c2 := hK.cell c1 hbk
            clear hownk
            cases gk with
            | zero =>
              obtain rfl : i = 64 := by omega
              have hiz : ¬ ((64 : Int) < (64 : Int)) := by omega
              have hGk : ¬ (fv A l C k).ownBlock = some G := fun h => HVG.out k G hkn h rfl
              have hgs3 := HGS.out.kept hK hGk (fun r g hr h hf => by
                rcases h with h | h
                · have := HA.out.dist r k g (by omega) hkn h hf
                  omega
                · have := (owns_cells (HO.out k hkn) g hf).1
                  omega)
              have hst3 := HST.out.one HA.out hkn hK (fun g hg => .inl hg) hvk
              obtain ⟨u, d1, d2⟩ := hgs3.cell hkn
              have HS : Hid (St n A l C (fun r => mk r (l r)) w (wr.setCell ⟨G, k, none⟩ (.slice A' (l k + 64) C')) ∧ GS n G A l C w (k + 1) (fun r => mk r (l r + 64)) (wr.setCell ⟨G, k, none⟩ (.slice A' (l k + 64) C'))) :=
                ⟨hst3.setG hsw HVG.out _ _, hgs3.put hkn HVG.out hog (fun g hg => by
                  rcases hgo g hg with h | h
                  · exact .inl h
                  · refine .inr ⟨by omega, fun e => ?_⟩
                    obtain ⟨cur, h1, _⟩ := HGS.out
                    have := block_lt h1
                    omega)⟩
              clear hgs3 hst3 hog hgo hK hvk
              go_wp2_with fail
              go_roundg q
              case measure => omega
              case rel => exact ⟨k + 1, by omega, by go_num, HS.out⟩
            | succ q2 =>
              have hiz : (i : Int) < (64 : Int) := by omega
              have hm := fun W : World => markByteN k (l k + i) W (by omega) (by omega)
              rw [Int.natCast_add] at hm
              have hogA := owns_thru hog (below_alloc wr (.cells #[.int .u8 (markN k (l k + i) : Nat)] 5))
              have hn1 := cell_one_new wr (.int .u8 (markN k (l k + i) : Nat)) 5
              have HGO := hide hgo
              have HOG := hide hog
              have HVK := hide hvk
              clear hog hgo hvk
              go_wp2_with (first
                | (go_at_call 95; refine (hm _).mono ?_; rintro e w' ⟨rfl, rfl⟩)
                | (at_builtin; go_must (refine wpList_append_keep _ rfl (.tmp 57) (.tmp 67) 26 rfl 5 i0 (.int .u8 0) 1 Tryz.underlying26 hi hq0 hq1 hq2 rfl 0 _ (l k + i) (mk k (l k + i)) rfl hogA ⟨wr.heap.size, 0, none⟩ 1 1 [.int .u8 (markN k (l k + i) : Nat)] rfl rfl hn1 (by simp [Value.oneCell']) (by unfold maxLen; omega) (by omega) (by omega) ?_); intro A3 C3 w3 hown3 hg3 hold3))
              obtain ⟨e1, e2, e3⟩ := grow_step HVK.out HOG.out (by omega) hK HGO.out (below_alloc wr _) hg3 hold3
              rw [← mk_succ] at hown3
              go_roundg q2
              case measure => omega
              case rel => exact ⟨i + 1, A3, C3, by omega, by go_num, rfl, hown3, e3, e1, e2⟩
    case rest =>
      obtain ⟨hstA, hgsA⟩ := hcut
      have HSA := hide hstA
      have HGA := hide hgsA
      clear hstA hgsA HS2 HG2 hG
      obtain ⟨wA, hwA⟩ : ∃ wA, wc = wA := ⟨_, rfl⟩
      go_upto_block 8 with fail
      go_cut [] (fun wx => St n A l C (fun r => mk r (l r)) w wx ∧ GS n G A l C w n (fun r => mk r (l r + 64)) wx)
      case first =>
        clear hwA
        go_wp2_with fail
        go_loopg [9] n (fun q s9 wr => ∃ k : Nat, k + q = n ∧ s9 = .int .i64 (k : Nat) ∧ St n A l C (fun r => mk r (l r)) w wr ∧ GS n G A l C w n (fun r => mk r (l r + 64)) wr)
        case atStart => exact ⟨0, by omega, rfl, HSA.out, HGA.out⟩
        case round =>
          obtain ⟨k, hkq, rfl, hst, hgs⟩ := hrel
          have hk0 : (0 : Int) ≤ (k : Int) := by omega
          cases gk with
          | zero =>
            obtain rfl : k = n := by omega
            have hkz : ¬ ((k : Int) < (k : Int)) := by omega
            have HS := hide (And.intro hst hgs)
            clear hst hgs
            go_wp2_with fail
            go_meet
            exact HS.out
          | succ q =>
            have hkz : (k : Int) < (n : Int) := by omega
            have hkn : k < n := by omega
            have hlk := HL.out k hkn
            have HSG := hide (And.intro hst hgs)
            clear hst hgs
            obtain ⟨wo, rfl⟩ : ∃ wo : World, wo = wr := ⟨_, rfl⟩
            go_wp2_with fail
            go_loopg [10] (l k + 64) (fun q s10 wr => ∃ i : Nat, i + q = l k + 64 ∧ s10 = .int .i64 (i : Nat) ∧ St n A l C (fun r => mk r (l r)) w wr ∧ GS n G A l C w n (fun r => mk r (l r + 64)) wr)
            case atStart => exact ⟨0, by omega, rfl, HSG.out⟩
            case round =>
              obtain ⟨i, hiq, rfl, hst, hgs⟩ := hrel
              have hi0 : (0 : Int) ≤ (i : Int) := by omega
              have c1 := hst.row HA.out (HC.out k hkn)
              have hownk := hst.2 k hkn
              obtain ⟨A', C', d1, hown⟩ := hgs.get hkn
              have HS : Hid (∀ m, St n A l C (fun r => mk r (l r)) w (wr.drewN m) ∧ GS n G A l C w n (fun r => mk r (l r + 64)) (wr.drewN m)) := fun m => ⟨hst.drewN m, hgs.drewN m⟩
              have HS0 := hide (And.intro hst hgs)
              unfold fv at c1 hownk
              clear hst hgs
              cases gk with
              | zero =>
                have hiz : ¬ ((i : Int) < (l k : Int) + 64) := by omega
                clear hown hownk
                go_wp2_with fail
                go_roundg q
                case measure => omega
                case rel => exact ⟨k + 1, by omega, by go_num, HS0.out⟩
              | succ q2 =>
                have hiz : (i : Int) < (l k : Int) + 64 := by omega
                obtain ⟨g, C2, hv, d3, _, hlc, hcm⟩ := owns_cell hown (mk_get k (l k + 64) i (by omega))
                injection hv with hA' _ _
                have hm := fun W : World => (markByteN k i W (by omega) (by omega)).mono (R' := fun e w' => e = .returned (.int .u8 (markN k i : Nat)) ∧ w' = W) fun _ _ ⟨he, hw⟩ => ⟨he, hw.symm⟩
                subst hA'
                clear hown
                by_cases hlt : i < l k
                · obtain ⟨g2, C3, hv2, d4, _, hlc2, hcm2⟩ := owns_cell hownk (mk_get k (l k) i hlt)
                  injection hv2 with hAk _ _
                  rw [hAk] at c1
                  have hi1 : (i : Int) < (l k : Int) := by omega
                  have e1 : decide ((i : Int) < (l k : Int)) = true := decide_eq_true hi1
                  have e2 : decide (i < l k) = true := decide_eq_true hlt
                  clear hownk hAk
                  go_upto_region 24 with fail
                  go_cut [122] (fun s wx => s = .bool false ∧ ∃ m, wx = wr.drewN m)
                  case first =>
                    go_quiet ((go_at_call 95; exact Calls.quiet_of_same (hm _)))
                    all_goals
                      go_wp2_with fail
                      go_meet
                      exact ⟨rfl, _, rfl⟩
                  case rest =>
                    obtain ⟨rfl, m, rfl⟩ := hcut
                    clear e1 e2
                    go_wp2_with fail
                    go_roundg q2
                    case measure => omega
                    case rel => exact ⟨i + 1, by omega, by go_num, HS.out m⟩
                · have hi1 : ¬ ((i : Int) < (l k : Int)) := by omega
                  have e1 : decide ((i : Int) < (l k : Int)) = false := decide_eq_false hi1
                  have e2 : decide (i < l k) = false := decide_eq_false hlt
                  clear hownk
                  go_upto_region 24 with fail
                  go_cut [122] (fun s wx => s = .bool false ∧ ∃ m, wx = wr.drewN m)
                  case first =>
                    go_quiet ((go_at_call 95; exact Calls.quiet_of_same (hm _)))
                    all_goals
                      go_wp2_with fail
                      go_meet
                      exact ⟨rfl, _, rfl⟩
                  case rest =>
                    obtain ⟨rfl, m, rfl⟩ := hcut
                    clear e1 e2
                    go_wp2_with fail
                    go_roundg q2
                    case measure => omega
                    case rel => exact ⟨i + 1, by omega, by go_num, HS.out m⟩
      case rest =>
        obtain ⟨hstB, hgsB⟩ := hcut
        have HSB := hide hstB
        have hgsB0 : GS n G A l C w 0 (fun r => mk r (l r) ++ mk (r + n) 64) wc := hgsB.less
        have HGB := hide hgsB0
        clear hstB hgsB hgsB0 HSA HGA hwA
        have hmk64 := fun wx => run_make_row' (P := Tryz.prog) 26 5 (.int .u8 0) 1 Tryz.underlying26 info_u8 rfl .i64 .i64 64 (by omega) (by omega) wx
        have hmk2 : ∀ wx, (Instr.makeSlice 26 (.int .i64 64) (.int .i64 64)).run Tryz.prog wx = .ok (.slice (some ⟨wx.heap.size, 0, none⟩) 64 64) (wx.alloc (.cells (madeCells #[.int .u8 0] 64) 5)) := hmk64
        clear hmk64
        go_upto_block 12 with fail
        go_cut [] (fun wx => St n A l C (fun r => mk r (l r)) w wx ∧ GS n G A l C w n (fun r => mk r (l r) ++ mk (r + n) 64) wx)
        case first =>
          go_wp2_with fail
          go_loopg [11] n (fun q s11 wr => ∃ k : Nat, k + q = n ∧ s11 = .int .i64 (k : Nat) ∧ St n A l C (fun r => mk r (l r)) w wr ∧ GS n G A l C w k (fun r => mk r (l r) ++ mk (r + n) 64) wr)
          case atStart => exact ⟨0, by omega, rfl, HSB.out, HGB.out⟩
          case round =>
            obtain ⟨k, hkq, rfl, hst, hgs⟩ := hrel
            have hk0 : (0 : Int) ≤ (k : Int) := by omega
            cases gk with
            | zero =>
              obtain rfl : k = n := by omega
              have hkz : ¬ ((k : Int) < (k : Int)) := by omega
              have HS := hide (And.intro hst hgs)
              clear hst hgs
              go_wp2_with fail
              go_meet
              exact HS.out
            | succ q =>
              have hkz : (k : Int) < (n : Int) := by omega
              have hkn : k < n := by omega
              obtain ⟨wo, rfl⟩ : ∃ wo : World, wo = wr := ⟨_, rfl⟩
              have hlk := HL.out k hkn
              have c1 := hst.row HA.out (HC.out k hkn)
              have HST := hide hst
              have HGS := hide hgs
              have hownk := hst.2 k hkn
              have hwo : w.heap.size ≤ wo.heap.size := hst.1.size
              have hbA : Below wo.heap.size wo (wo.alloc (.cells (madeCells #[.int .u8 0] 64) 5)) := below_alloc wo _
              have hmany0 : (wo.alloc (.cells (madeCells #[.int .u8 0] 64) 5)).ownsRow 0 5 1 (.slice (some ⟨wo.heap.size, 0, none⟩) 64 64) 64 (mk (k + n) 0 ++ (List.replicate 64 (.int .u8 0)).drop 0) := by
                refine ⟨by simp [mk], .inr ⟨wo.heap.size, 64, _, rfl, Nat.zero_le _, heap_alloc_new _ _, Nat.le_refl _, by unfold maxLen; omega, ?_, ?_⟩⟩
                · rw [← Array.length_toList, toList_madeCells_one, List.length_replicate]
                · rw [toList_madeCells_one]; simp [mk]
              have HM0 := hide hmany0
              have HBA := hide hbA
              clear hst hgs hmany0 hbA
              unfold fv at c1
              go_wp2_with fail
              go_loopg [13] 64 (fun q s13 wr => ∃ i : Nat, i + q = 64 ∧ s13 = .int .i64 (i : Nat) ∧ wr.ownsRow 0 5 1 (.slice (some ⟨wo.heap.size, 0, none⟩) 64 64) 64 (mk (k + n) i ++ (List.replicate 64 (.int .u8 0)).drop i) ∧ Below wo.heap.size wo wr)
              case atStart => exact ⟨0, by omega, rfl, HM0.out, HBA.out⟩
              case round =>
                obtain ⟨i, hiq, rfl, hmany, hbl⟩ := hrel
                have hi0 : (0 : Int) ≤ (i : Int) := by omega
                cases gk with
                | zero =>
                  obtain rfl : i = 64 := by omega
                  have hiz : ¬ ((64 : Int) < (64 : Int)) := by omega
                  rw [List.drop_eq_nil_iff.2 (by simp), List.append_nil] at hmany
                  have hnews := hmany.cells (g := wo.heap.size) rfl
                  have hone := mk_one (k + n) 64
                  have hlen := mk_length (k + n) 64
                  have hown2 := owns_thru hownk hbl
                  have c2 := cell_thru c1 hbl
                  have HBL := hide hbl
                  have hGlt : G < wo.heap.size := by
                    obtain ⟨cur, h1, _⟩ := HGS.out
                    exact block_lt h1
                  unfold fv at hown2
                  generalize hnw : mk (k + n) 64 = news at hnews hone hlen
                  have HN := hide hnw
                  have hgB : GS n G A l C w k (fun r => mk r (l r) ++ mk (r + n) 64) wr := HGS.out.kept (Kept.of_below (F := fun _ => False) hbl) (fun h => h) (fun _ _ _ _ h => h)
                  have hGk : ¬ (fv A l C k).ownBlock = some G := fun h => HVG.out k G hkn h rfl
                  have hkG : ∀ w3, Kept (fun x => (fv A l C k).ownBlock = some x) wr w3 → GS n G A l C w k (fun r => mk r (l r) ++ mk (r + n) 64) w3 := fun w3 hK => hgB.kept hK hGk (fun r g hr h hf => by
                    rcases h with h | h
                    · have := HA.out.dist r k g (by omega) hkn h hf
                      omega
                    · have := (owns_cells (HO.out k hkn) g hf).1
                      omega)
                  have HKG := hide hkG
                  have hcellG : ∀ w3, Kept (fun x => (fv A l C k).ownBlock = some x) wr w3 → ∃ u, w3.cell? ⟨G, k, none⟩ = some u ∧ w3.frozen? ⟨G, k, none⟩ = false := fun w3 hK => (HKG.out w3 hK).cell hkn
                  have HCG := hide hcellG
                  have hstB : St n A l C (fun r => mk r (l r)) w wr := ⟨HST.out.1.trans (Kept.of_below (F := fun _ => False) hbl) (fun _ _ h => h.elim), fun r hr => owns_thru (HST.out.2 r hr) hbl⟩
                  have HSTB := hide hstB
                  clear hmany hownk hbl hnw hgB hkG hcellG hstB hGk
                  go_wp2_with (at_builtin; go_must (refine wpList_append_keep _ rfl (.tmp 148) (.tmp 149) 26 rfl 5 i0 (.int .u8 0) 1 Tryz.underlying26 hi hq0 hq1 hq2 rfl 0 _ (l k) (mk k (l k)) rfl hown2 ⟨wo.heap.size, 0, none⟩ 64 64 news rfl hlen hnews hone (by unfold maxLen; omega) (by omega) (by omega) ?_); intro A3 C3 w3 hown3 hg3 hold3; have hK3 := hg3.kept (F := fun x => (fv A l C k).ownBlock = some x) (fun _ h => h); obtain ⟨u3, d1, d2⟩ := HCG.out w3 hK3)
                  rw [← HN.out] at hown3
                  have hS3 := HSTB.out.one HA.out hkn hK3 (fun g hg => .inl hg) hold3
                  have hG3 := (HKG.out w3 hK3).put hkn HVG.out hown3 (fun g hg => by
                    rcases hg3.foot (F := fun x => (fv A l C k).ownBlock = some x) (fun _ h => h) g hg with h | h
                    · exact .inl h
                    · have := HBL.out.size
                      exact .inr ⟨by omega, by omega⟩)
                  have HS := hide (And.intro (hS3.setG hsw HVG.out k (.slice A3 (l k + 64) C3)) hG3)
                  clear hS3 hG3 hown3 hold3
                  go_roundg q
                  case measure => omega
                  case rel => exact ⟨k + 1, by omega, by go_num, HS.out⟩
                | succ q2 =>
                  have hiz : (i : Int) < (64 : Int) := by omega
                  have hil : i < (mk (k + n) i ++ (List.replicate 64 (Value.int .u8 0)).drop i).length := by rw [List.length_append, mk_length, List.length_drop, List.length_replicate]; omega
                  obtain ⟨g, C', hv, c3, f3, _, _⟩ := owns_cell hmany (List.getElem?_eq_getElem hil)
                  generalize (mk (k + n) i ++ (List.replicate 64 (Value.int .u8 0)).drop i)[i] = u0 at c3
                  cases hv
                  have hset := owns_set (i := i) hmany rfl (.int .u8 (markN (k + n) i : Nat))
                  rw [mk_set (k + n) i _ (by rw [List.length_replicate]; omega)] at hset
                  have HS := hide hset
                  have HB : Hid (Below wo.heap.size wo (wr.setCell ⟨wo.heap.size, i, none⟩ (.int .u8 (markN (k + n) i : Nat)))) := hbl.setCell (Nat.le_refl _) _
                  have hm := fun W : World => markByteN (k + n) i W (by omega) (by omega)
                  rw [Int.natCast_add] at hm
                  clear hmany hset hil hownk hbl
                  go_wp2_with (go_at_call 95; refine (hm _).mono ?_; rintro e w' ⟨rfl, rfl⟩)
                  go_roundg q2
                  case measure => omega
                  case rel => exact ⟨i + 1, by omega, by go_num, HS.out, HB.out⟩
        case rest =>
          obtain ⟨hstC, hgsC⟩ := hcut
          have HSC := hide hstC
          have HGC := hide hgsC
          clear hstC hgsC HSB HGB hmk2
          go_wp2_with fail
          go_loopg [14] n (fun q s14 wr => ∃ k : Nat, k + q = n ∧ s14 = .int .i64 (k : Nat) ∧ St n A l C (fun r => mk r (l r)) w wr ∧ GS n G A l C w n (fun r => mk r (l r) ++ mk (r + n) 64) wr)
          case atStart => exact ⟨0, by omega, rfl, HSC.out, HGC.out⟩
          case round =>
            obtain ⟨k, hkq, rfl, hst, hgs⟩ := hrel
            have hk0 : (0 : Int) ≤ (k : Int) := by omega
            cases gk with
            | zero =>
              obtain rfl : k = n := by omega
              have hkz : ¬ ((k : Int) < (k : Int)) := by omega
              have HS := hide hst
              clear hst hgs
              go_wp2_with fail
              go_ret
              exact ⟨rfl, HS.out⟩
            | succ q =>
              have hkz : (k : Int) < (n : Int) := by omega
              have hkn : k < n := by omega
              have hlk := HL.out k hkn
              have HSG := hide (And.intro hst hgs)
              have c0 := hst.row HA.out (HC.out k hkn)
              unfold fv at c0
              clear hst hgs
              obtain ⟨wo, rfl⟩ : ∃ wo : World, wo = wr := ⟨_, rfl⟩
              go_wp2_with fail
              go_loopg [15] (l k) (fun q s15 wr => ∃ i : Nat, i + q = l k ∧ s15 = .int .i64 (i : Nat) ∧ St n A l C (fun r => mk r (l r)) w wr ∧ GS n G A l C w n (fun r => mk r (l r) ++ mk (r + n) 64) wr)
              case atStart => exact ⟨0, by omega, rfl, HSG.out⟩
              case round =>
                obtain ⟨i, hiq, rfl, hst, hgs⟩ := hrel
                clear c0
                have hi0 : (0 : Int) ≤ (i : Int) := by omega
                have c1 := hst.row HA.out (HC.out k hkn)
                have hownk := hst.2 k hkn
                obtain ⟨A', C', d1, hown⟩ := hgs.get hkn
                have HS : Hid (∀ m, St n A l C (fun r => mk r (l r)) w (wr.drewN m) ∧ GS n G A l C w n (fun r => mk r (l r) ++ mk (r + n) 64) (wr.drewN m)) := fun m => ⟨hst.drewN m, hgs.drewN m⟩
                have HS0 := hide (And.intro hst hgs)
                unfold fv at c1 hownk
                clear hst hgs
                cases gk with
                | zero =>
                  have hiz : ¬ ((i : Int) < (l k : Int)) := by omega
                  clear hown hownk
                  go_wp2_with fail
                  go_roundg q
                  case measure => omega
                  case rel => exact ⟨k + 1, by omega, by go_num, HS0.out⟩
                | succ q2 =>
                  have hiz : (i : Int) < (l k : Int) := by omega
                  have hi64 : (i : Int) < (l k : Int) + 64 := by omega
                  have hlt : i < l k := by omega
                  have hgi : (mk k (l k) ++ mk (k + n) 64)[i]? = some (.int .u8 (markN k i : Nat)) := by rw [List.getElem?_append_left (by rw [mk_length]; exact hlt)]; exact mk_get k (l k) i hlt
                  obtain ⟨g, C2, hv, d3, _, hlc, hcm⟩ := owns_cell hown hgi
                  injection hv with hA' _ _
                  have hm := fun W : World => (markByteN k i W (by omega) (by omega)).mono (R' := fun e w' => e = .returned (.int .u8 (markN k i : Nat)) ∧ w' = W) fun _ _ ⟨he, hw⟩ => ⟨he, hw.symm⟩
                  subst hA'
                  obtain ⟨g2, C3, hv2, d4, _, hlc2, hcm2⟩ := owns_cell hownk (mk_get k (l k) i hlt)
                  injection hv2 with hAk _ _
                  rw [hAk] at c1
                  clear hown hownk hAk hgi hlt
                  go_upto_region 41 with fail
                  go_cut [192] (fun s wx => s = .bool false ∧ ∃ m, wx = wr.drewN m)
                  case first =>
                    go_quiet ((go_at_call 95; exact Calls.quiet_of_same (hm _)))
                    all_goals
                      go_wp2_with fail
                      go_meet
                      exact ⟨rfl, _, rfl⟩
                  case rest =>
                    obtain ⟨rfl, m, rfl⟩ := hcut
                    go_wp2_with fail
                    go_roundg q2
                    case measure => omega
                    case rel => exact ⟨i + 1, by omega, by go_num, HS.out m⟩
end Go.Proofs.YtpmldopbjlnknaaGreat
