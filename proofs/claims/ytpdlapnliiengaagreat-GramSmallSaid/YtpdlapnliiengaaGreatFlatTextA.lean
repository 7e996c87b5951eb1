/-
  Lists of api.Text that lie apart: flatTexts says so.
-/
import Derived.Test.YtpdlapnliiengaaGreatFlatTextR
import Derived.Deep.CutBlock
import Derived.Deep.DeepCutAuto
import Derived.Deep.LoopGhost
import Derived.Deep.DeepMust
import Derived.Deep.RegionHeld3
import Derived.Laws.MakeOwn
import Derived.Deep.OwnRows
namespace Go.Proofs.YtpdlapnliiengaaGreat.TextFlat
open Go.RowKit
set_option linter.unusedVariables false

theorem mkR_one (γ : Nat → Nat) (κ : Nat → Nat × Nat) : ∀ m, ∀ u ∈ mkR γ κ m, u.oneCell' = true
  | 0, u, hu => by cases hu
  | m + 1, u, hu => by
    rcases List.mem_append.1 hu with h | h
    · exact mkR_one γ κ m u h
    · exact el_one _ _ _ u h
theorem RowM.glue {w : World} {v : Value} {a c : Nat} {γ1 γ2 : Nat → Nat} {κ1 κ2 : Nat → Nat × Nat} (h : w.ownsRow 0 9 1 v (a + c) (mkR γ1 κ1 a ++ mkR γ2 κ2 c)) (h1 : ∀ i, i < a → gd w (γ1 i) (κ1 i).1 (κ1 i).2) (h2 : ∀ i, i < c → gd w (γ2 i) (κ2 i).1 (κ2 i).2) :
    RowM w v (a + c) (fun j => if j < a then κ1 j else κ2 (j - a)) (a + c) := by
  refine ⟨Nat.le_refl _, fun j => if j < a then γ1 j else γ2 (j - a), [], ?_, fun i hi => ?_⟩
  · rw [List.append_nil, mkR_add, mkR_congr (γ' := γ1) (κ' := κ1) a (fun i hi => ⟨if_pos hi, if_pos hi⟩)]
    have e : mkR (fun j => (fun j => if j < a then γ1 j else γ2 (j - a)) (a + j)) (fun j => (fun j => if j < a then κ1 j else κ2 (j - a)) (a + j)) c = mkR γ2 κ2 c := mkR_congr c (fun i _ => by
      dsimp only
      rw [if_neg (by omega), if_neg (by omega), Nat.add_sub_cancel_left]
      exact ⟨rfl, rfl⟩)
    rw [e]
    exact h
  · dsimp only
    by_cases e : i < a
    · rw [if_pos e, if_pos e]; exact h1 i e
    · rw [if_neg e, if_neg e]; exact h2 (i - a) (by omega)
/-- Marks of place i behind the first ones of a grown list. -/
def κg (n : Nat) (l : Nat → Nat) (r j : Nat) : Nat × Nat := if j < l r then (r, j) else (r + n, j - l r)
theorem below_undrew {B : Nat} {w w' : World} (h : Below B w.drew w') : Below B w w' := ⟨h.os, h.tape, h.output, h.size, h.block⟩
theorem below_setCells {B b : Nat} {w0 : World} (hB : B ≤ b) : ∀ (vs : List Value) (o : Nat) (w : World), Below B w0 w → Below B w0 (w.setCells b o vs)
  | [], _, _, h => h
  | v :: r, o, _, h => below_setCells hB r (o + 1) _ (h.setCell (p := ⟨b, o, none⟩) hB v)

set_option maxRecDepth 100000 in
set_option maxHeartbeats 4000000 in
theorem flat_any (b off n cap : Nat) (A : Nat → Option Addr) (l C : Nat → Nat) (X : Nat → List Value) (w : World) (hn : n ≤ 100000) (hl : ∀ r, r < n → l r ≤ 1000000000000) (ha : Apt n b A l C)
    (hc : ∀ r, r < n → w.cell? ⟨b, off + r, none⟩ = some (fv A l C r)) (ho : ∀ r, r < n → w.ownsRow 0 9 1 (fv A l C r) (l r) (X r)) :
    Calls Tryz.prog 43 #[.slice (some ⟨b, off, none⟩) n cap] w fun e w' => e = .returned (.bool true) ∧ St n A l C l w w' := by
  have HC := hide hc
  have HO := hide ho
  have HL := hide hl
  have HA := hide ha
  clear hc ho hl ha
  obtain ⟨i0, hi, hq0, hq1, hq2⟩ := info_parts info_e
  go_enter Tryz.func43, Tryz.ntmps43
  go_upto_block 0 with fail
  go_cut [] (fun wx => St n A l C l w wx)
  case first =>
    go_wp2_with fail
    go_loopg [3] n (fun q s3 wr => ∃ k : Nat, k + q = n ∧ s3 = .int .i64 (k : Nat) ∧ St n A l C (fun r => if r < k then l r else 0) w wr)
    case atStart => exact ⟨0, by omega, rfl, ⟨Kept.refl _ _, fun r hr => by simpa using RowM.start (HO.out r hr)⟩⟩
    case round =>
      obtain ⟨k, hkq, rfl, hst⟩ := hrel
      have hk0 : (0 : Int) ≤ (k : Int) := by omega
      cases gk with
      | zero =>
        obtain rfl : k = n := by omega
        have hkz : ¬ ((k : Int) < (k : Int)) := by omega
        have HS := hide (hst.congr (M' := l) (fun r hr => if_pos hr))
        clear hst
        go_wp2_with fail
        go_meet
        exact HS.out
      | succ q =>
        have hkz : (k : Int) < (n : Int) := by omega
        have hkn : k < n := by omega
        obtain ⟨wo, rfl⟩ : ∃ wo : World, wo = wr := ⟨_, rfl⟩
        have hst0 : St n A l C (fun r => if r = k then 0 else if r < k then l r else 0) w wo := hst.congr (fun r hr => by
          by_cases e : r = k
          · subst e; simp
          · rw [if_neg e])
        have hlk := HL.out k hkn
        clear hst
        have hrow := hst0.row HA.out (HC.out k hkn)
        unfold fv at hrow
        go_wp2_with fail
        go_loopg [4] (l k) (fun q s4 wr => ∃ i : Nat, i + q = l k ∧ s4 = .int .i64 (i : Nat) ∧ St n A l C (fun r => if r = k then i else if r < k then l r else 0) w wr)
        case atStart => exact ⟨0, by omega, rfl, hst0⟩
        case round =>
          obtain ⟨i, hiq, rfl, hst⟩ := hrel
          clear hst0 hrow
          have hi0 : (0 : Int) ≤ (i : Int) := by omega
          have c1 := hst.row HA.out (HC.out k hkn)
          have hown := hst.2 k hkn
          simp only [if_true] at hown
          cases gk with
          | zero =>
            have hil : i = l k := by omega
            have hiz : ¬ ((i : Int) < (l k : Int)) := by omega
            have HS : Hid (St n A l C (fun r => if r < k + 1 then l r else 0) w wr) := hst.congr (fun r hr => by
              by_cases e : r = k
              · subst e
                rw [if_pos rfl, if_pos (by omega), hil]
              · rw [if_neg e]
                by_cases e2 : r < k
                · rw [if_pos e2, if_pos (by omega)]
                · rw [if_neg e2, if_neg (by omega)])
            unfold fv at c1
            clear hst hown hil
            go_wp2_with fail
            go_roundg q
            case measure => omega
            case rel => exact ⟨k + 1, by omega, by go_num, HS.out⟩
          | succ q2 =>
            have hiz : (i : Int) < (l k : Int) := by omega
            have hil : i < l k := by omega
            obtain ⟨g, C', hv, hlc, hcm⟩ := hown.slice (by omega)
            have hgo : (fv A l C k).ownBlock = some g := by rw [hv]; rfl
            rw [hv] at c1
            have hm := fun W : World => mark_any k i W (by omega) (by omega)
            have HS : Hid (∀ (w' : World) (γ : Nat), Below wr.heap.size wr w' → gd w' γ k i → St n A l C (fun r => if r = k then i + 1 else if r < k then l r else 0) w (w'.setCells g i (el γ k i))) := fun w' γ hb hg => by
              have h1 := (hown.below hb).mark1 (γ0 := γ) hgo hil hg
              have h2 := hst.step HA.out hkn (F := fun x => x = g) ((Kept.of_below (F := fun x => x = g) hb).trans (kept_setCells g (el γ k i) i w') (fun _ _ h => h)) (fun x hx => .inl (by have : x = g := hx; rw [this]; exact hgo)) h1
              refine h2.congr (fun r hr => ?_)
              by_cases e : r = k
              · simp only [if_pos e]
              · simp only [if_neg e]
            have HT : Hid (∀ w' : World, Below wr.heap.size wr w' → w'.there g i 1) := fun w' hb => by
              have h1 := hown.below hb
              rw [hv] at h1
              exact h1.there1 hil
            have HK : Hid (∀ w' : World, Below wr.drew.heap.size wr.drew w' → Below wr.heap.size wr w') := fun w' h => below_undrew h
            have hgb : ¬ (b = g) := fun e => HA.out.nb k g hkn hgo e.symm
            clear hst hown hv hgo
            go_upto_region 7 with fail
            go_region_held3 (fun w' => w'.cell? ⟨b, off + k, none⟩ = some (.slice (some ⟨g, 0, none⟩) (l k) C')) (first | exact c1 | exact c1m | exact c1s) (first | (go_at_call 66; refine (hm _).mono ?_; rintro e w' ⟨γ, rfl, hg, hbm0⟩; have hbm := HK.out w' hbm0; have c1m := cell_thru c1 hbm; have c1s := (kept_setCells g (el γ k i) i w').cell c1m hgb; have hth := HT.out w' hbm; obtain ⟨t0, f0⟩ := hth 0 (by omega); obtain ⟨u0x, t0⟩ := Option.isSome_iff_exists.1 t0; simp only [Nat.add_zero] at t0 f0))
            all_goals
              go_wp2_with fail
              go_roundg q2
              case measure => omega
              case rel => exact ⟨i + 1, by omega, by go_num, HS.out _ _ hbm hg⟩
  case rest =>
    have hst1 := hcut
    have hsw : w.heap.size ≤ wc.heap.size := hst1.1.size
    have hvG : ∀ r g, r < n → (fv A l C r).ownBlock = some g → g ≠ wc.heap.size := fun r g hr hg => by
      have := (owns_cells (HO.out r hr) g hg).1
      omega
    have HVG := hide hvG
    have hmk := fun wx => run_make_row' (P := Tryz.prog) 38 29 (.slice none 0 0) 24 Tryz.underlying38 info_sb rfl .i64 .i64 n (by omega) (by omega) wx
    have HS2 := hide (hst1.below (below_alloc wc (.cells (madeCells #[.slice none 0 0] n) 29)))
    have HG2 : Hid (GS n wc.heap.size A l C w 0 (fun r j => (r, j)) (wc.alloc (.cells (madeCells #[.slice none 0 0] n) 29))) := GS.made w wc
    clear hst1 hcut hvG
    go_upto_block 4 with fail
    clear hmk
    generalize hG : wc.heap.size = G at *
    go_cut [] (fun wx => St n A l C l w wx ∧ GS n G A l C w n (fun r j => (r, j)) wx)
    case first =>
      have HGG := hide hG
      clear hG
      go_wp2_with fail
      go_loopg [6] n (fun q s6 wr => ∃ k : Nat, k + q = n ∧ s6 = .int .i64 (k : Nat) ∧ St n A l C l w wr ∧ GS n G A l C w k (fun r j => (r, j)) wr)
      case atStart => exact ⟨0, by omega, rfl, HS2.out, HG2.out⟩
      case round =>
        obtain ⟨k, hkq, rfl, hst, hgs⟩ := hrel
        have hk0 : (0 : Int) ≤ (k : Int) := by omega
        cases gk with
        | zero =>
          obtain rfl : k = n := by omega
          have hkz : ¬ ((k : Int) < (k : Int)) := by omega
          have HS := hide (And.intro hst hgs)
          clear hst hgs
          go_wp2_with fail
          go_meet
          exact HS.out
        | succ q =>
          have hkz : (k : Int) < (n : Int) := by omega
          have hkn : k < n := by omega
          obtain ⟨wo, rfl⟩ : ∃ wo : World, wo = wr := ⟨_, rfl⟩
          have hlk := HL.out k hkn
          have c1 := hst.row HA.out (HC.out k hkn)
          have HST := hide hst
          have HGS := hide hgs
          have hownk := hst.2 k hkn
          have HOWNK := hide hownk
          have hwo : w.heap.size ≤ wo.heap.size := hst.1.size
          clear hst hgs hownk
          unfold fv at c1
          go_wp2_with fail
          go_loopg [7, 8] 64 (fun q s7 s8 wr => ∃ (i : Nat) (A' : Option Addr) (C' : Nat), i + q = 64 ∧ s8 = .int .i64 (i : Nat) ∧ s7 = .slice A' (l k + i) C' ∧ RowM wr (.slice A' (l k + i) C') (l k + i) (fun j => (k, j)) (l k + i) ∧
            (∀ x, (Value.slice A' (l k + i) C').ownBlock = some x → (fv A l C k).ownBlock = some x ∨ wo.heap.size ≤ x) ∧ Kept (fun x => (fv A l C k).ownBlock = some x) wo wr ∧ RowM wr (fv A l C k) (l k) (fun j => (k, j)) (l k))
          case atStart => exact ⟨0, A k, C k, by omega, rfl, rfl, HOWNK.out, fun x hx => .inl hx, Kept.refl _ _, HOWNK.out⟩
          case round =>
            obtain ⟨i, A', C', hiq, rfl, rfl, hog, hgo, hK, hvk⟩ := hrel
            have hi0 : (0 : Int) ≤ (i : Int) := by omega
            have hbk : ¬ (fv A l C k).ownBlock = some b := fun h => HA.out.nb k b hkn h rfl
            have c2 := hK.cell c1 hbk
            cases gk with
            | zero =>
              obtain rfl : i = 64 := by omega
              have hiz : ¬ ((64 : Int) < (64 : Int)) := by omega
              have hGk : ¬ (fv A l C k).ownBlock = some G := fun h => HVG.out k G hkn h rfl
              have hTk := HOWNK.out.tyF
              have hgs3 := HGS.out.kept hK hGk hTk (fun r g hr h hf => by
                rcases h with h | h
                · have := HA.out.dist r k g (by omega) hkn h hf
                  omega
                · have := (owns_cells (HO.out k hkn) g hf).1
                  omega)
              have hst3 := (HST.out.step HA.out hkn hK (fun g hg => .inl hg) hvk).congr (M' := l) (fun r _ => by
                by_cases e : r = k
                · rw [if_pos e, e]
                · rw [if_neg e])
              obtain ⟨u, d1, d2⟩ := hgs3.cell hkn
              have HS : Hid (St n A l C l w (wr.setCell ⟨G, k, none⟩ (.slice A' (l k + 64) C')) ∧ GS n G A l C w (k + 1) (fun r j => (r, j)) (wr.setCell ⟨G, k, none⟩ (.slice A' (l k + 64) C'))) :=
                ⟨hst3.setG hgs3.tyF hsw HVG.out _ _, hgs3.put hkn HVG.out hog (fun g hg => by
                  rcases hgo g hg with h | h
                  · exact .inl h
                  · refine .inr ⟨by omega, fun e => ?_⟩
                    have := HGS.out.lt
                    omega)⟩
              clear hgs3 hst3 hog hgo hK hvk hTk
              go_wp2_with fail
              go_roundg q
              case measure => omega
              case rel => exact ⟨k + 1, by omega, by go_num, HS.out⟩
            | succ q2 =>
              have hiz : (i : Int) < (64 : Int) := by omega
              have hm := fun W : World => mark_any k (l k + i) W (by omega) (by omega)
              rw [Int.natCast_add] at hm
              obtain ⟨_, γ, rest, hog1, hgd⟩ := hog
              have HGO := hide hgo
              have HVK := hide hvk
              have HGD := hide hgd
              have HOG := hide hog1
              clear hog1 hgo hvk hgd
              go_wp2_with (first
                | (go_at_call 66; refine (hm _).mono ?_; rintro e w' ⟨γ0, rfl, hg0, hbm⟩; have hba := below_step hbm (.cells #[.string (markT k (l k + i))] 9); have hogA := owns_thruS HOG.out hba; have hn1 := World.news_of_block (heap_alloc_new w' (.cells #[.string (markT k (l k + i))] 9)))
                | (at_builtin; go_must (refine wpList_append_keepS _ rfl (.tmp 57) (.tmp 67) 29 rfl 9 i0 (.string ⟨#[]⟩) 1 16 Tryz.underlying29 hi hq0 hq1 hq2 rfl (by omega) 0 _ (l k + i) _ rfl hogA ⟨w'.heap.size, 0, none⟩ 1 1 (el γ0 k (l k + i)) rfl rfl hn1 (el_one _ _ _) (by unfold maxLen; omega) (by omega) (by omega) ?_); intro A3 C3 w3 hown3 hg3 hold3))
              obtain ⟨e1, e2, e3, e4⟩ := grow_step HVK.out HOG.out (by omega) hK HGO.out hba hg3 hold3
              have hnew := RowM.snoc hown3 (RowM.rest HOG.out) (fun j hj => e4 _ _ _ (gd_below (HGD.out j hj) hba)) (e4 _ _ _ (gd_below hg0 (below_alloc w' _)))
              go_roundg q2
              case measure => omega
              case rel => exact ⟨i + 1, A3, C3, by omega, by go_num, rfl, hnew, e3, e1, e2⟩
    case rest =>
      obtain ⟨hstA, hgsA⟩ := hcut
      have HSA := hide hstA
      have HGA := hide hgsA
      clear hstA hgsA HS2 HG2 hG
      obtain ⟨wA, hwA⟩ : ∃ wA, wc = wA := ⟨_, rfl⟩
      go_upto_block 8 with fail
      go_cut [] (fun wx => St n A l C l w wx ∧ GS n G A l C w n (fun r j => (r, j)) wx)
      case first =>
        clear hwA
        go_wp2_with fail
        go_loopg [9] n (fun q s9 wr => ∃ k : Nat, k + q = n ∧ s9 = .int .i64 (k : Nat) ∧ St n A l C l w wr ∧ GS n G A l C w n (fun r j => (r, j)) wr)
        case atStart => exact ⟨0, by omega, rfl, HSA.out, HGA.out⟩
        case round =>
          obtain ⟨k, hkq, rfl, hst, hgs⟩ := hrel
          have hk0 : (0 : Int) ≤ (k : Int) := by omega
          cases gk with
          | zero =>
            obtain rfl : k = n := by omega
            have hkz : ¬ ((k : Int) < (k : Int)) := by omega
            have HS := hide (And.intro hst hgs)
            clear hst hgs
            go_wp2_with fail
            go_meet
            exact HS.out
          | succ q =>
            have hkz : (k : Int) < (n : Int) := by omega
            have hkn : k < n := by omega
            have hlk := HL.out k hkn
            have HSG := hide (And.intro hst hgs)
            clear hst hgs
            obtain ⟨wo, rfl⟩ : ∃ wo : World, wo = wr := ⟨_, rfl⟩
            go_wp2_with fail
            go_loopg [10] (l k + 64) (fun q s10 wr => ∃ i : Nat, i + q = l k + 64 ∧ s10 = .int .i64 (i : Nat) ∧ St n A l C l w wr ∧ GS n G A l C w n (fun r j => (r, j)) wr)
            case atStart => exact ⟨0, by omega, rfl, HSG.out⟩
            case round =>
              obtain ⟨i, hiq, rfl, hst, hgs⟩ := hrel
              have hi0 : (0 : Int) ≤ (i : Int) := by omega
              have c1 := hst.row HA.out (HC.out k hkn)
              have hownk := hst.2 k hkn
              obtain ⟨A', C', d1, hown⟩ := hgs.get hkn
              have HS : Hid (∀ wx, Below wr.heap.size wr wx → St n A l C l w wx ∧ GS n G A l C w n (fun r j => (r, j)) wx) := fun wx hb => ⟨hst.below hb, hgs.below hb⟩
              have HS0 := hide (And.intro hst hgs)
              unfold fv at c1 hownk
              clear hst hgs
              cases gk with
              | zero =>
                have hiz : ¬ ((i : Int) < (l k : Int) + 64) := by omega
                clear hown hownk
                go_wp2_with fail
                go_roundg q
                case measure => omega
                case rel => exact ⟨k + 1, by omega, by go_num, HS0.out⟩
              | succ q2 =>
                have hiz : (i : Int) < (l k : Int) + 64 := by omega
                obtain ⟨g, C2, hv, hlc, hcm⟩ := hown.slice (by omega)
                injection hv with hA' _ hC'
                subst hA' hC'
                have h1 := hown.at1 (i := i) (by omega)
                have hm := fun W : World => mark_any k i W (by omega) (by omega)
                have HM := hide hm
                have H1 := hide h1
                obtain ⟨g2, hg2⟩ : ∃ g2, decide (i < l k) = true → A k = some ⟨g2, 0, none⟩ ∧ l k ≤ C k ∧ ∃ γ, wr.rangeAt g2 i (el γ k i) ∧ gd wr γ k i := by
                  by_cases hlt : i < l k
                  · obtain ⟨g2, C3, hv2, hlc2, hcm2⟩ := hownk.slice (by omega)
                    injection hv2 with hAk _ hCk
                    rw [hAk] at hownk
                    exact ⟨g2, fun _ => ⟨hAk, by omega, hownk.at1 hlt⟩⟩
                  · exact ⟨0, fun h => absurd (of_decide_eq_true h) hlt⟩
                have hlC : l k ≤ C k := by
                  obtain ⟨_, γ, rest, ho1, _⟩ := hownk
                  obtain ⟨_, ⟨hv0, h0⟩ | ⟨g', cap', cur', hv0, _, _, hnc, _⟩⟩ := ho1
                  · rw [h0]; exact Nat.zero_le _
                  · injection hv0 with _ _ hC3; omega
                have HG2' := hide hg2
                clear hown hownk h1 hm hg2
                go_upto_region 24 with fail
                go_cut [122] (fun s wx => s = .bool false ∧ Below wr.heap.size wr wx)
                case first =>
                  refine region24_lit n cap k i G g g2 b off (l k + 64) (l k) C' (C k) (A k) (decide (i < l k)) (markT k i) _ _ wr rfl rfl rfl rfl rfl hkn (by omega) (by omega) rfl hlC (fun h => (HG2'.out h).1) d1 c1 H1.out (fun h => (HG2'.out h).2.2) HM.out ?_
                  intro vs w' hB' h122
                  clear d1 c1
                  simp only [List.foldl_cons, List.foldl_nil, List.setIfInBounds_toArray, List.set_cons_succ, List.set_cons_zero, h122]
                  clear h122
                  generalize vs 88 = v88
                  generalize vs 89 = v89
                  generalize vs 90 = v90
                  generalize vs 91 = v91
                  generalize vs 92 = v92
                  generalize vs 93 = v93
                  generalize vs 94 = v94
                  generalize vs 95 = v95
                  generalize vs 96 = v96
                  generalize vs 97 = v97
                  generalize vs 98 = v98
                  generalize vs 99 = v99
                  generalize vs 100 = v100
                  generalize vs 101 = v101
                  generalize vs 102 = v102
                  generalize vs 103 = v103
                  generalize vs 104 = v104
                  generalize vs 105 = v105
                  generalize vs 106 = v106
                  generalize vs 107 = v107
                  generalize vs 108 = v108
                  generalize vs 109 = v109
                  generalize vs 110 = v110
                  generalize vs 111 = v111
                  generalize vs 112 = v112
                  generalize vs 113 = v113
                  generalize vs 114 = v114
                  generalize vs 115 = v115
                  generalize vs 116 = v116
                  generalize vs 117 = v117
                  generalize vs 118 = v118
                  generalize vs 119 = v119
                  generalize vs 120 = v120
                  generalize vs 121 = v121
                  clear vs
                  go_wp2_with fail
                  go_meet
                  exact ⟨rfl, hB'⟩
                case rest =>
                  obtain ⟨rfl, hbc⟩ := hcut
                  clear d1 c1
                  go_wp2_with fail
                  go_roundg q2
                  case measure => omega
                  case rel => exact ⟨i + 1, by omega, by go_num, HS.out _ hbc⟩
      case rest =>
        obtain ⟨hstB, hgsB⟩ := hcut
        have HSB := hide hstB
        have hgsB0 : GS n G A l C w 0 (κg n l) wc := hgsB.less
        have HGB := hide hgsB0
        clear hstB hgsB hgsB0 HSA HGA hwA
        have hmk64 := fun wx => run_make (P := Tryz.prog) wx 29 9 i0 (.string ⟨#[]⟩) Tryz.underlying29 hi hq0 .i64 .i64 64 64 (by omega) (by omega) (by rw [hq2]; omega) (by omega)
        have hmk2 : ∀ wx, (Instr.makeSlice 29 (.int .i64 64) (.int .i64 64)).run Tryz.prog wx = .ok (.slice (some ⟨wx.heap.size, 0, none⟩) 64 64) (wx.alloc (.cells (madeCells (.string ⟨#[]⟩ : Value).cells (64 * 1)) 9)) := fun wx => by
          have h := hmk64 wx
          rw [hq1] at h
          exact h
        have hmkl : ∀ wx : World, (wx.alloc (.cells (madeCells (.string ⟨#[]⟩ : Value).cells (64 * 1)) 9)).ownsRow 0 9 1 (.slice (some ⟨wx.heap.size, 0, none⟩) 64 64) 64 (madeCells (.string ⟨#[]⟩ : Value).cells (64 * 1)).toList := fun wx =>
          ⟨by rw [Array.length_toList, size_madeCells], .inr ⟨wx.heap.size, 64, _, rfl, Nat.zero_le _, heap_alloc_new _ _, Nat.le_refl _, by unfold maxLen; omega, size_madeCells _ _, by rw [List.take_of_length_le (by rw [Array.length_toList, size_madeCells]; exact Nat.le_refl _)]⟩⟩
        clear hmk64
        generalize hMC : madeCells (.string ⟨#[]⟩ : Value).cells (64 * 1) = MC at hmk2 hmkl
        have HMK := hide hmkl
        clear hMC hmkl
        go_upto_block 12 with fail
        go_cut [] (fun wx => St n A l C l w wx ∧ GS n G A l C w n (κg n l) wx)
        case first =>
          go_wp2_with fail
          go_loopg [11] n (fun q s11 wr => ∃ k : Nat, k + q = n ∧ s11 = .int .i64 (k : Nat) ∧ St n A l C l w wr ∧ GS n G A l C w k (κg n l) wr)
          case atStart => exact ⟨0, by omega, rfl, HSB.out, HGB.out⟩
          case round =>
            obtain ⟨k, hkq, rfl, hst, hgs⟩ := hrel
            have hk0 : (0 : Int) ≤ (k : Int) := by omega
            cases gk with
            | zero =>
              obtain rfl : k = n := by omega
              have hkz : ¬ ((k : Int) < (k : Int)) := by omega
              have HS := hide (And.intro hst hgs)
              clear hst hgs
              go_wp2_with fail
              go_meet
              exact HS.out
            | succ q =>
              have hkz : (k : Int) < (n : Int) := by omega
              have hkn : k < n := by omega
              obtain ⟨wo, rfl⟩ : ∃ wo : World, wo = wr := ⟨_, rfl⟩
              have hlk := HL.out k hkn
              have c1 := hst.row HA.out (HC.out k hkn)
              have HST := hide hst
              have HGS := hide hgs
              have HOWNK := hide (hst.2 k hkn)
              have hwo : w.heap.size ≤ wo.heap.size := hst.1.size
              have HM0 : Hid (RowM (wo.alloc (.cells MC 9)) (.slice (some ⟨wo.heap.size, 0, none⟩) 64 64) 64 (fun j => (k + n, j)) 0) := RowM.start (HMK.out wo)
              have HBA : Hid (Below wo.heap.size wo (wo.alloc (.cells MC 9))) := below_alloc wo _
              clear hst hgs
              unfold fv at c1
              go_wp2_with fail
              go_loopg [13] 64 (fun q s13 wr => ∃ i : Nat, i + q = 64 ∧ s13 = .int .i64 (i : Nat) ∧ RowM wr (.slice (some ⟨wo.heap.size, 0, none⟩) 64 64) 64 (fun j => (k + n, j)) i ∧ Below wo.heap.size wo wr)
              case atStart => exact ⟨0, by omega, rfl, HM0.out, HBA.out⟩
              case round =>
                obtain ⟨i, hiq, rfl, hmany, hbl⟩ := hrel
                have hi0 : (0 : Int) ≤ (i : Int) := by omega
                cases gk with
                | zero =>
                  obtain rfl : i = 64 := by omega
                  have hiz : ¬ ((64 : Int) < (64 : Int)) := by omega
                  obtain ⟨_, γ2, rest2, hm2, hgd2⟩ := hmany
                  obtain rfl := RowM.rest hm2
                  rw [List.append_nil] at hm2
                  have hnews := hm2.cells (g := wo.heap.size) rfl
                  have hone := mkR_one γ2 (fun j => (k + n, j)) 64
                  have hlen := mkR_len γ2 (fun j => (k + n, j)) 64
                  have hokr := HOWNK.out.below hbl
                  obtain ⟨_, γ1, rest1, hm1, hgd1⟩ := hokr
                  obtain rfl := RowM.rest hm1
                  rw [List.append_nil] at hm1
                  have c2 := cell_thru c1 hbl
                  have HBL := hide hbl
                  have hGlt : G < wo.heap.size := HGS.out.lt
                  have HGD1 := hide hgd1
                  have HGD2 := hide hgd2
                  generalize hnw : mkR γ2 (fun j => (k + n, j)) 64 = news at hnews hone hlen
                  have HN := hide hnw
                  generalize hol : mkR γ1 (fun j => (k, j)) (l k) = olds at hm1
                  have HO1 := hide hol
                  have hgB : GS n G A l C w k (κg n l) wr := HGS.out.below hbl
                  have hGk : ¬ (fv A l C k).ownBlock = some G := fun h => HVG.out k G hkn h rfl
                  have hTk : TyF (fun g => (fv A l C k).ownBlock = some g) wr := (HOWNK.out.below hbl).tyF
                  have HTK := hide hTk
                  have hkG : ∀ w3, Kept (fun x => (fv A l C k).ownBlock = some x) wr w3 → GS n G A l C w k (κg n l) w3 := fun w3 hK => hgB.kept hK hGk HTK.out (fun r g hr h hf => by
                    rcases h with h | h
                    · have := HA.out.dist r k g (by omega) hkn h hf
                      omega
                    · have := (owns_cells (HO.out k hkn) g hf).1
                      omega)
                  have HKG := hide hkG
                  have HCG : Hid (∀ w3, Kept (fun x => (fv A l C k).ownBlock = some x) wr w3 → ∃ u, w3.cell? ⟨G, k, none⟩ = some u ∧ w3.frozen? ⟨G, k, none⟩ = false) := fun w3 hK => (HKG.out w3 hK).cell hkn
                  have HSTB := hide (HST.out.below hbl)
                  have HM1 := hide hm1
                  have hm1' := hm1
                  unfold fv at hm1'
                  clear hm2 hbl hnw hol hgB hkG hGk hTk hgd1 hgd2 hm1
                  go_wp2_with (at_builtin; go_must (refine wpList_append_keepS _ rfl (.tmp 148) (.tmp 149) 29 rfl 9 i0 (.string ⟨#[]⟩) 1 16 Tryz.underlying29 hi hq0 hq1 hq2 rfl (by omega) 0 _ (l k) olds rfl hm1' ⟨wo.heap.size, 0, none⟩ 64 64 news rfl hlen hnews hone (by unfold maxLen; omega) (by omega) (by omega) ?_); intro A3 C3 w3 hown3 hg3 hold3; have hK3 := hg3.kept (F := fun x => (fv A l C k).ownBlock = some x) (fun _ h => h); obtain ⟨u3, d1, d2⟩ := HCG.out w3 hK3)
                  have hk1 : RowM w3 (fv A l C k) (l k) (fun j => (k, j)) (l k) := ⟨Nat.le_refl _, γ1, [], by rw [List.append_nil, HO1.out]; exact hold3, fun j hj => gd_kept (HGD1.out j hj) hK3 HTK.out⟩
                  have hS3 := (HSTB.out.step HA.out hkn hK3 (fun g hg => .inl hg) hk1).congr (M' := l) (fun r _ => by
                    by_cases e : r = k
                    · rw [if_pos e, e]
                    · rw [if_neg e])
                  rw [← HN.out, ← HO1.out] at hown3
                  have hrow3 : RowM w3 (.slice A3 (l k + 64) C3) (l k + 64) (κg n l k) (l k + 64) := RowM.glue hown3 (fun j hj => gd_kept (HGD1.out j hj) hK3 HTK.out) (fun j hj => gd_kept (HGD2.out j hj) hK3 HTK.out)
                  have hG3 := (HKG.out w3 hK3).put hkn HVG.out hrow3 (fun g hg => by
                    rcases hg3.foot (F := fun x => (fv A l C k).ownBlock = some x) (fun _ h => h) g hg with h | h
                    · exact .inl h
                    · have := HBL.out.size
                      exact .inr ⟨by omega, by omega⟩)
                  have HS := hide (And.intro (hS3.setG (HKG.out w3 hK3).tyF hsw HVG.out k (.slice A3 (l k + 64) C3)) hG3)
                  clear hS3 hG3 hown3 hold3 hrow3 hk1
                  go_roundg q
                  case measure => omega
                  case rel => exact ⟨k + 1, by omega, by go_num, HS.out⟩
                | succ q2 =>
                  have hiz : (i : Int) < (64 : Int) := by omega
                  have hil : i < 64 := by omega
                  have hm := fun W : World => mark_any (k + n) i W (by omega) (by omega)
                  rw [Int.natCast_add] at hm
                  have HS : Hid (∀ (w' : World) (γ : Nat), Below wr.heap.size wr w' → gd w' γ (k + n) i → RowM (w'.setCells wo.heap.size i (el γ (k + n) i)) (.slice (some ⟨wo.heap.size, 0, none⟩) 64 64) 64 (fun j => (k + n, j)) (i + 1) ∧ Below wo.heap.size wo (w'.setCells wo.heap.size i (el γ (k + n) i))) := fun w' γ hb hg =>
                    ⟨(hmany.below hb).mark1 (γ0 := γ) rfl hil hg, below_setCells (Nat.le_refl _) _ _ _ (hbl.trans (hb.mono hbl.size))⟩
                  have HT : Hid (∀ w' : World, Below wr.heap.size wr w' → w'.there wo.heap.size i 1) := fun w' hb => (hmany.below hb).there1 hil
                  clear hmany hbl
                  go_wp2_with (go_at_call 66; refine (hm _).mono ?_; rintro e w' ⟨γ, rfl, hg, hbm⟩; have hth := HT.out w' hbm; obtain ⟨t0, f0⟩ := hth 0 (by omega); obtain ⟨u0x, t0⟩ := Option.isSome_iff_exists.1 t0; simp only [Nat.add_zero] at t0 f0)
                  go_roundg q2
                  case measure => omega
                  case rel => exact ⟨i + 1, by omega, by go_num, (HS.out _ _ hbm hg).1, (HS.out _ _ hbm hg).2⟩
        case rest =>
          obtain ⟨hstC, hgsC⟩ := hcut
          have HSC := hide hstC
          have HGC := hide hgsC
          clear hstC hgsC HSB HGB hmk2 HMK
          go_wp2_with fail
          go_loopg [14] n (fun q s14 wr => ∃ k : Nat, k + q = n ∧ s14 = .int .i64 (k : Nat) ∧ St n A l C l w wr ∧ GS n G A l C w n (κg n l) wr)
          case atStart => exact ⟨0, by omega, rfl, HSC.out, HGC.out⟩
          case round =>
            obtain ⟨k, hkq, rfl, hst, hgs⟩ := hrel
            have hk0 : (0 : Int) ≤ (k : Int) := by omega
            cases gk with
            | zero =>
              obtain rfl : k = n := by omega
              have hkz : ¬ ((k : Int) < (k : Int)) := by omega
              have HS := hide hst
              clear hst hgs
              go_wp2_with fail
              go_ret
              exact ⟨rfl, HS.out⟩
            | succ q =>
              have hkz : (k : Int) < (n : Int) := by omega
              have hkn : k < n := by omega
              have hlk := HL.out k hkn
              have HSG := hide (And.intro hst hgs)
              have c0 := hst.row HA.out (HC.out k hkn)
              unfold fv at c0
              clear hst hgs
              obtain ⟨wo, rfl⟩ : ∃ wo : World, wo = wr := ⟨_, rfl⟩
              go_wp2_with fail
              go_loopg [15] (l k) (fun q s15 wr => ∃ i : Nat, i + q = l k ∧ s15 = .int .i64 (i : Nat) ∧ St n A l C l w wr ∧ GS n G A l C w n (κg n l) wr)
              case atStart => exact ⟨0, by omega, rfl, HSG.out⟩
              case round =>
                obtain ⟨i, hiq, rfl, hst, hgs⟩ := hrel
                clear c0
                have hi0 : (0 : Int) ≤ (i : Int) := by omega
                have c1 := hst.row HA.out (HC.out k hkn)
                have hownk := hst.2 k hkn
                obtain ⟨A', C', d1, hown⟩ := hgs.get hkn
                have HS : Hid (∀ wx, Below wr.heap.size wr wx → St n A l C l w wx ∧ GS n G A l C w n (κg n l) wx) := fun wx hb => ⟨hst.below hb, hgs.below hb⟩
                have HS0 := hide (And.intro hst hgs)
                unfold fv at c1 hownk
                clear hst hgs
                cases gk with
                | zero =>
                  have hiz : ¬ ((i : Int) < (l k : Int)) := by omega
                  clear hown hownk
                  go_wp2_with fail
                  go_roundg q
                  case measure => omega
                  case rel => exact ⟨k + 1, by omega, by go_num, HS0.out⟩
                | succ q2 =>
                  have hiz : (i : Int) < (l k : Int) := by omega
                  have hlt : i < l k := by omega
                  obtain ⟨g, C2, hv, hlc, hcm⟩ := hown.slice (by omega)
                  injection hv with hA' _ hC'
                  subst hA' hC'
                  have h1 := hown.at1 (i := i) (by omega)
                  have ek : κg n l k i = (k, i) := if_pos hlt
                  rw [ek] at h1
                  have hm := fun W : World => mark_any k i W (by omega) (by omega)
                  obtain ⟨g2, C3, hv2, hlc2, hcm2⟩ := hownk.slice (by omega)
                  injection hv2 with hAk _ hCk
                  rw [hAk] at hownk
                  have h2 := hownk.at1 hlt
                  have hlC : l k ≤ C k := by omega
                  have HM := hide hm
                  have H1 := hide h1
                  have H2 := hide h2
                  have HAK := hide hAk
                  have ht : (true : Bool) = decide (i < l k) := (decide_eq_true hlt).symm
                  have HT := hide ht
                  clear hown hownk h1 h2 hm ek hAk hCk hlc2 hcm2 ht
                  go_upto_region 41 with fail
                  go_cut [192] (fun s wx => s = .bool false ∧ Below wr.heap.size wr wx)
                  case first =>
                    refine region41_lit n cap k i G g g2 b off (l k + 64) (l k) C' (C k) (A k) true (markT k i) _ _ wr rfl rfl rfl rfl rfl hkn (by omega) (by omega) HT.out hlC (fun _ => HAK.out) rfl d1 c1 H1.out (fun _ => H2.out) HM.out ?_
                    intro vs w' hB' h192
                    clear d1 c1
                    simp only [List.foldl_cons, List.foldl_nil, List.setIfInBounds_toArray, List.set_cons_succ, List.set_cons_zero, h192]
                    clear h192
                    generalize vs 167 = v167
                    generalize vs 168 = v168
                    generalize vs 169 = v169
                    generalize vs 170 = v170
                    generalize vs 171 = v171
                    generalize vs 172 = v172
                    generalize vs 173 = v173
                    generalize vs 174 = v174
                    generalize vs 175 = v175
                    generalize vs 176 = v176
                    generalize vs 177 = v177
                    generalize vs 178 = v178
                    generalize vs 179 = v179
                    generalize vs 180 = v180
                    generalize vs 181 = v181
                    generalize vs 182 = v182
                    generalize vs 183 = v183
                    generalize vs 184 = v184
                    generalize vs 185 = v185
                    generalize vs 186 = v186
                    generalize vs 187 = v187
                    generalize vs 188 = v188
                    generalize vs 189 = v189
                    generalize vs 190 = v190
                    generalize vs 191 = v191
                    clear vs
                    go_wp2_with fail
                    go_meet
                    exact ⟨rfl, hB'⟩
                  case rest =>
                    obtain ⟨rfl, hbc⟩ := hcut
                    clear d1 c1
                    go_wp2_with fail
                    go_roundg q2
                    case measure => omega
                    case rel => exact ⟨i + 1, by omega, by go_num, HS.out _ hbc⟩
end Go.Proofs.YtpdlapnliiengaaGreat.TextFlat
