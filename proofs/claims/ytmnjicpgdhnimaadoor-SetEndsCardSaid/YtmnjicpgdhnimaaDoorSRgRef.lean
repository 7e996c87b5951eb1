/-
  The reference's Ranges.
-/
import Derived.Test.YtmnjicpgdhnimaaDoorSRgM
import Derived.Test.YtmnjicpgdhnimaaDoorSBytes
import Derived.Deep.RegionLaw
import Derived.BigQuiet
import Derived.Deep.QuietTactic
namespace Go.Proofs.YtmnjicpgdhnimaaDoor
open Go.RowKit

theorem below_drewN {B : Nat} {w w' : World} (h : Below B w w') (n : Nat) : Below B w (w'.drewN n) := ⟨h.os, h.tape, h.output, h.size, h.block⟩

set_option maxRecDepth 100000 in
set_option maxHeartbeats 4000000 in
theorem refRanges_any (H : Nat → Bool) (w : World) :
    Calls Tryd.prog 36 #[sv H] w fun e w' => ∃ v, e = .returned v ∧ w'.ownsRow w.heap.size 45 2 v (rl (bl H 256)).length (rgc (rl (bl H 256))) ∧ Below w.heap.size w w' := by
  obtain ⟨i0, hi, hq0, hq1, hq2⟩ := info_parts info_pair
  have hb0 := hide ((Below.refl w.heap.size w).alloc (Nat.le_refl _) (.cells (st H) 24))
  have h1 := SBox.new w w.heap.size H rfl
  have c0 := h1.cell 0 (by omega)
  have c1 := h1.cell 1 (by omega)
  have c2 := h1.cell 2 (by omega)
  have c3 := h1.cell 3 (by omega)
  clear h1
  unfold sv
  go_enter Tryd.func36, Tryd.ntmps36
  go_wp2_with fail
  refine (refBytes_any H _).mono ?_
  rintro e w1 ⟨v, rfl, hl0, hb1⟩
  obtain ⟨AL, CL, rfl⟩ := owns_slice hl0
  have hlen : (bl H 256).length ≤ 256 := bl_length_le H 256
  have hlt : ∀ b ∈ bl H 256, b < 256 := fun b hb => (mem_bl.1 hb).1
  obtain ⟨L, hL⟩ : ∃ L, bl H 256 = L := ⟨_, rfl⟩
  rw [hL] at hl0 hlen hlt ⊢
  obtain ⟨n, hn⟩ : ∃ n, L.length = n := ⟨_, rfl⟩
  rw [hn] at hl0 hlen ⊢
  have HB1 := hide (hb0.out.trans (hb1.mono (by simp)))
  have HL0 := hide (owns_lower hl0 (show w.heap.size ≤ _ by simp))
  have HLT := hide hlt
  have HN := hide hn
  have HEQ := hide hL
  clear c0 c1 c2 c3 hl0 hb1 hL hlt hn
  go_wp2_with fail
  go_loopg [3, 5] n (fun q s3 s5 wr => ∃ (k : Nat) (A : Option Addr) (C : Nat), k + q = n ∧ s5 = .int .i64 k ∧ s3 = .slice A (rl (L.take k)).length C ∧ wr.ownsRow w.heap.size 45 2 (.slice A (rl (L.take k)).length C) (rl (L.take k)).length (rgc (rl (L.take k))) ∧ wr.ownsRow w.heap.size 5 1 (.slice AL n CL) n (lc L) ∧ Below w.heap.size w wr)
  case atStart => exact ⟨0, none, 0, by omega, rfl, rfl, ⟨rfl, .inl ⟨rfl, rfl⟩⟩, HL0.out, HB1.out⟩
  case round =>
    obtain ⟨k, A, C, hkq, rfl, rfl, hown, hol, hbr⟩ := hrel
    have HO := hide hown
    have HL := hide hol
    have HB := hide hbr
    have hsz := hbr.size
    clear hown hol hbr
    cases gk with
    | zero =>
      obtain rfl : k = n := by omega
      go_wp2_with fail
      go_ret
      refine ⟨.slice A (rl (L.take k)).length C, rfl, ?_, HB.out⟩
      have e : L.take k = L := by rw [← HN.out]; exact List.take_length
      have h := HO.out
      rw [HEQ.out]
      rw [e] at h ⊢
      exact h
    | succ q =>
      have hkn : k < n := by omega
      have hk1 : (k : Int) < (n : Int) := by omega
      have hk0 : (0 : Int) ≤ (k : Int) := by omega
      obtain ⟨x, hx⟩ : ∃ x, L.getD k 0 = x := ⟨_, rfl⟩
      have hxl : x < 256 := by rw [← hx]; exact HLT.out _ (by rw [List.getD_eq_getElem?_getD, List.getElem?_eq_getElem (by rw [HN.out]; exact hkn)]; exact List.getElem_mem _)
      have htk : L.take (k + 1) = L.take k ++ [x] := by
        rw [List.take_add_one, List.getElem?_eq_getElem (by rw [HN.out]; exact hkn), ← hx, List.getD_eq_getElem?_getD, List.getElem?_eq_getElem (by rw [HN.out]; exact hkn)]; rfl
      have hsn := hide (show rl (L.take (k + 1)) = addR (rl (L.take k)) x by rw [htk, rl_snoc])
      have hRl : (rl (L.take k)).length ≤ 256 := by have h1 := rl_length (L.take k); have h2 := List.length_take_le k L; omega
      have hRs := rl_small 256 (L.take k) (fun b hb => HLT.out b (List.mem_of_mem_take hb))
      obtain ⟨gl, CL', e, hcl, _, hnC, hCm⟩ := owns_cellS HL.out (show (lc L)[k]? = some (.int .u8 (x : Nat)) by rw [← hx]; exact lc_get L k (by rw [HN.out]; exact hkn))
      cases e
      obtain ⟨R, hR⟩ : ∃ R, rl (L.take k) = R := ⟨_, rfl⟩
      rw [hR] at HO hsn hRl hRs ⊢
      clear hx htk hR
      rcases List.eq_nil_or_concat R with rfl | ⟨R', ⟨lo, hb⟩, rfl⟩
      · clear hRs
        simp only [List.length_nil] at *
        go_wp2_with fail
        go_quiet (fail)
        have G := hide (show (wr.drewN nq).ownsRow w.heap.size 45 2 (.slice A 0 C) 0 (rgc []) ∧ (wr.drewN nq).ownsRow w.heap.size 5 1 (.slice (some ⟨gl, 0, none⟩) n CL) n (lc L) ∧ Below w.heap.size w (wr.drewN nq) from ⟨HO.out, HL.out, below_drewN HB.out nq⟩)
        have hcx : (wr.drewN nq).cell? ⟨gl, k, none⟩ = some (.int .u8 (x : Nat)) := hcl
        clear hcl HO HL HB
        revert G hcx
        generalize wr.drewN nq = wx
        intro G hcx
        have hnew : ∀ j u, [Value.int .u8 (x : Nat), .int .u8 (x : Nat)][j]? = some u → (wx.drew.alloc (.cells #[.int .u8 (x : Nat), .int .u8 (x : Nat)] 45)).cell? ((⟨wx.heap.size, 0, none⟩ : Addr).add j) = some u := cell_two_new wx.drew (.int .u8 (x : Nat)) (.int .u8 (x : Nat)) 45
        have hrA := owns_thruS (show wx.drew.ownsRow w.heap.size 45 2 (.slice A 0 C) 0 (rgc []) from G.out.1) (below_alloc wx.drew (.cells #[.int .u8 (x : Nat), .int .u8 (x : Nat)] 45))
        have hsy : w.heap.size ≤ wx.heap.size := G.out.2.2.size
        have hcA := fun o => cell_alloc_l (W := wx.drew) o hcx
        go_upto_region 9 with fail
        go_region_law (refine step_append_keepS _ (by rfl) (.tmp 44) (.tmp 54) 43 (by rfl) 45 i0 (.agg #[.int .u8 0, .int .u8 0]) 2 2 Tryd.underlying43 hi hq0 hq1 hq2 (by rfl) (by omega) w.heap.size (.slice A 0 C) 0 (rgc []) (by rfl) hrA ⟨wx.heap.size, 0, none⟩ 1 1 [.int .u8 (x : Nat), .int .u8 (x : Nat)] (by rfl) (by rfl) hnew (by simp [Value.oneCell']) (by unfold maxLen; omega) (by omega) (by simp; omega) ?_; intro A' C' w2 hown' hG' _)
        all_goals
          go_wp2_with fail
          go_roundg q
          case measure => omega
          case rel =>
            have hG2 : Grew (wx.drew.alloc (.cells #[.int .u8 (x : Nat), .int .u8 (x : Nat)] 45)) w2 (.slice A 0 C) (.slice A' (0 + 1) C') := hG'
            have hk := hG2.kept (F := fun y => (Value.slice A 0 C).ownBlock = some y) (fun _ h => h)
            have hkk := (Kept.of_below (F := fun y => (Value.slice A 0 C).ownBlock = some y) (below_alloc wx.drew (.cells #[.int .u8 (x : Nat), .int .u8 (x : Nat)] 45))).trans hk (fun _ _ h => h)
            have hll := owns_kept (show wx.drew.ownsRow w.heap.size 5 1 (.slice (some ⟨gl, 0, none⟩) n CL) n (lc L) from G.out.2.1) hkk (fun g hg hg' => by
              obtain ⟨_, _, c1, h1⟩ := owns_cells G.out.1 g hg'
              obtain ⟨_, _, c2, h2⟩ := owns_cells G.out.2.1 g hg
              rw [h1] at h2
              cases h2)
            refine ⟨k + 1, A', C', by omega, by go_num, by rw [hsn.out]; rw [addR_nil]; rfl, ?_, hll, G.out.2.2.drew.trans (hkk.below (fun y hy => (owns_cells G.out.1 y hy).2.1) hsy)⟩
            rw [hsn.out]; rw [addR_nil]; exact hown'
      · rw [List.concat_eq_append] at *
        obtain ⟨q2, hm2⟩ : ∃ q, (R' ++ [(lo, hb)]).length = q := ⟨_, rfl⟩
        have hq2' : q2 = R'.length + 1 := by rw [← hm2]; simp
        rw [hm2] at HO hRl ⊢
        have hhi := (hRs (lo, hb) (by simp)).2
        simp only at hhi
        obtain ⟨g, C2, e, hc2, hf2, hqC, hCm⟩ := owns_cellS HO.out (rgc_last R' lo hb)
        cases e
        have hsub : (q2 : Int) - 1 = (R'.length : Int) := by omega
        have hr0 : (0 : Int) ≤ (R'.length : Int) := by omega
        have hr1 : (R'.length : Int) < (q2 : Int) := by omega
        have hr2 : 0 < q2 := by omega
        have hr3 : decide (0 < q2) = true := by simp [hr2]
        have hb0' : (0 : Int) ≤ (hb : Int) := by omega
        have hb1' : (hb : Int) ≤ 255 := by omega
        have hw6 : IntKind.i64.wrap ((hb : Int) + 1) = (hb : Int) + 1 := IntWalk.i64_in _ (by omega)
        have hw7 : IntKind.i64.wrap ((q2 : Int) - 1) = (R'.length : Int) := by rw [hsub]; exact IntWalk.i64_in _ (by omega)
        have HQ := hide (And.intro hm2 hq2')
        clear hRs hm2 hq2'
        by_cases hh : hb + 1 = x
        · have hd : (((hb : Nat) : Int) + 1 == ((x : Nat) : Int)) = true := by simp; omega
          go_wp2_with fail
          go_quiet (fail)
          have hm2 := HQ.out.1
          have G := hide (show (wr.drewN nq).ownsRow w.heap.size 45 2 (.slice (some ⟨g, 0, none⟩) q2 C) q2 (rgc (R' ++ [(lo, hb)])) ∧ (wr.drewN nq).ownsRow w.heap.size 5 1 (.slice (some ⟨gl, 0, none⟩) n CL) n (lc L) ∧ Below w.heap.size w (wr.drewN nq) from ⟨HO.out, HL.out, below_drewN HB.out nq⟩)
          have hcx : (wr.drewN nq).cell? ⟨gl, k, none⟩ = some (.int .u8 (x : Nat)) := hcl
          have hcy : (wr.drewN nq).cell? ⟨g, R'.length * 2 + 1, none⟩ = some (.int .u8 (hb : Nat)) := hc2
          have hfy : (wr.drewN nq).frozen? ⟨g, R'.length * 2 + 1, none⟩ = false := hf2
          clear hcl HO HL HB hc2 hf2
          revert G hcx hcy hfy
          generalize wr.drewN nq = wx
          intro G hcx hcy hfy
          go_wp2_with fail
          go_region
          all_goals
            go_wp2_with fail
            go_roundg q
            case measure => omega
            case rel =>
              have hs := owns_setS (i := R'.length * 2 + 1) (show wx.drew.ownsRow w.heap.size 45 2 (.slice (some ⟨g, 0, none⟩) q2 C) q2 (rgc (R' ++ [(lo, hb)])) from G.out.1) rfl (.int .u8 (x : Nat))
              rw [rgc_set] at hs
              have hk1 : Kept (fun k => k = g) wx.drew (wx.drew.setCell ⟨g, R'.length * 2 + 1, none⟩ (.int .u8 (x : Nat))) := (Kept.refl (fun k => k = g) wx.drew).setCell (p := ⟨g, R'.length * 2 + 1, none⟩) (.inl rfl) _
              have hll := owns_kept (show wx.drew.ownsRow w.heap.size 5 1 (.slice (some ⟨gl, 0, none⟩) n CL) n (lc L) from G.out.2.1) hk1 (fun g1 hg hg' => by
                subst hg'
                obtain ⟨_, _, c1, h1⟩ := owns_cells G.out.1 g1 rfl
                obtain ⟨_, _, c2, h2⟩ := owns_cells G.out.2.1 g1 hg
                rw [h1] at h2
                cases h2)
              refine ⟨k + 1, some ⟨g, 0, none⟩, C, by omega, by go_num, by rw [hsn.out, addR_yes _ _ _ _ hh, List.length_append, ← hm2, List.length_append]; rfl, ?_, hll, G.out.2.2.drew.trans (hk1.below (fun y hy => by subst hy; exact (owns_cells G.out.1 y rfl).2.1) G.out.2.2.size)⟩
              rw [hsn.out, addR_yes _ _ _ _ hh]
              rw [show (R' ++ [(lo, x)]).length = q2 by rw [← hm2]; simp]
              exact hs
        · have hd : (((hb : Nat) : Int) + 1 == ((x : Nat) : Int)) = false := by simp; omega
          go_wp2_with fail
          go_quiet (fail)
          have hm2 := HQ.out.1
          have G := hide (show (wr.drewN nq).ownsRow w.heap.size 45 2 (.slice (some ⟨g, 0, none⟩) q2 C) q2 (rgc (R' ++ [(lo, hb)])) ∧ (wr.drewN nq).ownsRow w.heap.size 5 1 (.slice (some ⟨gl, 0, none⟩) n CL) n (lc L) ∧ Below w.heap.size w (wr.drewN nq) from ⟨HO.out, HL.out, below_drewN HB.out nq⟩)
          have hcx : (wr.drewN nq).cell? ⟨gl, k, none⟩ = some (.int .u8 (x : Nat)) := hcl
          clear hcl HO HL HB
          revert G hcx
          generalize wr.drewN nq = wx
          intro G hcx
          have hnew : ∀ j u, [Value.int .u8 (x : Nat), .int .u8 (x : Nat)][j]? = some u → (wx.drew.alloc (.cells #[.int .u8 (x : Nat), .int .u8 (x : Nat)] 45)).cell? ((⟨wx.heap.size, 0, none⟩ : Addr).add j) = some u := cell_two_new wx.drew (.int .u8 (x : Nat)) (.int .u8 (x : Nat)) 45
          have hrA := owns_thruS (show wx.drew.ownsRow w.heap.size 45 2 (.slice (some ⟨g, 0, none⟩) q2 C) q2 (rgc (R' ++ [(lo, hb)])) from G.out.1) (below_alloc wx.drew (.cells #[.int .u8 (x : Nat), .int .u8 (x : Nat)] 45))
          have hsy : w.heap.size ≤ wx.heap.size := G.out.2.2.size
          have hcA := fun o => cell_alloc_l (W := wx.drew) o hcx
          go_upto_region 9 with fail
          go_region_law (refine step_append_keepS _ (by rfl) (.tmp 44) (.tmp 54) 43 (by rfl) 45 i0 (.agg #[.int .u8 0, .int .u8 0]) 2 2 Tryd.underlying43 hi hq0 hq1 hq2 (by rfl) (by omega) w.heap.size (.slice (some ⟨g, 0, none⟩) q2 C) q2 (rgc (R' ++ [(lo, hb)])) (by rfl) hrA ⟨wx.heap.size, 0, none⟩ 1 1 [.int .u8 (x : Nat), .int .u8 (x : Nat)] (by rfl) (by rfl) hnew (by simp [Value.oneCell']) (by unfold maxLen; omega) (by omega) (by simp; omega) ?_; intro A' C' w2 hown' hG' _)
          all_goals
            go_wp2_with fail
            go_roundg q
            case measure => omega
            case rel =>
              have hG2 : Grew (wx.drew.alloc (.cells #[.int .u8 (x : Nat), .int .u8 (x : Nat)] 45)) w2 (.slice (some ⟨g, 0, none⟩) q2 C) (.slice A' (q2 + 1) C') := hG'
              have hk := hG2.kept (F := fun y => (Value.slice (some ⟨g, 0, none⟩) q2 C).ownBlock = some y) (fun _ h => h)
              have hkk := (Kept.of_below (F := fun y => (Value.slice (some ⟨g, 0, none⟩) q2 C).ownBlock = some y) (below_alloc wx.drew (.cells #[.int .u8 (x : Nat), .int .u8 (x : Nat)] 45))).trans hk (fun _ _ h => h)
              have hll := owns_kept (show wx.drew.ownsRow w.heap.size 5 1 (.slice (some ⟨gl, 0, none⟩) n CL) n (lc L) from G.out.2.1) hkk (fun g hg hg' => by
                obtain ⟨_, _, c1, h1⟩ := owns_cells G.out.1 g hg'
                obtain ⟨_, _, c2, h2⟩ := owns_cells G.out.2.1 g hg
                rw [h1] at h2
                cases h2)
              refine ⟨k + 1, A', C', by omega, by go_num, by rw [hsn.out]; rw [addR_no _ _ _ _ hh, List.length_append, hm2]; rfl, ?_, hll, G.out.2.2.drew.trans (hkk.below (fun y hy => (owns_cells G.out.1 y hy).2.1) hsy)⟩
              rw [hsn.out]; rw [addR_no _ _ _ _ hh, rgc_append, List.length_append, hm2]; exact hown'
end Go.Proofs.YtmnjicpgdhnimaaDoor
