/-
  Lists of numbers that lie apart: flatInts says so (out of flatBytes's text, by program).
-/
import Derived.Test.YtppdbinppibjhaaGreatDoorFlatMs
import Derived.Test.YtppdbinppibjhaaGreatDoorFlatNil
import Derived.Test.YtppdbinppibjhaaGreatDoorFGet
import Derived.Test.YtppdbinppibjhaaGreatDoorPrt
import Derived.Test.YtppdbinppibjhaaGreatDoorFlatShardRef
import Derived.Test.YtppdbinppibjhaaGreatDoorFlatManifest
import Derived.Outline
import Derived.Deep.CutBlock
import Derived.Deep.DeepCutAuto
import Derived.Deep.LoopGhost
import Derived.Deep.DeepMust
import Derived.BigQuiet
import Derived.Deep.QuietTactic
import Derived.Deep.RegionHeld3
import Derived.Laws.MakeOwn
import Derived.Deep.OwnRows
set_option maxHeartbeats 4000000
set_option maxRecDepth 100000
set_option linter.unusedVariables false
set_option linter.unusedSimpArgs false
namespace Go.Proofs.YtppdbinppibjhaaGreatDoor.IntsFlat
open Go.RowKit
def markV (k i : Nat) : Nat := 1000003 * (k + 7) + i
theorem markC (k i : Nat) (w : World) (hk : k ≤ 1000000) (hi : i ≤ 281474976710656) :
  Calls Tryz.prog 105 #[.int .i64 k, .int .i64 i] w fun e w' => e = .returned (.int .i64 (markV k i : Nat)) ∧ w = w' := by
 have e : (1000003 : Int) * ((k : Int) + 7) + (i : Int) = ((markV k i : Nat) : Int) := by simp [markV]
 have h1 : markV k i ≤ 9223372036854775807 := by unfold markV; omega
 go_enter Tryz.func105, Tryz.ntmps105
 go_wp2
 go_ret
 exact ⟨ret_int e, rfl⟩
theorem info_e : (Tryz.prog.info? 3).map (fun i => (i.zero, i.size, i.bytes)) = some (some (.int .i64 0), 1, 8) := by kernel_rfl
def mk (k m : Nat) : List Value := (List.range m).map fun i => .int .i64 (markV k i : Nat)
theorem mk_length (k m : Nat) : (mk k m).length = m := by simp [mk]
theorem mk_succ (k m : Nat) : mk k (m + 1) = mk k m ++ [.int .i64 (markV k m : Nat)] := by simp [mk, List.range_succ]
theorem mk_get (k m i : Nat) (h : i < m) : (mk k m)[i]? = some (.int .i64 (markV k i : Nat)) := by simp [mk, h]
theorem mk_one (k m : Nat) : ∀ u ∈ mk k m, u.oneCell' = true := by
 intro u hu
 simp only [mk, List.mem_map] at hu
 obtain ⟨i, _, rfl⟩ := hu
 rfl
def St (n : Nat) (A : Nat → Option Addr) (l C : Nat → Nat) (X : Nat → List Value) (w wx : World) : Prop := Kept (FF n A l C) w wx ∧ ∀ r, r < n → wx.ownsRow 0 3 1 (fv A l C r) (l r) (X r)
section
variable {n b : Nat} {A : Nat → Option Addr} {l C : Nat → Nat} {X Y : Nat → List Value} {w wx : World}
theorem St.congr (h : St n A l C X w wx) (e : ∀ r, r < n → X r = Y r) : St n A l C Y w wx := ⟨h.1, fun r hr => by rw [← e r hr]; exact h.2 r hr⟩
theorem St.drewN (h : St n A l C X w wx) (m : Nat) : St n A l C X w (wx.drewN m) := ⟨h.1.drewN m, h.2⟩
theorem St.drew (h : St n A l C X w wx) : St n A l C X w wx.drew := ⟨h.1.drew, h.2⟩
theorem St.row (h : St n A l C X w wx) (ha : Apt n b A l C) {off r : Nat} (hc : w.cell? ⟨b, off + r, none⟩ = some (fv A l C r)) : wx.cell? ⟨b, off + r, none⟩ = some (fv A l C r) := h.1.cell hc (FF.not_b ha)
theorem St.set (h : St n A l C X w wx) (ha : Apt n b A l C) {k i g : Nat} {u : Value} (hk : k < n) (hg : (fv A l C k).ownBlock = some g) : St n A l C (fun r => if r = k then (X k).set i u else X r) w (wx.setCell ⟨g, i, none⟩ u) := by
 refine ⟨h.1.setCell (.inl ⟨k, hk, hg⟩) u, fun r hr => ?_⟩
 by_cases e : r = k
 ·subst e
  dsimp only
  rw [if_pos rfl]
  exact owns_set (h.2 r hr) hg u
 ·dsimp only
  rw [if_neg e]
  exact owns_other (h.2 r hr) (fun h2 => e (ha.dist r k g hr hk h2 hg)) u
end
theorem mk_set (k i : Nat) (L : List Value) (h : i < L.length) : (mk k i ++ L.drop i).set i (.int .i64 (markV k i : Nat)) = mk k (i + 1) ++ L.drop (i + 1) := by
 have hl := mk_length k i
 rw [List.set_append_right _ _ (by omega), hl, Nat.sub_self, mk_succ, List.append_assoc, List.drop_eq_getElem_cons h]
 rfl
def GS (n G : Nat) (A : Nat → Option Addr) (l C : Nat → Nat) (w : World) (m : Nat) (Y : Nat → List Value) (wx : World) : Prop :=
 ∃ cur : Array Value, wx.heap[G]? = some (.cells cur 49 (0, 0)) ∧ cur.size = n ∧ ∀ r, r < m → ∃ A' C', cur[r]? = some (.slice A' (l r + 64) C') ∧ wx.ownsRow 0 3 1 (.slice A' (l r + 64) C') (l r + 64) (Y r) ∧
   ∀ g, (Value.slice A' (l r + 64) C').ownBlock = some g → (fv A l C r).ownBlock = some g ∨ (w.heap.size ≤ g ∧ g ≠ G)
section
variable {n b G k m : Nat} {A : Nat → Option Addr} {l C : Nat → Nat} {X Y : Nat → List Value} {w wx wy : World}
theorem GS.kept {F : Nat → Prop} (h : GS n G A l C w m Y wx) (hk : Kept F wx wy) (hG : ¬ F G) (hd : ∀ r g, r < m → ((fv A l C r).ownBlock = some g ∨ (w.heap.size ≤ g ∧ g ≠ G ∧ g < wx.heap.size)) → ¬ F g) : GS n G A l C w m Y wy := by
 obtain ⟨cur, h1, h2, h3⟩ := h
 refine ⟨cur, hk.heap h1 hG, h2, fun r hr => ?_⟩
 obtain ⟨A', C', h4, h5, h6⟩ := h3 r hr
 refine ⟨A', C', h4, owns_kept h5 hk (fun g hg => ?_), h6⟩
 have hlt := (owns_cells h5 g hg).1
 rcases h6 g hg with h7 | h7
 ·exact hd r g hr (.inl h7)
 ·exact hd r g hr (.inr ⟨h7.1, h7.2, hlt⟩)
theorem GS.drewN (h : GS n G A l C w m Y wx) (j : Nat) : GS n G A l C w m Y (wx.drewN j) := h
theorem GS.put (h : GS n G A l C w k Y wx) (hkn : k < n) (hvG : ∀ r g, r < n → (fv A l C r).ownBlock = some g → g ≠ G) {A' : Option Addr} {C' : Nat} (hu : wx.ownsRow 0 3 1 (.slice A' (l k + 64) C') (l k + 64) (Y k))
  (ho : ∀ g, (Value.slice A' (l k + 64) C').ownBlock = some g → (fv A l C k).ownBlock = some g ∨ (w.heap.size ≤ g ∧ g ≠ G)) : GS n G A l C w (k + 1) Y (wx.setCell ⟨G, k, none⟩ (.slice A' (l k + 64) C')) := by
 obtain ⟨cur, h1, h2, h3⟩ := h
 have hne : ∀ r g, r < n → ((fv A l C r).ownBlock = some g ∨ (w.heap.size ≤ g ∧ g ≠ G)) → g ≠ G := fun r g hr h => h.elim (hvG r g hr) (fun h => h.2)
 refine ⟨_, heap_setCell_same _ G k cur _ _ h1, by rw [Array.size_setIfInBounds]; exact h2, fun r hr => ?_⟩
 by_cases e : r = k
 ·subst e
  refine ⟨A', C', by simp [h2, hkn], owns_other hu (fun e => hne r G hkn (ho G e) rfl) _, ho⟩
 ·obtain ⟨A2, C2, h4, h5, h6⟩ := h3 r (by omega)
  refine ⟨A2, C2, ?_, owns_other h5 (fun e2 => hne r G (by omega) (h6 G e2) rfl) _, h6⟩
  rw [Array.getElem?_setIfInBounds, if_neg (fun h => e h.symm)]
  exact h4
theorem GS.cell (h : GS n G A l C w m Y wx) (hkn : k < n) : ∃ u, wx.cell? ⟨G, k, none⟩ = some u ∧ wx.frozen? ⟨G, k, none⟩ = false := by
 obtain ⟨cur, h1, h2, h3⟩ := h
 refine ⟨cur[k]'(by omega), ?_, frozen_of_row _ _ _ _ _ h1⟩
 rw [cell_of_row _ _ _ _ _ _ h1]
 simp [show k < cur.size by omega]
theorem GS.get (h : GS n G A l C w m Y wx) {r : Nat} (hr : r < m) : ∃ A' C', wx.cell? ⟨G, r, none⟩ = some (.slice A' (l r + 64) C') ∧ wx.ownsRow 0 3 1 (.slice A' (l r + 64) C') (l r + 64) (Y r) := by
 obtain ⟨cur, h1, h2, h3⟩ := h
 obtain ⟨A', C', h4, h5, _⟩ := h3 r hr
 exact ⟨A', C', by rw [cell_of_row _ _ _ _ _ _ h1]; exact h4, h5⟩
theorem GS.less (h : GS n G A l C w m Y wx) : GS n G A l C w 0 X wx := by
 obtain ⟨cur, h1, h2, _⟩ := h
 exact ⟨cur, h1, h2, fun r hr => by omega⟩
theorem St.setG (h : St n A l C X w wx) (hG : w.heap.size ≤ G) (hvG : ∀ r g, r < n → (fv A l C r).ownBlock = some g → g ≠ G) (i : Nat) (u : Value) : St n A l C X w (wx.setCell ⟨G, i, none⟩ u) :=
 ⟨h.1.setCell (.inr hG) u, fun r hr => owns_other (h.2 r hr) (fun e => hvG r G hr e rfl) u⟩
theorem St.one {F : Nat → Prop} (h : St n A l C X w wx) (ha : Apt n b A l C) (hkn : k < n) (hk : Kept F wx wy) (hF : ∀ g, F g → (fv A l C k).ownBlock = some g ∨ wx.heap.size ≤ g) (hown : wy.ownsRow 0 3 1 (fv A l C k) (l k) (X k)) : St n A l C X w wy := by
 refine ⟨h.1.trans hk (fun j hj hf => ?_), fun r hr => ?_⟩
 ·rcases hF j hf with h1 | h1
  ·exact ⟨k, hkn, h1⟩
  ·have := h.1.size; omega
 ·by_cases e : r = k
  ·subst e; exact hown
  ·refine owns_kept (h.2 r hr) hk (fun g hg hf => ?_)
   rcases hF g hf with h1 | h1
   ·exact e (ha.dist r k g hr hkn hg h1)
   ·have := (owns_cells (h.2 r hr) g hg).1
    omega
theorem grow_step {wk wr wa w2 : World} {vk gv gv' : Value} {nk ng : Nat} {xs ys : List Value} (hvk : wr.ownsRow 0 3 1 vk nk xs) (hg : wr.ownsRow 0 3 1 gv ng ys) (hnk : nk ≤ ng) (hK : Kept (fun x => vk.ownBlock = some x) wk wr)
  (hgo : ∀ x, gv.ownBlock = some x → vk.ownBlock = some x ∨ wk.heap.size ≤ x) (hb : Below wr.heap.size wr wa) (hgr : Grew wa w2 gv gv') (hold : w2.ownsRow 0 3 1 gv ng ys) :
  Kept (fun x => vk.ownBlock = some x) wk w2 ∧ w2.ownsRow 0 3 1 vk nk xs ∧ (∀ x, gv'.ownBlock = some x → vk.ownBlock = some x ∨ wk.heap.size ≤ x) := by
 have hKa : Kept (fun _ => False) wr wa := Kept.of_below hb
 have hKg := hgr.kept (F := fun x => gv.ownBlock = some x) (fun _ h => h)
 have hs1 := hK.size
 have hs2 := hb.size
 refine ⟨(hK.trans hKa (fun _ _ h => h.elim)).trans hKg (fun j hj h => ?_), ?_, fun x hx => ?_⟩
 ·rcases hgo j h with h | h
  ·exact h
  ·omega
 ·by_cases hx : ∃ x, gv.ownBlock = some x ∧ vk.ownBlock = some x
  ·obtain ⟨x, h1, h2⟩ := hx
   exact owns_prefix (owns_thru hvk hb) (owns_thru hg hb) h2 h1 hnk hold
  ·exact owns_kept (owns_thru hvk hb) hKg (fun g h1 h2 => hx ⟨g, h2, h1⟩)
 ·rcases hgr.foot (F := fun x => gv.ownBlock = some x) (fun _ h => h) x hx with h | h
  ·exact hgo x h
  ·exact .inr (by omega)
end
theorem info_sb : (Tryz.prog.info? 49).map (fun i => (i.zero, i.size, i.bytes)) = some (some (.slice none 0 0), 1, 24) := by kernel_rfl
theorem GS.made {n : Nat} {A : Nat → Option Addr} {l C : Nat → Nat} {Y : Nat → List Value} (w wx : World) : GS n wx.heap.size A l C w 0 Y (wx.alloc (.cells (madeCells #[.slice none 0 0] n) 49)) := by
 refine ⟨_, heap_alloc_new _ _, ?_, fun r hr => by omega⟩
 rw [← Array.length_toList, toList_madeCells_one, List.length_replicate]
theorem flat_any (b off n cap : Nat) (A : Nat → Option Addr) (l C : Nat → Nat) (X : Nat → List Value) (w : World) (hn : n ≤ 100000) (hl : ∀ r, r < n → l r ≤ 14000000000000) (ha : Apt n b A l C)
  (hc : ∀ r, r < n → w.cell? ⟨b, off + r, none⟩ = some (fv A l C r)) (ho : ∀ r, r < n → w.ownsRow 0 3 1 (fv A l C r) (l r) (X r)) :
  Calls Tryz.prog 86 #[.slice (some ⟨b, off, none⟩) n cap] w fun e w' => e = .returned (.bool true) ∧ St n A l C (fun r => mk r (l r)) w w' := by
 have HC := hide hc
 have HO := hide ho
 have HL := hide hl
 have HA := hide ha
 clear hc ho hl ha
 go_enter Tryz.func86, Tryz.ntmps86
 go_upto_block 0 with fail
 go_cut [] (fun wx => St n A l C (fun r => mk r (l r)) w wx)
 case first =>
  go_wp2_with fail
  go_loopg [3] n (fun q s3 wr => ∃ k : Nat, k + q = n ∧ s3 = .int .i64 (k : Nat) ∧ St n A l C (fun r => if r < k then mk r (l r) else X r) w wr)
  case atStart => exact ⟨0, by omega, rfl, ⟨Kept.refl _ _, fun r hr => by simpa using HO.out r hr⟩⟩
  case round =>
   obtain ⟨k, hkq, rfl, hst⟩ := hrel
   have hk0 : (0 : Int) ≤ (k : Int) := by omega
   cases gk with
   | zero =>
     obtain rfl : k = n := by omega
     have hkz : ¬ ((k : Int) < (k : Int)) := by omega
     have HS := hide (hst.congr (Y := fun r => mk r (l r)) (fun r hr => if_pos hr))
     clear hst
     go_wp2_with fail
     go_meet
     exact HS.out
   | succ q =>
     have hkz : (k : Int) < (n : Int) := by omega
     have hkn : k < n := by omega
     obtain ⟨wo, rfl⟩ : ∃ wo : World, wo = wr := ⟨_, rfl⟩
     have hst0 : St n A l C (fun r => if r = k then mk k 0 ++ (X k).drop 0 else if r < k then mk r (l r) else X r) w wo := hst.congr (fun r hr => by
      by_cases e : r = k
      ·subst e; simp [mk]
      ·rw [if_neg e])
     have hlk := HL.out k hkn
     have hXl : (X k).length = l k := by have := (HO.out k hkn).1; omega
     have HX := hide hXl
     clear hst hXl
     have hrow := hst0.row HA.out (HC.out k hkn)
     unfold fv at hrow
     go_wp2_with fail
     go_loopg [4] (l k) (fun q s4 wr => ∃ i : Nat, i + q = l k ∧ s4 = .int .i64 (i : Nat) ∧ St n A l C (fun r => if r = k then mk k i ++ (X k).drop i else if r < k then mk r (l r) else X r) w wr)
     case atStart => exact ⟨0, by omega, rfl, hst0⟩
     case round =>
      obtain ⟨i, hiq, rfl, hst⟩ := hrel
      clear hst0 hrow
      have hi0 : (0 : Int) ≤ (i : Int) := by omega
      have c1 := hst.row HA.out (HC.out k hkn)
      have hown := hst.2 k hkn
      simp only [if_true] at hown
      unfold fv at c1 hown
      cases gk with
      | zero =>
        have hil : i = l k := by omega
        have hiz : ¬ ((i : Int) < (l k : Int)) := by omega
        have HS : Hid (St n A l C (fun r => if r < k + 1 then mk r (l r) else X r) w wr) := hst.congr (fun r hr => by
         by_cases e : r = k
         ·subst e
          rw [if_pos rfl, if_pos (by omega), hil, List.drop_eq_nil_iff.2 (by rw [HX.out]; exact Nat.le_refl _), List.append_nil]
         ·rw [if_neg e]
          by_cases e2 : r < k
          ·rw [if_pos e2, if_pos (by omega)]
          ·rw [if_neg e2, if_neg (by omega)])
        clear hst hown hil
        go_wp2_with fail
        go_roundg q
        case measure => omega
        case rel => exact ⟨k + 1, by omega, by go_num, HS.out⟩
      | succ q2 =>
        have hiz : (i : Int) < (l k : Int) := by omega
        have hil : i < (mk k i ++ (X k).drop i).length := by rw [List.length_append, mk_length, List.length_drop, HX.out]; omega
        obtain ⟨g, C', hv, c3, f3, hlc, hcm⟩ := owns_cell hown (List.getElem?_eq_getElem hil)
        generalize (mk k i ++ (X k).drop i)[i] = u0 at c3
        have hgo : (fv A l C k).ownBlock = some g := by unfold fv; rw [hv]; rfl
        have hgb : g ≠ b := HA.out.nb k g hkn hgo
        have hset := hst.set HA.out (i := i) (u := .int .i64 (markV k i : Nat)) hkn hgo
        have HS : Hid (∀ m, St n A l C (fun r => if r = k then mk k (i + 1) ++ (X k).drop (i + 1) else if r < k then mk r (l r) else X r) w ((wr.setCell ⟨g, i, none⟩ (.int .i64 (markV k i : Nat))).drewN m)) := fun m => (hset.congr (fun r hr => by
         by_cases e : r = k
         ·simp only [if_pos e, if_true]
          exact mk_set k i (X k) (by rw [HX.out]; omega)
         ·simp only [if_neg e])).drewN m
        have c1' : (wr.setCell ⟨g, i, none⟩ (.int .i64 (markV k i : Nat))).cell? ⟨b, off + k, none⟩ = some (.slice (A k) (l k) (C k)) := by
         rw [World.cell?_setCell_other _ _ _ _ (by intro e; injection e with e1; first | exact hgb e1 | exact hgb e1.symm)]
         exact c1
        have hm := fun W : World => markC k i W (by omega) (by omega)
        injection hv with hAk _ _
        rw [hAk] at c1 c1'
        clear hst hown hset hil hAk
        go_upto_region 7 with fail
        go_region_held3 (fun w' => w'.cell? ⟨b, off + k, none⟩ = some (.slice (some ⟨g, 0, none⟩) (l k) (C k))) (first | exact c1 | exact c1') (first | (go_at_call 105; refine (hm _).mono ?_; rintro e w' ⟨rfl, rfl⟩))
        all_goals
         go_wp2_with fail
         go_roundg q2
         case measure => omega
         case rel => exact ⟨i + 1, by omega, by go_num, HS.out 1⟩
 case rest =>
  have hst1 := hcut
  have hsw : w.heap.size ≤ wc.heap.size := hst1.1.size
  have hvG : ∀ r g, r < n → (fv A l C r).ownBlock = some g → g ≠ wc.heap.size := fun r g hr hg => by
   have := (owns_cells (HO.out r hr) g hg).1
   omega
  have hbG : 0 < n → b ≠ wc.heap.size := fun h0 => by
   have := block_lt_of_cell (HC.out 0 h0)
   have h2 : b < w.heap.size := this
   omega
  have HVG := hide hvG
  have HBG := hide hbG
  have hmk := fun wx => run_make_row' (P := Tryz.prog) 83 49 (.slice none 0 0) 24 Tryz.underlying83 info_sb rfl .i64 .i64 n (by omega) (by omega) wx
  have HST1 := hide (hst1.1.alloc (.cells (madeCells #[.slice none 0 0] n) 49))
  have hst2 : St n A l C (fun r => mk r (l r)) w (wc.alloc (.cells (madeCells #[.slice none 0 0] n) 49)) := ⟨HST1.out, fun r hr => (hst1.2 r hr).alloc _⟩
  have hgs2 : GS n wc.heap.size A l C w 0 (fun r => mk r (l r + 64)) (wc.alloc (.cells (madeCells #[.slice none 0 0] n) 49)) := GS.made w wc
  have HS2 := hide hst2
  have HG2 := hide hgs2
  clear hst1 hcut HST1 hst2 hgs2 hvG hbG
  obtain ⟨i0, hi, hq0, hq1, hq2⟩ := info_parts info_e
  go_upto_block 4 with fail
  clear hmk
  generalize hG : wc.heap.size = G at *
  go_cut [] (fun wx => St n A l C (fun r => mk r (l r)) w wx ∧ GS n G A l C w n (fun r => mk r (l r + 64)) wx)
  case first =>
   have HGG := hide hG
   clear hG
   go_wp2_with fail
   go_loopg [6] n (fun q s6 wr => ∃ k : Nat, k + q = n ∧ s6 = .int .i64 (k : Nat) ∧ St n A l C (fun r => mk r (l r)) w wr ∧ GS n G A l C w k (fun r => mk r (l r + 64)) wr)
   case atStart => exact ⟨0, by omega, rfl, HS2.out, HG2.out⟩
   case round =>
    obtain ⟨k, hkq, rfl, hst, hgs⟩ := hrel
    have hk0 : (0 : Int) ≤ (k : Int) := by omega
    cases gk with
    | zero =>
      obtain rfl : k = n := by omega
      have hkz : ¬ ((k : Int) < (k : Int)) := by omega
      have HS := hide (And.intro hst hgs)
      clear hst hgs
      go_wp2_with fail
      go_meet
      exact HS.out
    | succ q =>
      have hkz : (k : Int) < (n : Int) := by omega
      have hkn : k < n := by omega
      obtain ⟨wo, rfl⟩ : ∃ wo : World, wo = wr := ⟨_, rfl⟩
      have hlk := HL.out k hkn
      have c1 := hst.row HA.out (HC.out k hkn)
      have HST := hide hst
      have HGS := hide hgs
      have hownk := hst.2 k hkn
      have hwo : w.heap.size ≤ wo.heap.size := hst.1.size
      clear hst hgs
      unfold fv at c1
      go_wp2_with fail
      go_loopg [7, 8] 64 (fun q s7 s8 wr => ∃ (i : Nat) (A' : Option Addr) (C' : Nat), i + q = 64 ∧ s8 = .int .i64 (i : Nat) ∧ s7 = .slice A' (l k + i) C' ∧ wr.ownsRow 0 3 1 (.slice A' (l k + i) C') (l k + i) (mk k (l k + i)) ∧
       (∀ x, (Value.slice A' (l k + i) C').ownBlock = some x → (fv A l C k).ownBlock = some x ∨ wo.heap.size ≤ x) ∧ Kept (fun x => (fv A l C k).ownBlock = some x) wo wr ∧ wr.ownsRow 0 3 1 (fv A l C k) (l k) (mk k (l k)))
      case atStart => exact ⟨0, A k, C k, by omega, rfl, rfl, hownk, fun x hx => .inl hx, Kept.refl _ _, hownk⟩
      case round =>
       obtain ⟨i, A', C', hiq, rfl, rfl, hog, hgo, hK, hvk⟩ := hrel
       have hi0 : (0 : Int) ≤ (i : Int) := by omega
       have hbk : ¬ (fv A l C k).ownBlock = some b := fun h => HA.out.nb k b hkn h rfl
       have c2 := hK.cell c1 hbk
       clear hownk
       cases gk with
       | zero =>
         obtain rfl : i = 64 := by omega
         have hiz : ¬ ((64 : Int) < (64 : Int)) := by omega
         have hGk : ¬ (fv A l C k).ownBlock = some G := fun h => HVG.out k G hkn h rfl
         have hgs3 := HGS.out.kept hK hGk (fun r g hr h hf => by
          rcases h with h | h
          ·have := HA.out.dist r k g (by omega) hkn h hf
           omega
          ·have := (owns_cells (HO.out k hkn) g hf).1
           omega)
         have hst3 := HST.out.one HA.out hkn hK (fun g hg => .inl hg) hvk
         obtain ⟨u, d1, d2⟩ := hgs3.cell hkn
         have HS : Hid (St n A l C (fun r => mk r (l r)) w (wr.setCell ⟨G, k, none⟩ (.slice A' (l k + 64) C')) ∧ GS n G A l C w (k + 1) (fun r => mk r (l r + 64)) (wr.setCell ⟨G, k, none⟩ (.slice A' (l k + 64) C'))) :=
          ⟨hst3.setG hsw HVG.out _ _, hgs3.put hkn HVG.out hog (fun g hg => by
           rcases hgo g hg with h | h
           ·exact .inl h
           ·refine .inr ⟨by omega, fun e => ?_⟩
            obtain ⟨cur, h1, _⟩ := HGS.out
            have := block_lt h1
            omega)⟩
         clear hgs3 hst3 hog hgo hK hvk
         go_wp2_with fail
         go_roundg q
         case measure => omega
         case rel => exact ⟨k + 1, by omega, by go_num, HS.out⟩
       | succ q2 =>
         have hiz : (i : Int) < (64 : Int) := by omega
         have hm := fun W : World => markC k (l k + i) W (by omega) (by omega)
         rw [Int.natCast_add] at hm
         have hogA := owns_thru hog (below_alloc wr (.cells #[.int .i64 (markV k (l k + i) : Nat)] 3))
         have hn1 := cell_one_new wr (.int .i64 (markV k (l k + i) : Nat)) 3
         have HGO := hide hgo
         have HOG := hide hog
         have HVK := hide hvk
         clear hog hgo hvk
         go_wp2_with (first
          | (go_at_call 105; refine (hm _).mono ?_; rintro e w' ⟨rfl, rfl⟩)
          | (at_builtin; go_must (refine wpList_append_keep _ rfl (.tmp 57) (.tmp 67) 49 rfl 3 i0 (.int .i64 0) 8 Tryz.underlying49 hi hq0 hq1 hq2 rfl 0 _ (l k + i) (mk k (l k + i)) rfl hogA ⟨wr.heap.size, 0, none⟩ 1 1 [.int .i64 (markV k (l k + i) : Nat)] rfl rfl hn1 (by simp [Value.oneCell']) (by unfold maxLen; omega) (by omega) (by omega) ?_); intro A3 C3 w3 hown3 hg3 hold3))
         obtain ⟨e1, e2, e3⟩ := grow_step HVK.out HOG.out (by omega) hK HGO.out (below_alloc wr _) hg3 hold3
         rw [← mk_succ] at hown3
         go_roundg q2
         case measure => omega
         case rel => exact ⟨i + 1, A3, C3, by omega, by go_num, rfl, hown3, e3, e1, e2⟩
  case rest =>
   obtain ⟨hstA, hgsA⟩ := hcut
   have HSA := hide hstA
   have HGA := hide hgsA
   clear hstA hgsA HS2 HG2 hG
   obtain ⟨wA, hwA⟩ : ∃ wA, wc = wA := ⟨_, rfl⟩
   go_upto_block 8 with fail
   go_cut [] (fun wx => St n A l C (fun r => mk r (l r)) w wx ∧ GS n G A l C w n (fun r => mk r (l r + 64)) wx)
   case first =>
    clear hwA
    go_wp2_with fail
    go_loopg [9] n (fun q s9 wr => ∃ k : Nat, k + q = n ∧ s9 = .int .i64 (k : Nat) ∧ St n A l C (fun r => mk r (l r)) w wr ∧ GS n G A l C w n (fun r => mk r (l r + 64)) wr)
    case atStart => exact ⟨0, by omega, rfl, HSA.out, HGA.out⟩
    case round =>
     obtain ⟨k, hkq, rfl, hst, hgs⟩ := hrel
     have hk0 : (0 : Int) ≤ (k : Int) := by omega
     cases gk with
     | zero =>
       obtain rfl : k = n := by omega
       have hkz : ¬ ((k : Int) < (k : Int)) := by omega
       have HS := hide (And.intro hst hgs)
       clear hst hgs
       go_wp2_with fail
       go_meet
       exact HS.out
     | succ q =>
       have hkz : (k : Int) < (n : Int) := by omega
       have hkn : k < n := by omega
       have hlk := HL.out k hkn
       have HSG := hide (And.intro hst hgs)
       clear hst hgs
       obtain ⟨wo, rfl⟩ : ∃ wo : World, wo = wr := ⟨_, rfl⟩
       go_wp2_with fail
       go_loopg [10] (l k + 64) (fun q s10 wr => ∃ i : Nat, i + q = l k + 64 ∧ s10 = .int .i64 (i : Nat) ∧ St n A l C (fun r => mk r (l r)) w wr ∧ GS n G A l C w n (fun r => mk r (l r + 64)) wr)
       case atStart => exact ⟨0, by omega, rfl, HSG.out⟩
       case round =>
        obtain ⟨i, hiq, rfl, hst, hgs⟩ := hrel
        have hi0 : (0 : Int) ≤ (i : Int) := by omega
        have c1 := hst.row HA.out (HC.out k hkn)
        have hownk := hst.2 k hkn
        obtain ⟨A', C', d1, hown⟩ := hgs.get hkn
        have HS : Hid (∀ m, St n A l C (fun r => mk r (l r)) w (wr.drewN m) ∧ GS n G A l C w n (fun r => mk r (l r + 64)) (wr.drewN m)) := fun m => ⟨hst.drewN m, hgs.drewN m⟩
        have HS0 := hide (And.intro hst hgs)
        unfold fv at c1 hownk
        clear hst hgs
        cases gk with
        | zero =>
          have hiz : ¬ ((i : Int) < (l k : Int) + 64) := by omega
          clear hown hownk
          go_wp2_with fail
          go_roundg q
          case measure => omega
          case rel => exact ⟨k + 1, by omega, by go_num, HS0.out⟩
        | succ q2 =>
          have hiz : (i : Int) < (l k : Int) + 64 := by omega
          obtain ⟨g, C2, hv, d3, _, hlc, hcm⟩ := owns_cell hown (mk_get k (l k + 64) i (by omega))
          injection hv with hA' _ _
          have hm := fun W : World => (markC k i W (by omega) (by omega)).mono (R' := fun e w' => e = .returned (.int .i64 (markV k i : Nat)) ∧ w' = W) fun _ _ ⟨he, hw⟩ => ⟨he, hw.symm⟩
          subst hA'
          clear hown
          by_cases hlt : i < l k
          ·obtain ⟨g2, C3, hv2, d4, _, hlc2, hcm2⟩ := owns_cell hownk (mk_get k (l k) i hlt)
           injection hv2 with hAk _ _
           rw [hAk] at c1
           have hi1 : (i : Int) < (l k : Int) := by omega
           have e1 : decide ((i : Int) < (l k : Int)) = true := decide_eq_true hi1
           have e2 : decide (i < l k) = true := decide_eq_true hlt
           clear hownk hAk
           go_upto_region 24 with fail
           go_cut [122] (fun s wx => s = .bool false ∧ ∃ m, wx = wr.drewN m)
           case first =>
            go_quiet ((go_at_call 105; exact Calls.quiet_of_same (hm _)))
            all_goals
             go_wp2_with fail
             go_meet
             exact ⟨rfl, _, rfl⟩
           case rest =>
            obtain ⟨rfl, m, rfl⟩ := hcut
            clear e1 e2
            go_wp2_with fail
            go_roundg q2
            case measure => omega
            case rel => exact ⟨i + 1, by omega, by go_num, HS.out m⟩
          ·have hi1 : ¬ ((i : Int) < (l k : Int)) := by omega
           have e1 : decide ((i : Int) < (l k : Int)) = false := decide_eq_false hi1
           have e2 : decide (i < l k) = false := decide_eq_false hlt
           clear hownk
           go_upto_region 24 with fail
           go_cut [122] (fun s wx => s = .bool false ∧ ∃ m, wx = wr.drewN m)
           case first =>
            go_quiet ((go_at_call 105; exact Calls.quiet_of_same (hm _)))
            all_goals
             go_wp2_with fail
             go_meet
             exact ⟨rfl, _, rfl⟩
           case rest =>
            obtain ⟨rfl, m, rfl⟩ := hcut
            clear e1 e2
            go_wp2_with fail
            go_roundg q2
            case measure => omega
            case rel => exact ⟨i + 1, by omega, by go_num, HS.out m⟩
   case rest =>
    obtain ⟨hstB, hgsB⟩ := hcut
    have HSB := hide hstB
    have hgsB0 : GS n G A l C w 0 (fun r => mk r (l r) ++ mk (r + n) 64) wc := hgsB.less
    have HGB := hide hgsB0
    clear hstB hgsB hgsB0 HSA HGA hwA
    have hmk64 := fun wx => run_make_row' (P := Tryz.prog) 49 3 (.int .i64 0) 8 Tryz.underlying49 info_e rfl .i64 .i64 64 (by omega) (by omega) wx
    have hmk2 : ∀ wx, (Instr.makeSlice 49 (.int .i64 64) (.int .i64 64)).run Tryz.prog wx = .ok (.slice (some ⟨wx.heap.size, 0, none⟩) 64 64) (wx.alloc (.cells (madeCells #[.int .i64 0] 64) 3)) := hmk64
    clear hmk64
    go_upto_block 12 with fail
    go_cut [] (fun wx => St n A l C (fun r => mk r (l r)) w wx ∧ GS n G A l C w n (fun r => mk r (l r) ++ mk (r + n) 64) wx)
    case first =>
     go_wp2_with fail
     go_loopg [11] n (fun q s11 wr => ∃ k : Nat, k + q = n ∧ s11 = .int .i64 (k : Nat) ∧ St n A l C (fun r => mk r (l r)) w wr ∧ GS n G A l C w k (fun r => mk r (l r) ++ mk (r + n) 64) wr)
     case atStart => exact ⟨0, by omega, rfl, HSB.out, HGB.out⟩
     case round =>
      obtain ⟨k, hkq, rfl, hst, hgs⟩ := hrel
      have hk0 : (0 : Int) ≤ (k : Int) := by omega
      cases gk with
      | zero =>
        obtain rfl : k = n := by omega
        have hkz : ¬ ((k : Int) < (k : Int)) := by omega
        have HS := hide (And.intro hst hgs)
        clear hst hgs
        go_wp2_with fail
        go_meet
        exact HS.out
      | succ q =>
        have hkz : (k : Int) < (n : Int) := by omega
        have hkn : k < n := by omega
        obtain ⟨wo, rfl⟩ : ∃ wo : World, wo = wr := ⟨_, rfl⟩
        have hlk := HL.out k hkn
        have c1 := hst.row HA.out (HC.out k hkn)
        have HST := hide hst
        have HGS := hide hgs
        have hownk := hst.2 k hkn
        have hwo : w.heap.size ≤ wo.heap.size := hst.1.size
        have hbA : Below wo.heap.size wo (wo.alloc (.cells (madeCells #[.int .i64 0] 64) 3)) := below_alloc wo _
        have hmany0 : (wo.alloc (.cells (madeCells #[.int .i64 0] 64) 3)).ownsRow 0 3 1 (.slice (some ⟨wo.heap.size, 0, none⟩) 64 64) 64 (mk (k + n) 0 ++ (List.replicate 64 (.int .i64 0)).drop 0) := by
         refine ⟨by simp [mk], .inr ⟨wo.heap.size, 64, _, rfl, Nat.zero_le _, heap_alloc_new _ _, Nat.le_refl _, by unfold maxLen; omega, ?_, ?_⟩⟩
         ·rw [← Array.length_toList, toList_madeCells_one, List.length_replicate]
         ·rw [toList_madeCells_one]; simp [mk]
        have HM0 := hide hmany0
        have HBA := hide hbA
        clear hst hgs hmany0 hbA
        unfold fv at c1
        go_wp2_with fail
        go_loopg [13] 64 (fun q s13 wr => ∃ i : Nat, i + q = 64 ∧ s13 = .int .i64 (i : Nat) ∧ wr.ownsRow 0 3 1 (.slice (some ⟨wo.heap.size, 0, none⟩) 64 64) 64 (mk (k + n) i ++ (List.replicate 64 (.int .i64 0)).drop i) ∧ Below wo.heap.size wo wr)
        case atStart => exact ⟨0, by omega, rfl, HM0.out, HBA.out⟩
        case round =>
         obtain ⟨i, hiq, rfl, hmany, hbl⟩ := hrel
         have hi0 : (0 : Int) ≤ (i : Int) := by omega
         cases gk with
         | zero =>
           obtain rfl : i = 64 := by omega
           have hiz : ¬ ((64 : Int) < (64 : Int)) := by omega
           rw [List.drop_eq_nil_iff.2 (by simp), List.append_nil] at hmany
           have hnews := hmany.cells (g := wo.heap.size) rfl
           have hone := mk_one (k + n) 64
           have hlen := mk_length (k + n) 64
           have hown2 := owns_thru hownk hbl
           have c2 := cell_thru c1 hbl
           have HBL := hide hbl
           have hGlt : G < wo.heap.size := by
            obtain ⟨cur, h1, _⟩ := HGS.out
            exact block_lt h1
           unfold fv at hown2
           generalize hnw : mk (k + n) 64 = news at hnews hone hlen
           have HN := hide hnw
           have hgB : GS n G A l C w k (fun r => mk r (l r) ++ mk (r + n) 64) wr := HGS.out.kept (Kept.of_below (F := fun _ => False) hbl) (fun h => h) (fun _ _ _ _ h => h)
           have hGk : ¬ (fv A l C k).ownBlock = some G := fun h => HVG.out k G hkn h rfl
           have hkG : ∀ w3, Kept (fun x => (fv A l C k).ownBlock = some x) wr w3 → GS n G A l C w k (fun r => mk r (l r) ++ mk (r + n) 64) w3 := fun w3 hK => hgB.kept hK hGk (fun r g hr h hf => by
            rcases h with h | h
            ·have := HA.out.dist r k g (by omega) hkn h hf
             omega
            ·have := (owns_cells (HO.out k hkn) g hf).1
             omega)
           have HKG := hide hkG
           have hcellG : ∀ w3, Kept (fun x => (fv A l C k).ownBlock = some x) wr w3 → ∃ u, w3.cell? ⟨G, k, none⟩ = some u ∧ w3.frozen? ⟨G, k, none⟩ = false := fun w3 hK => (HKG.out w3 hK).cell hkn
           have HCG := hide hcellG
           have hstB : St n A l C (fun r => mk r (l r)) w wr := ⟨HST.out.1.trans (Kept.of_below (F := fun _ => False) hbl) (fun _ _ h => h.elim), fun r hr => owns_thru (HST.out.2 r hr) hbl⟩
           have HSTB := hide hstB
           clear hmany hownk hbl hnw hgB hkG hcellG hstB hGk
           go_wp2_with (at_builtin; go_must (refine wpList_append_keep _ rfl (.tmp 148) (.tmp 149) 49 rfl 3 i0 (.int .i64 0) 8 Tryz.underlying49 hi hq0 hq1 hq2 rfl 0 _ (l k) (mk k (l k)) rfl hown2 ⟨wo.heap.size, 0, none⟩ 64 64 news rfl hlen hnews hone (by unfold maxLen; omega) (by omega) (by omega) ?_); intro A3 C3 w3 hown3 hg3 hold3; have hK3 := hg3.kept (F := fun x => (fv A l C k).ownBlock = some x) (fun _ h => h); obtain ⟨u3, d1, d2⟩ := HCG.out w3 hK3)
           rw [← HN.out] at hown3
           have hS3 := HSTB.out.one HA.out hkn hK3 (fun g hg => .inl hg) hold3
           have hG3 := (HKG.out w3 hK3).put hkn HVG.out hown3 (fun g hg => by
            rcases hg3.foot (F := fun x => (fv A l C k).ownBlock = some x) (fun _ h => h) g hg with h | h
            ·exact .inl h
            ·have := HBL.out.size
             exact .inr ⟨by omega, by omega⟩)
           have HS := hide (And.intro (hS3.setG hsw HVG.out k (.slice A3 (l k + 64) C3)) hG3)
           clear hS3 hG3 hown3 hold3
           go_roundg q
           case measure => omega
           case rel => exact ⟨k + 1, by omega, by go_num, HS.out⟩
         | succ q2 =>
           have hiz : (i : Int) < (64 : Int) := by omega
           have hil : i < (mk (k + n) i ++ (List.replicate 64 (Value.int .i64 0)).drop i).length := by rw [List.length_append, mk_length, List.length_drop, List.length_replicate]; omega
           obtain ⟨g, C', hv, c3, f3, _, _⟩ := owns_cell hmany (List.getElem?_eq_getElem hil)
           generalize (mk (k + n) i ++ (List.replicate 64 (Value.int .i64 0)).drop i)[i] = u0 at c3
           cases hv
           have hset := owns_set (i := i) hmany rfl (.int .i64 (markV (k + n) i : Nat))
           rw [mk_set (k + n) i _ (by rw [List.length_replicate]; omega)] at hset
           have HS := hide hset
           have HB : Hid (Below wo.heap.size wo (wr.setCell ⟨wo.heap.size, i, none⟩ (.int .i64 (markV (k + n) i : Nat)))) := hbl.setCell (Nat.le_refl _) _
           have hm := fun W : World => markC (k + n) i W (by omega) (by omega)
           rw [Int.natCast_add] at hm
           clear hmany hset hil hownk hbl
           go_wp2_with (go_at_call 105; refine (hm _).mono ?_; rintro e w' ⟨rfl, rfl⟩)
           go_roundg q2
           case measure => omega
           case rel => exact ⟨i + 1, by omega, by go_num, HS.out, HB.out⟩
    case rest =>
     obtain ⟨hstC, hgsC⟩ := hcut
     have HSC := hide hstC
     have HGC := hide hgsC
     clear hstC hgsC HSB HGB hmk2
     go_wp2_with fail
     go_loopg [14] n (fun q s14 wr => ∃ k : Nat, k + q = n ∧ s14 = .int .i64 (k : Nat) ∧ St n A l C (fun r => mk r (l r)) w wr ∧ GS n G A l C w n (fun r => mk r (l r) ++ mk (r + n) 64) wr)
     case atStart => exact ⟨0, by omega, rfl, HSC.out, HGC.out⟩
     case round =>
      obtain ⟨k, hkq, rfl, hst, hgs⟩ := hrel
      have hk0 : (0 : Int) ≤ (k : Int) := by omega
      cases gk with
      | zero =>
        obtain rfl : k = n := by omega
        have hkz : ¬ ((k : Int) < (k : Int)) := by omega
        have HS := hide hst
        clear hst hgs
        go_wp2_with fail
        go_ret
        exact ⟨rfl, HS.out⟩
      | succ q =>
        have hkz : (k : Int) < (n : Int) := by omega
        have hkn : k < n := by omega
        have hlk := HL.out k hkn
        have HSG := hide (And.intro hst hgs)
        have c0 := hst.row HA.out (HC.out k hkn)
        unfold fv at c0
        clear hst hgs
        obtain ⟨wo, rfl⟩ : ∃ wo : World, wo = wr := ⟨_, rfl⟩
        go_wp2_with fail
        go_loopg [15] (l k) (fun q s15 wr => ∃ i : Nat, i + q = l k ∧ s15 = .int .i64 (i : Nat) ∧ St n A l C (fun r => mk r (l r)) w wr ∧ GS n G A l C w n (fun r => mk r (l r) ++ mk (r + n) 64) wr)
        case atStart => exact ⟨0, by omega, rfl, HSG.out⟩
        case round =>
         obtain ⟨i, hiq, rfl, hst, hgs⟩ := hrel
         clear c0
         have hi0 : (0 : Int) ≤ (i : Int) := by omega
         have c1 := hst.row HA.out (HC.out k hkn)
         have hownk := hst.2 k hkn
         obtain ⟨A', C', d1, hown⟩ := hgs.get hkn
         have HS : Hid (∀ m, St n A l C (fun r => mk r (l r)) w (wr.drewN m) ∧ GS n G A l C w n (fun r => mk r (l r) ++ mk (r + n) 64) (wr.drewN m)) := fun m => ⟨hst.drewN m, hgs.drewN m⟩
         have HS0 := hide (And.intro hst hgs)
         unfold fv at c1 hownk
         clear hst hgs
         cases gk with
         | zero =>
           have hiz : ¬ ((i : Int) < (l k : Int)) := by omega
           clear hown hownk
           go_wp2_with fail
           go_roundg q
           case measure => omega
           case rel => exact ⟨k + 1, by omega, by go_num, HS0.out⟩
         | succ q2 =>
           have hiz : (i : Int) < (l k : Int) := by omega
           have hi64 : (i : Int) < (l k : Int) + 64 := by omega
           have hlt : i < l k := by omega
           have hgi : (mk k (l k) ++ mk (k + n) 64)[i]? = some (.int .i64 (markV k i : Nat)) := by rw [List.getElem?_append_left (by rw [mk_length]; exact hlt)]; exact mk_get k (l k) i hlt
           obtain ⟨g, C2, hv, d3, _, hlc, hcm⟩ := owns_cell hown hgi
           injection hv with hA' _ _
           have hm := fun W : World => (markC k i W (by omega) (by omega)).mono (R' := fun e w' => e = .returned (.int .i64 (markV k i : Nat)) ∧ w' = W) fun _ _ ⟨he, hw⟩ => ⟨he, hw.symm⟩
           subst hA'
           obtain ⟨g2, C3, hv2, d4, _, hlc2, hcm2⟩ := owns_cell hownk (mk_get k (l k) i hlt)
           injection hv2 with hAk _ _
           rw [hAk] at c1
           clear hown hownk hAk hgi hlt
           go_upto_region 41 with fail
           go_cut [192] (fun s wx => s = .bool false ∧ ∃ m, wx = wr.drewN m)
           case first =>
            go_quiet ((go_at_call 105; exact Calls.quiet_of_same (hm _)))
            all_goals
             go_wp2_with fail
             go_meet
             exact ⟨rfl, _, rfl⟩
           case rest =>
            obtain ⟨rfl, m, rfl⟩ := hcut
            go_wp2_with fail
            go_roundg q2
            case measure => omega
            case rel => exact ⟨i + 1, by omega, by go_num, HS.out m⟩
end Go.Proofs.YtppdbinppibjhaaGreatDoor.IntsFlat
/-
  A bag of lists: apart, by a contract for each kind; a list of bytes put into it.
-/
namespace Go.Proofs.YtppdbinppibjhaaGreatDoor
open Go.RowKit
def bagOf (vs : Nat → Value) : Array Value := #[vs 0, vs 1, vs 2, vs 3, vs 4, vs 5, vs 6, vs 7, vs 8, vs 9, vs 10, vs 11, vs 12, vs 13, vs 14, vs 15, vs 16, vs 17, vs 18, vs 19, vs 20]
def BagV (w : World) (p : Nat) (vs : Nat → Value) : Prop := w.heap[p]? = some (.cells (bagOf vs) 101 (0, 0))
theorem BagV.cell {w : World} {p : Nat} {vs : Nat → Value} (h : BagV w p vs) (i : Nat) : w.cell? ⟨p, i, none⟩ = (bagOf vs)[i]? := cell_of_row _ _ _ _ _ _ h
theorem BagV.below {w w' : World} {p : Nat} {vs : Nat → Value} (h : BagV w p vs) (hb : Below w.heap.size w w') : BagV w' p vs := (hb.block p (block_lt h)).trans h
theorem BagV.kept {F : Nat → Prop} {w w' : World} {p : Nat} {vs : Nat → Value} (h : BagV w p vs) (hk : Kept F w w') (hp : ¬ F p) : BagV w' p vs := hk.heap h hp
theorem bagApart_gen (p : Nat) (vs : Nat → Value) (I : Nat → World → Prop) (w : World) (h0 : I 0 w) (hI : ∀ j W, I j W → BagV W p vs)
  (f0 : ∀ W, I 0 W → Calls Tryz.prog 84 #[vs 0] W fun e w' => e = .returned (.bool true) ∧ I 1 w')
  (f1 : ∀ W, I 1 W → Calls Tryz.prog 85 #[vs 1] W fun e w' => e = .returned (.bool true) ∧ I 2 w')
  (f2 : ∀ W, I 2 W → Calls Tryz.prog 86 #[vs 2] W fun e w' => e = .returned (.bool true) ∧ I 3 w')
  (f3 : ∀ W, I 3 W → Calls Tryz.prog 87 #[vs 3] W fun e w' => e = .returned (.bool true) ∧ I 4 w')
  (f4 : ∀ W, I 4 W → Calls Tryz.prog 88 #[vs 4] W fun e w' => e = .returned (.bool true) ∧ I 5 w')
  (f5 : ∀ W, I 5 W → Calls Tryz.prog 89 #[vs 5] W fun e w' => e = .returned (.bool true) ∧ I 6 w')
  (f6 : ∀ W, I 6 W → Calls Tryz.prog 90 #[vs 6] W fun e w' => e = .returned (.bool true) ∧ I 7 w')
  (f7 : ∀ W, I 7 W → Calls Tryz.prog 91 #[vs 7] W fun e w' => e = .returned (.bool true) ∧ I 8 w')
  (f8 : ∀ W, I 8 W → Calls Tryz.prog 92 #[vs 8] W fun e w' => e = .returned (.bool true) ∧ I 9 w')
  (f9 : ∀ W, I 9 W → Calls Tryz.prog 93 #[vs 9] W fun e w' => e = .returned (.bool true) ∧ I 10 w')
  (f10 : ∀ W, I 10 W → Calls Tryz.prog 94 #[vs 10] W fun e w' => e = .returned (.bool true) ∧ I 11 w')
  (f11 : ∀ W, I 11 W → Calls Tryz.prog 95 #[vs 11] W fun e w' => e = .returned (.bool true) ∧ I 12 w')
  (f12 : ∀ W, I 12 W → Calls Tryz.prog 96 #[vs 12] W fun e w' => e = .returned (.bool true) ∧ I 13 w')
  (f13 : ∀ W, I 13 W → Calls Tryz.prog 97 #[vs 13] W fun e w' => e = .returned (.bool true) ∧ I 14 w')
  (f14 : ∀ W, I 14 W → Calls Tryz.prog 98 #[vs 14] W fun e w' => e = .returned (.bool true) ∧ I 15 w')
  (f15 : ∀ W, I 15 W → Calls Tryz.prog 99 #[vs 15] W fun e w' => e = .returned (.bool true) ∧ I 16 w')
  (f16 : ∀ W, I 16 W → Calls Tryz.prog 100 #[vs 16] W fun e w' => e = .returned (.bool true) ∧ I 17 w')
  (f17 : ∀ W, I 17 W → Calls Tryz.prog 101 #[vs 17] W fun e w' => e = .returned (.bool true) ∧ I 18 w')
  (f18 : ∀ W, I 18 W → Calls Tryz.prog 102 #[vs 18] W fun e w' => e = .returned (.bool true) ∧ I 19 w')
  (f19 : ∀ W, I 19 W → Calls Tryz.prog 103 #[vs 19] W fun e w' => e = .returned (.bool true) ∧ I 20 w')
  (f20 : ∀ W, I 20 W → Calls Tryz.prog 104 #[vs 20] W fun e w' => e = .returned (.bool true) ∧ I 21 w') :
  Calls Tryz.prog 50 #[.pointer (some ⟨p, 0, none⟩)] w fun e w' => e = .returned (.bool true) ∧ I 21 w' := by
 have c0 : w.cell? ⟨p, 0, none⟩ = some (vs 0) := (hI 0 w h0).cell 0
 have H0 := hide h0
 have HI := hide hI
 clear hI h0
 go_enter Tryz.func50, Tryz.ntmps50
 go_wp2_with fail
 refine (f0 _ H0.out).mono ?_
 rintro e w1 ⟨rfl, h1⟩
 have H1 := hide h1
 have c1 : w1.cell? ⟨p, 1, none⟩ = some (vs 1) := (HI.out 1 w1 h1).cell 1
 clear h1 c0 f0 H0
 go_wp2_with fail
 refine (f1 _ H1.out).mono ?_
 rintro e w2 ⟨rfl, h2⟩
 have H2 := hide h2
 have c2 : w2.cell? ⟨p, 2, none⟩ = some (vs 2) := (HI.out 2 w2 h2).cell 2
 clear h2 c1 f1 H1
 go_wp2_with fail
 refine (f2 _ H2.out).mono ?_
 rintro e w3 ⟨rfl, h3⟩
 have H3 := hide h3
 have c3 : w3.cell? ⟨p, 3, none⟩ = some (vs 3) := (HI.out 3 w3 h3).cell 3
 clear h3 c2 f2 H2
 go_wp2_with fail
 refine (f3 _ H3.out).mono ?_
 rintro e w4 ⟨rfl, h4⟩
 have H4 := hide h4
 have c4 : w4.cell? ⟨p, 4, none⟩ = some (vs 4) := (HI.out 4 w4 h4).cell 4
 clear h4 c3 f3 H3
 go_wp2_with fail
 refine (f4 _ H4.out).mono ?_
 rintro e w5 ⟨rfl, h5⟩
 have H5 := hide h5
 have c5 : w5.cell? ⟨p, 5, none⟩ = some (vs 5) := (HI.out 5 w5 h5).cell 5
 clear h5 c4 f4 H4
 go_wp2_with fail
 refine (f5 _ H5.out).mono ?_
 rintro e w6 ⟨rfl, h6⟩
 have H6 := hide h6
 have c6 : w6.cell? ⟨p, 6, none⟩ = some (vs 6) := (HI.out 6 w6 h6).cell 6
 clear h6 c5 f5 H5
 go_wp2_with fail
 refine (f6 _ H6.out).mono ?_
 rintro e w7 ⟨rfl, h7⟩
 have H7 := hide h7
 have c7 : w7.cell? ⟨p, 7, none⟩ = some (vs 7) := (HI.out 7 w7 h7).cell 7
 clear h7 c6 f6 H6
 go_wp2_with fail
 refine (f7 _ H7.out).mono ?_
 rintro e w8 ⟨rfl, h8⟩
 have H8 := hide h8
 have c8 : w8.cell? ⟨p, 8, none⟩ = some (vs 8) := (HI.out 8 w8 h8).cell 8
 clear h8 c7 f7 H7
 go_wp2_with fail
 refine (f8 _ H8.out).mono ?_
 rintro e w9 ⟨rfl, h9⟩
 have H9 := hide h9
 have c9 : w9.cell? ⟨p, 9, none⟩ = some (vs 9) := (HI.out 9 w9 h9).cell 9
 clear h9 c8 f8 H8
 go_wp2_with fail
 refine (f9 _ H9.out).mono ?_
 rintro e w10 ⟨rfl, h10⟩
 have H10 := hide h10
 have c10 : w10.cell? ⟨p, 10, none⟩ = some (vs 10) := (HI.out 10 w10 h10).cell 10
 clear h10 c9 f9 H9
 go_wp2_with fail
 refine (f10 _ H10.out).mono ?_
 rintro e w11 ⟨rfl, h11⟩
 have H11 := hide h11
 have c11 : w11.cell? ⟨p, 11, none⟩ = some (vs 11) := (HI.out 11 w11 h11).cell 11
 clear h11 c10 f10 H10
 go_wp2_with fail
 refine (f11 _ H11.out).mono ?_
 rintro e w12 ⟨rfl, h12⟩
 have H12 := hide h12
 have c12 : w12.cell? ⟨p, 12, none⟩ = some (vs 12) := (HI.out 12 w12 h12).cell 12
 clear h12 c11 f11 H11
 go_wp2_with fail
 refine (f12 _ H12.out).mono ?_
 rintro e w13 ⟨rfl, h13⟩
 have H13 := hide h13
 have c13 : w13.cell? ⟨p, 13, none⟩ = some (vs 13) := (HI.out 13 w13 h13).cell 13
 clear h13 c12 f12 H12
 go_wp2_with fail
 refine (f13 _ H13.out).mono ?_
 rintro e w14 ⟨rfl, h14⟩
 have H14 := hide h14
 have c14 : w14.cell? ⟨p, 14, none⟩ = some (vs 14) := (HI.out 14 w14 h14).cell 14
 clear h14 c13 f13 H13
 go_wp2_with fail
 refine (f14 _ H14.out).mono ?_
 rintro e w15 ⟨rfl, h15⟩
 have H15 := hide h15
 have c15 : w15.cell? ⟨p, 15, none⟩ = some (vs 15) := (HI.out 15 w15 h15).cell 15
 clear h15 c14 f14 H14
 go_wp2_with fail
 refine (f15 _ H15.out).mono ?_
 rintro e w16 ⟨rfl, h16⟩
 have H16 := hide h16
 have c16 : w16.cell? ⟨p, 16, none⟩ = some (vs 16) := (HI.out 16 w16 h16).cell 16
 clear h16 c15 f15 H15
 go_wp2_with fail
 refine (f16 _ H16.out).mono ?_
 rintro e w17 ⟨rfl, h17⟩
 have H17 := hide h17
 have c17 : w17.cell? ⟨p, 17, none⟩ = some (vs 17) := (HI.out 17 w17 h17).cell 17
 clear h17 c16 f16 H16
 go_wp2_with fail
 refine (f17 _ H17.out).mono ?_
 rintro e w18 ⟨rfl, h18⟩
 have H18 := hide h18
 have c18 : w18.cell? ⟨p, 18, none⟩ = some (vs 18) := (HI.out 18 w18 h18).cell 18
 clear h18 c17 f17 H17
 go_wp2_with fail
 refine (f18 _ H18.out).mono ?_
 rintro e w19 ⟨rfl, h19⟩
 have H19 := hide h19
 have c19 : w19.cell? ⟨p, 19, none⟩ = some (vs 19) := (HI.out 19 w19 h19).cell 19
 clear h19 c18 f18 H18
 go_wp2_with fail
 refine (f19 _ H19.out).mono ?_
 rintro e w20 ⟨rfl, h20⟩
 have H20 := hide h20
 have c20 : w20.cell? ⟨p, 20, none⟩ = some (vs 20) := (HI.out 20 w20 h20).cell 20
 clear h20 c19 f19 H19
 go_wp2_with fail
 refine (f20 _ H20.out).mono ?_
 rintro e w21 ⟨rfl, h21⟩
 have H21 := hide h21
 clear h21 c20 f20 H20
 go_wp2_with fail
 go_ret
 exact ⟨rfl, H21.out⟩
open Go.RowKit
def bty : Nat → TypeId
 | 0 => 192
 | 1 => 193
 | 2 => 49
 | 3 => 194
 | 4 => 195
 | 5 => 28
 | 6 => 197
 | 7 => 198
 | 8 => 206
 | 9 => 211
 | 10 => 217
 | 11 => 222
 | 12 => 226
 | 13 => 230
 | 14 => 22
 | 15 => 46
 | 16 => 236
 | 17 => 243
 | 18 => 247
 | 19 => 41
 | 20 => 254
 | _ => 0
theorem bty_ne : ∀ i, i < 21 → ∀ j, j < 21 → i ≠ j → bty i ≠ bty j := by decide
theorem bty_bag : ∀ i, i < 21 → 101 ≠ bty i := by decide
def addL (L : Nat → List Value) (j : Nat) (vs : List Value) (i : Nat) : List Value := if i = j then L i ++ vs else L i
theorem addL_at (L : Nat → List Value) (j : Nat) (vs : List Value) : addL L j vs j = L j ++ vs := if_pos rfl
theorem addL_ne (L : Nat → List Value) {i j : Nat} (vs : List Value) (h : i ≠ j) : addL L j vs i = L i := if_neg h
theorem addL_nil (L : Nat → List Value) (j : Nat) : addL L j [] = L := by
 funext i
 unfold addL
 split
 ·exact List.append_nil _
 ·rfl
theorem addL_add (L : Nat → List Value) (j : Nat) (us vs : List Value) : addL (addL L j us) j vs = addL L j (us ++ vs) := by
 funext i
 unfold addL
 by_cases h : i = j
 ·simp [h]
 ·simp [h]
def BG (W : World) (N p : Nat) (L : Nat → List Value) : Prop := ∃ (A : Nat → Option Addr) (C : Nat → Nat), BagV W p (fun i => .slice (A i) (L i).length (C i)) ∧
 (∀ i, i < 21 → W.ownsRow 0 (bty i) 1 (.slice (A i) (L i).length (C i)) (L i).length (L i) ∧ (∀ g, (Value.slice (A i) (L i).length (C i)).ownBlock = some g → N ≤ g) ∧ (L i = [] → A i = none ∧ C i = 0)) ∧ N ≤ p
theorem BG.below {W W' : World} {N p : Nat} {L : Nat → List Value} (h : BG W N p L) (hb : Below W.heap.size W W') : BG W' N p L := by
 obtain ⟨A, C, h1, h2, h3⟩ := h
 exact ⟨A, C, h1.below hb, fun i hi => ⟨owns_thru (h2 i hi).1 hb, (h2 i hi).2⟩, h3⟩
theorem BG.fresh (w : World) : BG (w.alloc (.cells (bagOf (fun _ => .slice none 0 0)) 101)) w.heap.size w.heap.size (fun _ => []) :=
 ⟨fun _ => none, fun _ => 0, heap_alloc_new _ _, fun i hi => ⟨World.ownsRow_nil _ _ _ _, (fun g h => by cases h), fun _ => ⟨rfl, rfl⟩⟩, Nat.le_refl _⟩
theorem BG.push {W W' : World} {N p j : Nat} {L : Nat → List Value} {A : Nat → Option Addr} {C : Nat → Nat} (v : Value) (hj : j < 21) (hb : BagV W p (fun i => .slice (A i) (L i).length (C i)))
  (hL : ∀ i, i < 21 → W.ownsRow 0 (bty i) 1 (.slice (A i) (L i).length (C i)) (L i).length (L i) ∧ (∀ g, (Value.slice (A i) (L i).length (C i)).ownBlock = some g → N ≤ g) ∧ (L i = [] → A i = none ∧ C i = 0)) (hNp : N ≤ p) (hN : N ≤ W.heap.size) {A6 : Option Addr} {C6 : Nat}
  (h1 : BagV W' p (fun i => if i = j then .slice A6 ((L j).length + 1) C6 else .slice (A i) (L i).length (C i))) (h2 : W'.ownsRow 0 (bty j) 1 (.slice A6 ((L j).length + 1) C6) ((L j).length + 1) (L j ++ [v]))
  (h3 : ∀ g, (Value.slice A6 ((L j).length + 1) C6).ownBlock = some g → (Value.slice (A j) (L j).length (C j)).ownBlock = some g ∨ W.heap.size ≤ g) (h4 : Kept (fun x => x = p ∨ (Value.slice (A j) (L j).length (C j)).ownBlock = some x) W W') :
  BG W' N p (addL L j [v]) ∧ Kept (fun k => N ≤ k) W W' := by
 refine ⟨⟨fun i => if i = j then A6 else A i, fun i => if i = j then C6 else C i, ?_, fun i hi => ?_, hNp⟩, h4.mono (fun k _ hh => ?_)⟩
 ·have e : (fun i => Value.slice (if i = j then A6 else A i) (addL L j [v] i).length (if i = j then C6 else C i)) = fun i => if i = j then .slice A6 ((L j).length + 1) C6 else .slice (A i) (L i).length (C i) := by
   funext i
   unfold addL
   by_cases h : i = j
   ·subst h; simp
   ·simp [h]
  rw [e]
  exact h1
 ·by_cases h : i = j
  ·subst h
   simp only [if_true, addL_at, List.length_append, List.length_singleton]
   refine ⟨h2, fun g hg => ?_, fun e => by simp at e⟩
   rcases h3 g hg with e | e
   ·exact (hL i hi).2.1 g e
   ·omega
  ·simp only [if_neg h, addL_ne L [v] h]
   refine ⟨owns_kept (hL i hi).1 h4 (fun g hg hh => ?_), (hL i hi).2⟩
   rcases hh with hh | hh
   ·subst hh; exact owns_tyne (hL i hi).1 hb (bty_bag i hi) hg
   ·exact owns_apart (hL i hi).1 (hL j hj).1 (bty_ne i hi j hj h) g hg hh
 ·rcases hh with hh | hh
  ·subst hh; exact hNp
  ·exact (hL j hj).2.1 k hh
theorem infoB_BytesL : (Tryz.prog.info? 28).map (fun i => (i.zero, i.size, i.bytes)) = some (some (.slice none 0 0), 1, 24) := by kernel_rfl
theorem nilB_Bytes (w : World) : Calls Tryz.prog 89 #[.slice none 0 0] w fun e w' => e = .returned (.bool true) ∧ Below w.heap.size w w' := by
 have hmk0 := fun wx => run_make_row' (P := Tryz.prog) 36 28 (.slice none 0 0) 24 Tryz.underlying36 infoB_BytesL rfl .i64 .i64 0 (by omega) (by omega) wx
 have hmk : ∀ wx, (Instr.makeSlice 36 (.int .i64 0) (.int .i64 0)).run Tryz.prog wx = .ok (.slice (some ⟨wx.heap.size, 0, none⟩) 0 0) (wx.alloc (.cells (madeCells #[.slice none 0 0] 0) 28)) := hmk0
 clear hmk0
 go_enter Tryz.func89, Tryz.ntmps89
 go_wp2_with fail
 iterate 5 (refine wp_loop_rounds 1 ?_; rw [rounds_succ]; go_wp2_with fail)
 go_ret
 exact ⟨rfl, below_alloc _ _⟩
theorem infoB_Ints : (Tryz.prog.info? 49).map (fun i => (i.zero, i.size, i.bytes)) = some (some (.slice none 0 0), 1, 24) := by kernel_rfl
theorem put_Ints (N p : Nat) (L : Nat → List Value) (a : Option Addr) (len cap : Nat) (w : World) (hk : (L 2).length ≤ 1000000) (hN : N ≤ w.heap.size) (h : BG w N p L) :
  Calls Tryz.prog 197 #[.pointer (some ⟨p, 0, none⟩), .slice a len cap] w fun e w' => e = .returned (.tuple #[]) ∧ BG w' N p (addL L 2 [.slice a len cap]) ∧ Kept (fun k => N ≤ k) w w' := by
 obtain ⟨i0, hi, hq0, hq1, hq2⟩ := info_parts infoB_Ints
 obtain ⟨A, C, hp, hL, hNp⟩ := h
 have ho : w.ownsRow 0 49 1 (.slice (A 2) (L 2).length (C 2)) (L 2).length (L 2) := (hL 2 (by omega)).1
 have hpl : p < w.heap.size := block_lt hp
 have c5 : w.cell? ⟨p, 2, none⟩ = some (.slice (A 2) (L 2).length (C 2)) := hp.cell 2
 have f5 : w.frozen? ⟨p, 2, none⟩ = false := frozen_of_row _ _ _ _ _ hp
 have hne : ∀ g, (Value.slice (A 2) (L 2).length (C 2)).ownBlock = some g → g ≠ p := fun g hg e => by subst e; exact owns_tyne ho hp (by decide) hg
 generalize hA5 : A 2 = A5 at *
 generalize hC5 : C 2 = C5 at *
 generalize hys : L 2 = ys at *
 generalize hkk : ys.length = k at *
 have k5 := cell_alloc_l (W := w) (.cells #[.slice a len cap] 49) c5
 have m5 := frozen_alloc_l (W := w) (.cells #[.slice a len cap] 49) c5 f5
 have hoA := owns_thru ho (below_alloc w (.cells #[.slice a len cap] 49))
 have hn1 := cell_one_new w (.slice a len cap) 49
 have HP := hide (And.intro hp (And.intro hL hNp))
 have HE := hide (And.intro hA5 (And.intro hC5 (And.intro hys hkk)))
 have HNE := hide hne
 clear hp ho hne hL hA5 hC5 hys hkk hNp
 go_enter Tryz.func197, Tryz.ntmps197
 go_wp2_with (at_builtin; go_must (refine wpList_append_foot _ rfl (.tmp 8) (.tmp 10) 83 rfl 49 i0 (.slice none 0 0) 24 Tryz.underlying83 hi hq0 hq1 hq2 rfl 0 _ k ys rfl hoA (some ⟨w.heap.size, 0, none⟩) 1 1 [.slice a len cap] rfl rfl (fun e => by cases e) (fun ad e => by cases e; exact hn1) (by simp [Value.oneCell']) (by unfold maxLen; omega) (by omega) (by omega) ?_); intro A6 C6 w1 hown1 hg1; have hc1 := (hg1.kept (F := fun x => x ≠ p) HNE.out).cell k5 (fun h => h rfl); have hf1 := (hg1.kept (F := fun x => x ≠ p) HNE.out).unfrozen k5 (fun h => h rfl) m5)
 obtain ⟨hp, hL, hNp⟩ := HP.out
 obtain ⟨hA5, hC5, hys, hkk⟩ := HE.out
 have hKa : Kept (fun _ => False) w (w.alloc (.cells #[.slice a len cap] 49)) := Kept.of_below (below_alloc w _)
 have hKg := hg1.kept (F := fun x => (Value.slice A5 k C5).ownBlock = some x) (fun _ h => h)
 have hKn := hg1.kept (F := fun x => x ≠ p) HNE.out
 have hfo := hg1.foot (F := fun x => (Value.slice A5 k C5).ownBlock = some x) (fun _ h => h)
 have hpb : BagV w1 p _ := (hp.kept hKa (fun h => h)).kept hKn (fun h => h rfl)
 have hnew : ∀ g, (Value.slice A6 (k + 1) C6).ownBlock = some g → g ≠ p ∧ ((Value.slice A5 k C5).ownBlock = some g ∨ w.heap.size ≤ g) := fun g hg => by
  rcases hfo g hg with h | h
  ·exact ⟨HNE.out g h, .inl h⟩
  ·have := hKa.size
   exact ⟨by omega, .inr (by omega)⟩
 go_end0
 have hb9 := heap_setCell_same w1 p 2 _ _ (.slice A6 (k + 1) C6) hpb
 have ho9 := owns_other (i := 2) hown1 (fun e => (hnew p e).1 rfl) (.slice A6 (k + 1) C6)
 have hk9 := ((hKa.mono (G := fun x => x = p ∨ (Value.slice A5 k C5).ownBlock = some x) (fun _ _ h => h.elim)).trans hKg (fun _ _ h => .inr h)).setCell (p := ⟨p, 2, none⟩) (.inl (.inl rfl)) (.slice A6 (k + 1) C6)
 have hn9 := fun g hg => (hnew g hg).2
 refine ⟨rfl, ?_⟩
 subst hkk hA5 hC5 hys
 exact BG.push (j := 2) (.slice a len cap) (by omega) hp hL hNp hN hb9 ho9 hn9 hk9
theorem infoB_ShardRefs : (Tryz.prog.info? 22).map (fun i => (i.zero, i.size, i.bytes)) = some (some (.slice none 0 0), 1, 24) := by kernel_rfl
theorem infoB_Manifests : (Tryz.prog.info? 46).map (fun i => (i.zero, i.size, i.bytes)) = some (some (.slice none 0 0), 1, 24) := by kernel_rfl
def lenOf : Value → Nat
 | .slice _ n _ => n
 | _ => 0
def adOf : Value → Option Addr
 | .slice a _ _ => a
 | _ => none
def cpOf : Value → Nat
 | .slice _ _ c => c
 | _ => 0
def RowsOf (e : TypeId) (sz : Nat) (W : World) (ys : List Value) : Prop :=
 (∀ y ∈ ys, ∃ xs, lenOf y ≤ 1000000 ∧ W.ownsRow 0 e sz y (lenOf y) xs) ∧ ys.Pairwise (fun x y => ∀ g, x.ownBlock = some g → y.ownBlock ≠ some g)
def ownOf (ys : List Value) (g : Nat) : Prop := ∃ y ∈ ys, y.ownBlock = some g
theorem RowsOf.kept {e : TypeId} {sz : Nat} {W W' : World} {ys : List Value} {F : Nat → Prop} (h : RowsOf e sz W ys) (hk : Kept F W W') (hF : ∀ g, ownOf ys g → ¬ F g) : RowsOf e sz W' ys :=
 ⟨fun y hy => by
  obtain ⟨xs, h1, h2⟩ := h.1 y hy
  exact ⟨xs, h1, owns_keptS h2 hk (fun g hg => hF g ⟨y, hy, hg⟩)⟩, h.2⟩
theorem RowsOf.nil (e : TypeId) (sz : Nat) (W : World) : RowsOf e sz W [] := ⟨fun y hy => by (cases hy), List.Pairwise.nil⟩
theorem RowsOf.slice {e : TypeId} {sz : Nat} {W : World} {ys : List Value} (h : RowsOf e sz W ys) {y : Value} (hy : y ∈ ys) : y = .slice (adOf y) (lenOf y) (cpOf y) := by
 obtain ⟨xs, _, h2⟩ := h.1 y hy
 obtain ⟨A, C, e⟩ := owns_slice h2
 rw [e]
 rfl
theorem flatL_Ints (A : Option Addr) (C : Nat) (ys : List Value) (W : World) (hn : ys.length ≤ 100000) (ho : W.ownsRow 0 49 1 (.slice A ys.length C) ys.length ys) (hr : RowsOf 3 1 W ys) :
  Calls Tryz.prog 86 #[.slice A ys.length C] W fun e w' => e = .returned (.bool true) ∧ Kept (ownOf ys) W w' := by
 have ho' := ho
 obtain ⟨_, ⟨hv, hz⟩ | ⟨g, cap, cur, hv, _⟩⟩ := ho'
 ·have hv' : Value.slice A ys.length C = .slice none 0 0 := hv
  rw [hv']
  exact (nil_Ints W).mono (fun e w' hh => ⟨hh.1, (Kept.of_below (F := fun _ => False) hh.2).mono (fun _ _ h => h.elim)⟩)
 ·cases hv
  have hcl := ho.cells (g := g) rfl
  have hget : ∀ r (h : r < ys.length), ys.getD r undef = ys[r] := fun r h => by simp [List.getD_eq_getElem?_getD, h]
  have hsl : ∀ r, r < ys.length → Value.slice (adOf (ys.getD r undef)) (lenOf (ys.getD r undef)) (cpOf (ys.getD r undef)) = ys.getD r undef := fun r h => by
   rw [hget r h]
   exact (hr.slice (List.getElem_mem h)).symm
  have hX : ∀ r, ∃ xs, r < ys.length → lenOf (ys.getD r undef) ≤ 1000000 ∧ W.ownsRow 0 3 1 (ys.getD r undef) (lenOf (ys.getD r undef)) xs := fun r => by
   by_cases h : r < ys.length
   ·obtain ⟨xs, h1, h2⟩ := hr.1 ys[r] (List.getElem_mem h)
    exact ⟨xs, fun _ => by rw [hget r h]; exact ⟨h1, h2⟩⟩
   ·exact ⟨[], fun hh => absurd hh h⟩
  obtain ⟨X, hX⟩ := Classical.axiomOfChoice hX
  have hap : Apt ys.length g (fun r => adOf (ys.getD r undef)) (fun r => lenOf (ys.getD r undef)) (fun r => cpOf (ys.getD r undef)) := by
   refine ⟨fun r s k h1 h2 e1 e2 => ?_, fun r k h1 e1 e2 => ?_⟩
   ·unfold fv at e1 e2
    rw [hsl r h1, hget r h1] at e1
    rw [hsl s h2, hget s h2] at e2
    by_cases e : r = s
    ·exact e
    ·exfalso
     rcases Nat.lt_or_gt_of_ne e with hh | hh
     ·exact List.pairwise_iff_getElem.1 hr.2 r s h1 h2 hh k e1 e2
     ·exact List.pairwise_iff_getElem.1 hr.2 s r h2 h1 hh k e2 e1
   ·subst e2
    unfold fv at e1
    rw [hsl r h1] at e1
    exact owns_apart ho (hX r h1).2 (by decide) k rfl e1
  refine (IntsFlat.flat_any g 0 ys.length C (fun r => adOf (ys.getD r undef)) (fun r => lenOf (ys.getD r undef)) (fun r => cpOf (ys.getD r undef)) X W hn (fun r hr' => by have := (hX r hr').1; omega) hap (fun r hr' => ?_) (fun r hr' => ?_)).mono ?_
  ·unfold fv
   rw [hsl r hr']
   have := hcl r (ys.getD r undef) (by rw [hget r hr']; exact List.getElem?_eq_getElem hr')
   rwa [add_none' _ rfl] at this
  ·unfold fv
   rw [hsl r hr']
   exact (hX r hr').2
  ·rintro e w' ⟨he, hst⟩
   refine ⟨he, hst.1.mono (fun k _ hk => ?_)⟩
   obtain ⟨r, hr', e⟩ := hk
   unfold fv at e
   rw [hsl r hr', hget r hr'] at e
   exact ⟨_, List.getElem_mem hr', e⟩
theorem flatL_ShardRefs (A : Option Addr) (C : Nat) (ys : List Value) (W : World) (hn : ys.length ≤ 100000) (ho : W.ownsRow 0 22 1 (.slice A ys.length C) ys.length ys) (hr : RowsOf 54 4 W ys) :
  Calls Tryz.prog 98 #[.slice A ys.length C] W fun e w' => e = .returned (.bool true) ∧ Kept (ownOf ys) W w' := by
 have ho' := ho
 obtain ⟨_, ⟨hv, hz⟩ | ⟨g, cap, cur, hv, _⟩⟩ := ho'
 ·have hv' : Value.slice A ys.length C = .slice none 0 0 := hv
  rw [hv']
  exact (nil_ShardRefs W).mono (fun e w' hh => ⟨hh.1, (Kept.of_below (F := fun _ => False) hh.2).mono (fun _ _ h => h.elim)⟩)
 ·cases hv
  have hcl := ho.cells (g := g) rfl
  have hget : ∀ r (h : r < ys.length), ys.getD r undef = ys[r] := fun r h => by simp [List.getD_eq_getElem?_getD, h]
  have hsl : ∀ r, r < ys.length → Value.slice (adOf (ys.getD r undef)) (lenOf (ys.getD r undef)) (cpOf (ys.getD r undef)) = ys.getD r undef := fun r h => by
   rw [hget r h]
   exact (hr.slice (List.getElem_mem h)).symm
  have hX : ∀ r, ∃ xs, r < ys.length → lenOf (ys.getD r undef) ≤ 1000000 ∧ W.ownsRow 0 54 4 (ys.getD r undef) (lenOf (ys.getD r undef)) xs := fun r => by
   by_cases h : r < ys.length
   ·obtain ⟨xs, h1, h2⟩ := hr.1 ys[r] (List.getElem_mem h)
    exact ⟨xs, fun _ => by rw [hget r h]; exact ⟨h1, h2⟩⟩
   ·exact ⟨[], fun hh => absurd hh h⟩
  obtain ⟨X, hX⟩ := Classical.axiomOfChoice hX
  have hap : Apt ys.length g (fun r => adOf (ys.getD r undef)) (fun r => lenOf (ys.getD r undef)) (fun r => cpOf (ys.getD r undef)) := by
   refine ⟨fun r s k h1 h2 e1 e2 => ?_, fun r k h1 e1 e2 => ?_⟩
   ·unfold fv at e1 e2
    rw [hsl r h1, hget r h1] at e1
    rw [hsl s h2, hget s h2] at e2
    by_cases e : r = s
    ·exact e
    ·exfalso
     rcases Nat.lt_or_gt_of_ne e with hh | hh
     ·exact List.pairwise_iff_getElem.1 hr.2 r s h1 h2 hh k e1 e2
     ·exact List.pairwise_iff_getElem.1 hr.2 s r h2 h1 hh k e2 e1
   ·subst e2
    unfold fv at e1
    rw [hsl r h1] at e1
    exact owns_apart ho (hX r h1).2 (by decide) k rfl e1
  refine (ShardRefFlat.flat_any g 0 ys.length C (fun r => adOf (ys.getD r undef)) (fun r => lenOf (ys.getD r undef)) (fun r => cpOf (ys.getD r undef)) X W hn (fun r hr' => by have := (hX r hr').1; omega) hap (fun r hr' => ?_) (fun r hr' => ?_)).mono ?_
  ·unfold fv
   rw [hsl r hr']
   have := hcl r (ys.getD r undef) (by rw [hget r hr']; exact List.getElem?_eq_getElem hr')
   rwa [add_none' _ rfl] at this
  ·unfold fv
   rw [hsl r hr']
   exact (hX r hr').2
  ·rintro e w' ⟨he, hst⟩
   refine ⟨he, hst.1.mono (fun k _ hk => ?_)⟩
   obtain ⟨r, hr', e⟩ := hk
   unfold fv at e
   rw [hsl r hr', hget r hr'] at e
   exact ⟨_, List.getElem_mem hr', e⟩
theorem flatL_Manifests (A : Option Addr) (C : Nat) (ys : List Value) (W : World) (hn : ys.length ≤ 100000) (ho : W.ownsRow 0 46 1 (.slice A ys.length C) ys.length ys) (hr : RowsOf 24 2 W ys) :
  Calls Tryz.prog 99 #[.slice A ys.length C] W fun e w' => e = .returned (.bool true) ∧ Kept (ownOf ys) W w' := by
 have ho' := ho
 obtain ⟨_, ⟨hv, hz⟩ | ⟨g, cap, cur, hv, _⟩⟩ := ho'
 ·have hv' : Value.slice A ys.length C = .slice none 0 0 := hv
  rw [hv']
  exact (nil_Manifests W).mono (fun e w' hh => ⟨hh.1, (Kept.of_below (F := fun _ => False) hh.2).mono (fun _ _ h => h.elim)⟩)
 ·cases hv
  have hcl := ho.cells (g := g) rfl
  have hget : ∀ r (h : r < ys.length), ys.getD r undef = ys[r] := fun r h => by simp [List.getD_eq_getElem?_getD, h]
  have hsl : ∀ r, r < ys.length → Value.slice (adOf (ys.getD r undef)) (lenOf (ys.getD r undef)) (cpOf (ys.getD r undef)) = ys.getD r undef := fun r h => by
   rw [hget r h]
   exact (hr.slice (List.getElem_mem h)).symm
  have hX : ∀ r, ∃ xs, r < ys.length → lenOf (ys.getD r undef) ≤ 1000000 ∧ W.ownsRow 0 24 2 (ys.getD r undef) (lenOf (ys.getD r undef)) xs := fun r => by
   by_cases h : r < ys.length
   ·obtain ⟨xs, h1, h2⟩ := hr.1 ys[r] (List.getElem_mem h)
    exact ⟨xs, fun _ => by rw [hget r h]; exact ⟨h1, h2⟩⟩
   ·exact ⟨[], fun hh => absurd hh h⟩
  obtain ⟨X, hX⟩ := Classical.axiomOfChoice hX
  have hap : Apt ys.length g (fun r => adOf (ys.getD r undef)) (fun r => lenOf (ys.getD r undef)) (fun r => cpOf (ys.getD r undef)) := by
   refine ⟨fun r s k h1 h2 e1 e2 => ?_, fun r k h1 e1 e2 => ?_⟩
   ·unfold fv at e1 e2
    rw [hsl r h1, hget r h1] at e1
    rw [hsl s h2, hget s h2] at e2
    by_cases e : r = s
    ·exact e
    ·exfalso
     rcases Nat.lt_or_gt_of_ne e with hh | hh
     ·exact List.pairwise_iff_getElem.1 hr.2 r s h1 h2 hh k e1 e2
     ·exact List.pairwise_iff_getElem.1 hr.2 s r h2 h1 hh k e2 e1
   ·subst e2
    unfold fv at e1
    rw [hsl r h1] at e1
    exact owns_apart ho (hX r h1).2 (by decide) k rfl e1
  refine (ManifestFlat.flat_any g 0 ys.length C (fun r => adOf (ys.getD r undef)) (fun r => lenOf (ys.getD r undef)) (fun r => cpOf (ys.getD r undef)) X W hn (fun r hr' => by have := (hX r hr').1; omega) hap (fun r hr' => ?_) (fun r hr' => ?_)).mono ?_
  ·unfold fv
   rw [hsl r hr']
   have := hcl r (ys.getD r undef) (by rw [hget r hr']; exact List.getElem?_eq_getElem hr')
   rwa [add_none' _ rfl] at this
  ·unfold fv
   rw [hsl r hr']
   exact (hX r hr').2
  ·rintro e w' ⟨he, hst⟩
   refine ⟨he, hst.1.mono (fun k _ hk => ?_)⟩
   obtain ⟨r, hr', e⟩ := hk
   unfold fv at e
   rw [hsl r hr', hget r hr'] at e
   exact ⟨_, List.getElem_mem hr', e⟩
def FKG (L : Nat → List Value) (j k : Nat) : Prop := (2 < j ∧ ownOf (L 2) k) ∨ (14 < j ∧ ownOf (L 14) k) ∨ (15 < j ∧ ownOf (L 15) k)
theorem FKG.up {L : Nat → List Value} {j i k : Nat} (h : FKG L j k) (hij : j ≤ i) : FKG L i k := by
 rcases h with ⟨h1, h2⟩ | ⟨h1, h2⟩ | ⟨h1, h2⟩
 ·exact .inl ⟨by omega, h2⟩
 ·exact .inr (.inl ⟨by omega, h2⟩)
 ·exact .inr (.inr (⟨by omega, h2⟩))
theorem FKG.step {L : Nat → List Value} {j : Nat} {w W w' : World} (h : Kept (FKG L j) w W) (hb : Below W.heap.size W w') : Kept (FKG L (j + 1)) w w' :=
 (h.mono (fun _ _ e => e.up (by omega))).trans (Kept.of_below (F := fun _ => False) hb) (fun _ _ e => e.elim)
theorem apart_bg (N p : Nat) (L : Nat → List Value) (w : World) (h : BG w N p L) (h0 : ∀ i, i < 21 → i ≠ 2 → i ≠ 14 → i ≠ 15 → L i = []) (h2 : RowsOf 3 1 w (L 2)) (l2 : (L 2).length ≤ 100000) (h14 : RowsOf 54 4 w (L 14)) (l14 : (L 14).length ≤ 100000) (h15 : RowsOf 24 2 w (L 15)) (l15 : (L 15).length ≤ 100000) :
  Calls Tryz.prog 50 #[.pointer (some ⟨p, 0, none⟩)] w fun e w' => e = .returned (.bool true) ∧ Kept (FKG L 21) w w' := by
 obtain ⟨A, C, hb, hL, hNp⟩ := h
 have hel : ∀ (e : TypeId) (sz i : Nat), i < 21 → RowsOf e sz w (L i) → ∀ g, ownOf (L i) g → ∃ cur fr, w.heap[g]? = some (.cells cur e fr) := fun e sz i _ hr g hg => by
  obtain ⟨y, hy, hgy⟩ := hg
  obtain ⟨xs, _, ho⟩ := hr.1 y hy
  obtain ⟨_, ⟨hv, _⟩ | ⟨g', cap, cur, hv, _, hg', _⟩⟩ := ho
  ·rw [hv] at hgy; cases hgy
  ·rw [hv] at hgy; cases hgy; exact ⟨_, _, hg'⟩
 have e2 := hel _ _ 2 (by omega) h2
 have e14 := hel _ _ 14 (by omega) h14
 have e15 := hel _ _ 15 (by omega) h15
 have hpF : ∀ j, ¬ FKG L j p := fun j hh => by
  rcases hh with ⟨h1, h2⟩ | ⟨h1, h2⟩ | ⟨h1, h2⟩
  ·obtain ⟨cur, fr, hc⟩ := e2 p h2
   have hbb := hb
   unfold BagV at hbb
   rw [hbb] at hc
   simp at hc
  ·obtain ⟨cur, fr, hc⟩ := e14 p h2
   have hbb := hb
   unfold BagV at hbb
   rw [hbb] at hc
   simp at hc
  ·obtain ⟨cur, fr, hc⟩ := e15 p h2
   have hbb := hb
   unfold BagV at hbb
   rw [hbb] at hc
   simp at hc
 have hbF : ∀ i, i < 21 → ∀ j k, FKG L j k → (Value.slice (A i) (L i).length (C i)).ownBlock ≠ some k := fun i hi j k hh e => by
  obtain ⟨_, ⟨hv, _⟩ | ⟨g', cap, cur, hv, _, hg', _⟩⟩ := (hL i hi).1
  ·rw [hv] at e; cases e
  rw [hv] at e
  cases e
  rcases hh with ⟨h1, h2⟩ | ⟨h1, h2⟩ | ⟨h1, h2⟩
  ·obtain ⟨cur2, fr, hc⟩ := e2 _ h2
   rw [hg'] at hc
   have hne : ∀ i, i < 21 → bty i ≠ 3 := by decide
   have := hne i hi
   simp at hc
   exact this hc.2.1
  ·obtain ⟨cur2, fr, hc⟩ := e14 _ h2
   rw [hg'] at hc
   have hne : ∀ i, i < 21 → bty i ≠ 54 := by decide
   have := hne i hi
   simp at hc
   exact this hc.2.1
  ·obtain ⟨cur2, fr, hc⟩ := e15 _ h2
   rw [hg'] at hc
   have hne : ∀ i, i < 21 → bty i ≠ 24 := by decide
   have := hne i hi
   simp at hc
   exact this hc.2.1
 have nil := fun (i : Nat) {f : Nat} {W : World} (hi : i < 21) (hz : L i = []) (hI : Kept (FKG L i) w W) (hc : Calls Tryz.prog f #[.slice none 0 0] W fun e w' => e = .returned (.bool true) ∧ Below W.heap.size W w') =>
  (show Calls Tryz.prog f #[.slice (A i) (L i).length (C i)] W fun e w' => e = .returned (.bool true) ∧ Kept (FKG L (i + 1)) w w' by
   obtain ⟨ea, ec⟩ := (hL i hi).2.2 hz
   rw [ea, ec, hz]
   exact hc.mono (R' := fun e w' => e = .returned (.bool true) ∧ Kept (FKG L (i + 1)) w w') (fun e w' hh => ⟨hh.1, FKG.step hI hh.2⟩))
 refine bagApart_gen p _ (fun j W => Kept (FKG L j) w W) w (Kept.refl _ _) (fun j W hW => hb.kept hW (hpF j)) (fun W h => nil 0 (by omega) (h0 0 (by omega) (by omega) (by omega) (by omega)) h (nil_Limbs W)) (fun W h => nil 1 (by omega) (h0 1 (by omega) (by omega) (by omega) (by omega)) h (nil_Words W)) ?f2 (fun W h => nil 3 (by omega) (h0 3 (by omega) (by omega) (by omega) (by omega)) h (nil_Longs W)) (fun W h => nil 4 (by omega) (h0 4 (by omega) (by omega) (by omega) (by omega)) h (nil_Texts W)) (fun W h => nil 5 (by omega) (h0 5 (by omega) (by omega) (by omega) (by omega)) h (nilB_Bytes W)) (fun W h => nil 6 (by omega) (h0 6 (by omega) (by omega) (by omega) (by omega)) h (nil_Truths W)) (fun W h => nil 7 (by omega) (h0 7 (by omega) (by omega) (by omega) (by omega)) h (nil_Nodes W)) (fun W h => nil 8 (by omega) (h0 8 (by omega) (by omega) (by omega) (by omega)) h (nil_Insts W)) (fun W h => nil 9 (by omega) (h0 9 (by omega) (by omega) (by omega) (by omega)) h (nil_Queries W)) (fun W h => nil 10 (by omega) (h0 10 (by omega) (by omega) (by omega) (by omega)) h (nil_Files W)) (fun W h => nil 11 (by omega) (h0 11 (by omega) (by omega) (by omega) (by omega)) h (nil_Docs W)) (fun W h => nil 12 (by omega) (h0 12 (by omega) (by omega) (by omega) (by omega)) h (nil_Places W)) (fun W h => nil 13 (by omega) (h0 13 (by omega) (by omega) (by omega) (by omega)) h (nil_Postings W)) ?f14 ?f15 (fun W h => nil 16 (by omega) (h0 16 (by omega) (by omega) (by omega) (by omega)) h (nil_Asks W)) (fun W h => nil 17 (by omega) (h0 17 (by omega) (by omega) (by omega) (by omega)) h (nil_Hits W)) (fun W h => nil 18 (by omega) (h0 18 (by omega) (by omega) (by omega) (by omega)) h (nil_Answers W)) (fun W h => nil 19 (by omega) (h0 19 (by omega) (by omega) (by omega) (by omega)) h (nil_Parts W)) (fun W h => nil 20 (by omega) (h0 20 (by omega) (by omega) (by omega) (by omega)) h (nil_Changes W))
 case f2 =>
  intro W hW
  have hoW : W.ownsRow 0 49 1 (.slice (A 2) (L 2).length (C 2)) (L 2).length (L 2) := owns_kept (hL 2 (by omega)).1 hW (fun g hg hf => hbF 2 (by omega) _ g hf hg)
  have hrW : RowsOf 3 1 W (L 2) := h2.kept hW (fun g hg hf => by
   obtain ⟨cur, fr, hc⟩ := e2 g hg
   rcases hf with ⟨h1, h2⟩ | ⟨h1, h2⟩ | ⟨h1, h2⟩
   ·omega
   ·omega
   ·omega
   )
  refine (flatL_Ints (A 2) (C 2) (L 2) W l2 hoW hrW).mono ?_
  rintro e w' ⟨he, hk⟩
  exact ⟨he, (hW.mono (fun _ _ e => e.up (by omega))).trans hk (fun g _ h2 => .inl ⟨by omega, h2⟩)⟩
 case f14 =>
  intro W hW
  have hoW : W.ownsRow 0 22 1 (.slice (A 14) (L 14).length (C 14)) (L 14).length (L 14) := owns_kept (hL 14 (by omega)).1 hW (fun g hg hf => hbF 14 (by omega) _ g hf hg)
  have hrW : RowsOf 54 4 W (L 14) := h14.kept hW (fun g hg hf => by
   obtain ⟨cur, fr, hc⟩ := e14 g hg
   rcases hf with ⟨h1, h2⟩ | ⟨h1, h2⟩ | ⟨h1, h2⟩
   ·obtain ⟨cur2, fr2, hc2⟩ := e2 g h2
    rw [hc] at hc2
    simp at hc2
   ·omega
   ·omega
   )
  refine (flatL_ShardRefs (A 14) (C 14) (L 14) W l14 hoW hrW).mono ?_
  rintro e w' ⟨he, hk⟩
  exact ⟨he, (hW.mono (fun _ _ e => e.up (by omega))).trans hk (fun g _ h2 => .inr (.inl ⟨by omega, h2⟩))⟩
 case f15 =>
  intro W hW
  have hoW : W.ownsRow 0 46 1 (.slice (A 15) (L 15).length (C 15)) (L 15).length (L 15) := owns_kept (hL 15 (by omega)).1 hW (fun g hg hf => hbF 15 (by omega) _ g hf hg)
  have hrW : RowsOf 24 2 W (L 15) := h15.kept hW (fun g hg hf => by
   obtain ⟨cur, fr, hc⟩ := e15 g hg
   rcases hf with ⟨h1, h2⟩ | ⟨h1, h2⟩ | ⟨h1, h2⟩
   ·obtain ⟨cur2, fr2, hc2⟩ := e2 g h2
    rw [hc] at hc2
    simp at hc2
   ·obtain ⟨cur2, fr2, hc2⟩ := e14 g h2
    rw [hc] at hc2
    simp at hc2
   ·omega
   )
  refine (flatL_Manifests (A 15) (C 15) (L 15) W l15 hoW hrW).mono ?_
  rintro e w' ⟨he, hk⟩
  exact ⟨he, (hW.mono (fun _ _ e => e.up (by omega))).trans hk (fun g _ h2 => .inr (.inr (⟨by omega, h2⟩)))⟩
end Go.Proofs.YtppdbinppibjhaaGreatDoor
