/-
  What rows of api.Manifest hold that are asked whether they lie apart.
-/
import Derived.Test.YtppdbinppibjhaaGreatDoorFlatMs
import Derived.Test.YtppdbinppibjhaaGreatDoorRows2
import Derived.Test.YtppdbinppibjhaaGreatDoorAppendS
import Derived.Test.YtppdbinppibjhaaGreatDoorRegionsA
import Derived.Laws.ResultCell
import Derived.Deep.CutBlock
import Derived.Deep.DeepCutAuto
import Derived.Deep.LoopGhost
import Derived.Deep.DeepMust
import Derived.Deep.RegionHeld3
import Derived.Laws.MakeOwn
import Derived.Deep.OwnRows
set_option maxHeartbeats 4000000
set_option maxRecDepth 100000
set_option linter.unusedVariables false
set_option linter.unusedSimpArgs false
namespace Go.Proofs.YtppdbinppibjhaaGreatDoor.ManifestFlat
open Go.RowKit
def el (γ k i : Nat) : List Value := [.int .i64 (markV k i : Nat), .slice none 0 0]
def gd (w : World) (γ k i : Nat) : Prop := True
theorem el_len (γ k i : Nat) : (el γ k i).length = 2 := rfl
theorem el_one (γ k i : Nat) : ∀ u ∈ el γ k i, u.oneCell' = true := by
 intro u hu
 have h : (el γ k i).all (·.oneCell') = true := rfl
 exact List.all_eq_true.1 h u hu
def TyF (F : Nat → Prop) (w : World) : Prop := ∀ g c t fr, F g → w.heap[g]? = some (.cells c t fr) → t = 24 ∨ t = 46
theorem gd_kept {F : Nat → Prop} {w w' : World} {γ k i : Nat} (h : gd w γ k i) (hk : Kept F w w') (hF : TyF F w) : gd w' γ k i := by
 trivial
theorem tyF_none (w : World) : TyF (fun _ => False) w := fun _ _ _ _ h => h.elim
theorem gd_below {w w' : World} {γ k i : Nat} (h : gd w γ k i) (hb : Below w.heap.size w w') : gd w' γ k i := gd_kept h (Kept.of_below (F := fun _ => False) hb) (tyF_none w)
def mkR (γ : Nat → Nat) (κ : Nat → Nat × Nat) : Nat → List Value
 | 0 => []
 | m + 1 => mkR γ κ m ++ el (γ m) (κ m).1 (κ m).2
theorem mkR_len (γ : Nat → Nat) (κ : Nat → Nat × Nat) : ∀ m, (mkR γ κ m).length = m * 2
 | 0 => by simp [mkR]
 | m + 1 => by
   show (mkR γ κ m ++ el (γ m) (κ m).1 (κ m).2).length = _
   rw [List.length_append, mkR_len γ κ m, el_len, Nat.succ_mul]
theorem mkR_congr {γ γ' : Nat → Nat} {κ κ' : Nat → Nat × Nat} : ∀ m, (∀ i, i < m → γ i = γ' i ∧ κ i = κ' i) → mkR γ κ m = mkR γ' κ' m
 | 0, _ => rfl
 | m + 1, h => by
   show mkR γ κ m ++ el (γ m) (κ m).1 (κ m).2 = mkR γ' κ' m ++ el (γ' m) (κ' m).1 (κ' m).2
   rw [mkR_congr m (fun i hi => h i (by omega)), (h m (by omega)).1, (h m (by omega)).2]
theorem mkR_get (γ : Nat → Nat) (κ : Nat → Nat × Nat) (i j : Nat) (hj : j < 2) : ∀ m, i < m → (mkR γ κ m)[i * 2 + j]? = (el (γ i) (κ i).1 (κ i).2)[j]?
 | m + 1, h => by
   show (mkR γ κ m ++ el (γ m) (κ m).1 (κ m).2)[i * 2 + j]? = _
   have hl := mkR_len γ κ m
   by_cases e : i = m
   ·subst e
    rw [List.getElem?_append_right (by omega), hl, Nat.add_sub_cancel_left]
   ·have h1 : (i + 1) * 2 ≤ m * 2 := Nat.mul_le_mul_right _ (by omega)
    rw [List.getElem?_append_left (by omega)]
    exact mkR_get γ κ i j hj m (by omega)
theorem mkR_add (γ : Nat → Nat) (κ : Nat → Nat × Nat) (a : Nat) : ∀ b, mkR γ κ (a + b) = mkR γ κ a ++ mkR (fun j => γ (a + j)) (fun j => κ (a + j)) b
 | 0 => by simp [mkR]
 | b + 1 => by
   show mkR γ κ (a + b) ++ el (γ (a + b)) (κ (a + b)).1 (κ (a + b)).2 = _
   rw [mkR_add γ κ a b, List.append_assoc]
   rfl
def RowM (w : World) (v : Value) (len : Nat) (κ : Nat → Nat × Nat) (m : Nat) : Prop := m ≤ len ∧ ∃ γ rest, w.ownsRow 0 24 2 v len (mkR γ κ m ++ rest) ∧ ∀ i, i < m → gd w (γ i) (κ i).1 (κ i).2
section
variable {w w' : World} {v : Value} {len m b : Nat} {κ κ' : Nat → Nat × Nat}
theorem RowM.kept {F : Nat → Prop} (h : RowM w v len κ m) (hk : Kept F w w') (hv : ∀ g, v.ownBlock = some g → ¬ F g) (hF : TyF F w) : RowM w' v len κ m := by
 obtain ⟨hm, γ, rest, h1, h2⟩ := h
 exact ⟨hm, γ, rest, owns_keptS h1 hk hv, fun i hi => gd_kept (h2 i hi) hk hF⟩
theorem RowM.below (h : RowM w v len κ m) (hb : Below w.heap.size w w') : RowM w' v len κ m := h.kept (Kept.of_below (F := fun _ => False) hb) (fun _ _ h => h) (tyF_none w)
theorem RowM.drewN (h : RowM w v len κ m) (j : Nat) : RowM (w.drewN j) v len κ m := h.below (below_drewN (Below.refl _ _) j)
theorem RowM.start {xs : List Value} (h : w.ownsRow 0 24 2 v len xs) : RowM w v len κ 0 := ⟨Nat.zero_le _, fun _ => 0, xs, h, fun i hi => absurd hi (Nat.not_lt_zero _)⟩
theorem RowM.congr (h : RowM w v len κ m) (e : ∀ i, i < m → κ i = κ' i) : RowM w v len κ' m := by
 obtain ⟨hm, γ, rest, h1, h2⟩ := h
 refine ⟨hm, γ, rest, ?_, fun i hi => by rw [← e i hi]; exact h2 i hi⟩
 rw [mkR_congr (γ' := γ) (κ' := κ') m (fun i hi => ⟨rfl, e i hi⟩)] at h1
 exact h1
theorem RowM.block (h : RowM w v len κ m) (hb : v.ownBlock = some b) : b < w.heap.size ∧ ∃ cur, w.heap[b]? = some (.cells cur 24 (0, 0)) := by
 obtain ⟨hm, γ, rest, h1, h2⟩ := h
 exact ⟨(owns_cells h1 b hb).1, (owns_cells h1 b hb).2.2⟩
theorem RowM.tyF (h : RowM w v len κ m) : TyF (fun g => v.ownBlock = some g) w := fun g c t fr hg hc => by
 obtain ⟨_, cur, h1⟩ := h.block hg
 rw [h1] at hc
 cases hc
 exact .inl rfl
theorem RowM.slice (h : RowM w v len κ m) (hl : 0 < len) : ∃ b C, v = .slice (some ⟨b, 0, none⟩) len C ∧ len ≤ C ∧ C ≤ 9223372036854775807 := by
 obtain ⟨hm, γ, rest, h1, h2⟩ := h
 have hx := h1.1
 have hp : 0 < len * 2 := by omega
 obtain ⟨b, C, hv, _, _, h3, h4⟩ := owns_cellS h1 (List.getElem?_eq_getElem (show 0 < (mkR γ κ m ++ rest).length by omega))
 exact ⟨b, C, hv, h3, h4⟩
theorem RowM.there {C : Nat} (h : RowM w (.slice (some ⟨b, 0, none⟩) len C) len κ m) {i : Nat} (hi : i < len) : w.there b (i * 2) 2 := fun j hj => by
 obtain ⟨hm, γ, rest, h1, h2⟩ := h
 have hx := h1.1
 have hp : (i + 1) * 2 ≤ len * 2 := Nat.mul_le_mul_right _ hi
 obtain ⟨b', C', hv, h3, h4, _, _⟩ := owns_cellS h1 (List.getElem?_eq_getElem (show i * 2 + j < (mkR γ κ m ++ rest).length by omega))
 cases hv
 exact ⟨by rw [h3]; rfl, h4⟩
theorem RowM.at {C : Nat} (h : RowM w (.slice (some ⟨b, 0, none⟩) len C) len κ m) {i : Nat} (hi : i < m) : ∃ γ, w.rangeAt b (i * 2) (el γ (κ i).1 (κ i).2) ∧ gd w γ (κ i).1 (κ i).2 := by
 obtain ⟨hm, γ, rest, h1, h2⟩ := h
 refine ⟨γ i, fun j u hj => ?_, h2 i hi⟩
 have hjs : j < 2 := by have := (List.getElem?_eq_some_iff.1 hj).1; rwa [el_len] at this
 have hp : (i + 1) * 2 ≤ m * 2 := Nat.mul_le_mul_right _ hi
 have hl := mkR_len γ κ m
 have hg : (mkR γ κ m ++ rest)[i * 2 + j]? = some u := by
  rw [List.getElem?_append_left (by omega), mkR_get γ κ i j hjs m hi]; exact hj
 obtain ⟨b', C', hv, h3, _, _, _⟩ := owns_cellS h1 hg
 cases hv
 exact h3
theorem RowM.mark {γ0 : Nat} (h : RowM w v len κ m) (hb : v.ownBlock = some b) (hm : m < len) (hg : gd w γ0 (κ m).1 (κ m).2) : RowM (w.setCells b (m * 2) (el γ0 (κ m).1 (κ m).2)) v len κ (m + 1) := by
 have hblk := (h.block hb).2
 obtain ⟨_, γ, rest, h1, h2⟩ := h
 have hl := mkR_len γ κ m
 have hx := h1.1
 rw [List.length_append, hl] at hx
 have hp : (m + 1) * 2 ≤ len * 2 := Nat.mul_le_mul_right _ hm
 have h3 := owns_setCells hb (el γ0 (κ m).1 (κ m).2) (m * 2) w _ h1
 rw [← hl, setL_eq _ _ _ (by rw [el_len]; omega), hl] at h3
 have hT : TyF (fun g => g = b) w := fun g c t fr hg hc => by
  obtain ⟨cur, h5⟩ := hblk
  have hg' : g = b := hg
  subst hg'
  rw [h5] at hc
  cases hc
  exact .inl rfl
 have hk := kept_setCells b (el γ0 (κ m).1 (κ m).2) (m * 2) w
 refine ⟨hm, fun j => if j = m then γ0 else γ j, rest.drop 2, ?_, fun i hi => ?_⟩
 ·have e : mkR (fun j => if j = m then γ0 else γ j) κ (m + 1) = mkR γ κ m ++ el γ0 (κ m).1 (κ m).2 := by
   show mkR _ κ m ++ el (if m = m then γ0 else γ m) (κ m).1 (κ m).2 = _
   rw [if_pos rfl, mkR_congr (γ' := γ) (κ' := κ) m (fun i hi => ⟨if_neg (by omega), rfl⟩)]
  rw [e]
  exact h3
 ·dsimp only
  by_cases e : i = m
  ·subst e
   rw [if_pos rfl]
   exact gd_kept hg hk hT
  ·rw [if_neg e]
   exact gd_kept (h2 i (by omega)) hk hT
theorem RowM.snoc {v' : Value} {γ : Nat → Nat} {γ0 : Nat} {rest : List Value} (hown : w.ownsRow 0 24 2 v' (len + 1) ((mkR γ κ len ++ rest) ++ el γ0 (κ len).1 (κ len).2)) (hr : rest = []) (h2 : ∀ i, i < len → gd w (γ i) (κ i).1 (κ i).2) (hg : gd w γ0 (κ len).1 (κ len).2) : RowM w v' (len + 1) κ (len + 1) := by
 subst hr
 refine ⟨Nat.le_refl _, fun j => if j = len then γ0 else γ j, [], ?_, fun i hi => ?_⟩
 ·have e : mkR (fun j => if j = len then γ0 else γ j) κ (len + 1) = mkR γ κ len ++ el γ0 (κ len).1 (κ len).2 := by
   show mkR _ κ len ++ el (if len = len then γ0 else γ len) (κ len).1 (κ len).2 = _
   rw [if_pos rfl, mkR_congr (γ' := γ) (κ' := κ) len (fun i hi => ⟨if_neg (by omega), rfl⟩)]
  rw [e]
  simpa using hown
 ·dsimp only
  by_cases e : i = len
  ·subst e
   rw [if_pos rfl]
   exact hg
  ·rw [if_neg e]
   exact h2 i (by omega)
theorem RowM.rest {γ : Nat → Nat} {rest : List Value} (h : w.ownsRow 0 24 2 v len (mkR γ κ len ++ rest)) : rest = [] := by
 have hx := h.1
 rw [List.length_append, mkR_len] at hx
 exact List.eq_nil_of_length_eq_zero (by omega)
end
def St (n : Nat) (A : Nat → Option Addr) (l C : Nat → Nat) (M : Nat → Nat) (w wx : World) : Prop := Kept (FF n A l C) w wx ∧ ∀ r, r < n → RowM wx (fv A l C r) (l r) (fun i => (r, i)) (M r)
section
variable {n b : Nat} {A : Nat → Option Addr} {l C : Nat → Nat} {M M' : Nat → Nat} {w wx wy : World}
theorem St.congr (h : St n A l C M w wx) (e : ∀ r, r < n → M r = M' r) : St n A l C M' w wx := ⟨h.1, fun r hr => by rw [← e r hr]; exact h.2 r hr⟩
theorem St.below (h : St n A l C M w wx) (hb : Below wx.heap.size wx wy) : St n A l C M w wy := ⟨h.1.trans (Kept.of_below (F := fun _ => False) hb) (fun _ _ h => h.elim), fun r hr => (h.2 r hr).below hb⟩
theorem St.row (h : St n A l C M w wx) (ha : Apt n b A l C) {off r : Nat} (hc : w.cell? ⟨b, off + r, none⟩ = some (fv A l C r)) : wx.cell? ⟨b, off + r, none⟩ = some (fv A l C r) := h.1.cell hc (FF.not_b ha)
theorem St.step {F : Nat → Prop} {k m' : Nat} (h : St n A l C M w wx) (ha : Apt n b A l C) (hk : k < n) (hK : Kept F wx wy) (hF : ∀ g, F g → (fv A l C k).ownBlock = some g ∨ wx.heap.size ≤ g) (hrow : RowM wy (fv A l C k) (l k) (fun i => (k, i)) m') : St n A l C (fun r => if r = k then m' else M r) w wy := by
 have hs := h.1.size
 refine ⟨h.1.trans hK (fun j hj hf => ?_), fun r hr => ?_⟩
 ·rcases hF j hf with h1 | h1
  ·exact ⟨k, hk, h1⟩
  ·omega
 ·by_cases e : r = k
  ·subst e; dsimp only; rw [if_pos rfl]; exact hrow
  ·dsimp only
   rw [if_neg e]
   refine (h.2 r hr).kept hK (fun g hg hf => ?_) (fun g c t fr hf hc => ?_)
   ·rcases hF g hf with h1 | h1
    ·exact e (ha.dist r k g hr hk hg h1)
    ·have := ((h.2 r hr).block hg).1
     omega
   ·rcases hF g hf with h1 | h1
    ·exact (h.2 k hk).tyF g c t fr h1 hc
    ·have := block_lt hc
     omega
end
def GS (n G : Nat) (A : Nat → Option Addr) (l C : Nat → Nat) (w : World) (m : Nat) (κ : Nat → Nat → Nat × Nat) (wx : World) : Prop :=
 ∃ cur : Array Value, wx.heap[G]? = some (.cells cur 46 (0, 0)) ∧ cur.size = n ∧ ∀ r, r < m → ∃ A' C', cur[r]? = some (.slice A' (l r + 64) C') ∧ RowM wx (.slice A' (l r + 64) C') (l r + 64) (κ r) (l r + 64) ∧
   ∀ g, (Value.slice A' (l r + 64) C').ownBlock = some g → (fv A l C r).ownBlock = some g ∨ (w.heap.size ≤ g ∧ g ≠ G)
section
variable {n b G k m : Nat} {A : Nat → Option Addr} {l C : Nat → Nat} {M : Nat → Nat} {κ κ' : Nat → Nat → Nat × Nat} {w wx wy : World}
theorem GS.tyF (h : GS n G A l C w m κ wx) : TyF (fun g => g = G) wx := fun g c t fr hg hc => by
 obtain ⟨cur, h1, _⟩ := h
 have hg' : g = G := hg
 subst hg'
 rw [h1] at hc
 cases hc
 exact .inr rfl
theorem GS.lt (h : GS n G A l C w m κ wx) : G < wx.heap.size := by obtain ⟨cur, h1, _⟩ := h; exact block_lt h1
theorem GS.kept {F : Nat → Prop} (h : GS n G A l C w m κ wx) (hk : Kept F wx wy) (hG : ¬ F G) (hF : TyF F wx) (hd : ∀ r g, r < m → ((fv A l C r).ownBlock = some g ∨ (w.heap.size ≤ g ∧ g ≠ G ∧ g < wx.heap.size)) → ¬ F g) : GS n G A l C w m κ wy := by
 obtain ⟨cur, h1, h2, h3⟩ := h
 refine ⟨cur, hk.heap h1 hG, h2, fun r hr => ?_⟩
 obtain ⟨A', C', h4, h5, h6⟩ := h3 r hr
 refine ⟨A', C', h4, h5.kept hk (fun g hg => ?_) hF, h6⟩
 have hlt := (h5.block hg).1
 rcases h6 g hg with h7 | h7
 ·exact hd r g hr (.inl h7)
 ·exact hd r g hr (.inr ⟨h7.1, h7.2, hlt⟩)
theorem GS.below (h : GS n G A l C w m κ wx) (hb : Below wx.heap.size wx wy) : GS n G A l C w m κ wy := h.kept (Kept.of_below (F := fun _ => False) hb) (fun h => h) (tyF_none _) (fun _ _ _ _ h => h)
theorem GS.put (h : GS n G A l C w k κ wx) (hkn : k < n) (hvG : ∀ r g, r < n → (fv A l C r).ownBlock = some g → g ≠ G) {A' : Option Addr} {C' : Nat} (hu : RowM wx (.slice A' (l k + 64) C') (l k + 64) (κ k) (l k + 64))
  (ho : ∀ g, (Value.slice A' (l k + 64) C').ownBlock = some g → (fv A l C k).ownBlock = some g ∨ (w.heap.size ≤ g ∧ g ≠ G)) : GS n G A l C w (k + 1) κ (wx.setCell ⟨G, k, none⟩ (.slice A' (l k + 64) C')) := by
 have hT := h.tyF
 have hK : Kept (fun g => g = G) wx (wx.setCell ⟨G, k, none⟩ (.slice A' (l k + 64) C')) := (Kept.refl (fun g => g = G) wx).setCell (.inl rfl) _
 obtain ⟨cur, h1, h2, h3⟩ := h
 have hne : ∀ r g, r < n → ((fv A l C r).ownBlock = some g ∨ (w.heap.size ≤ g ∧ g ≠ G)) → g ≠ G := fun r g hr h => h.elim (hvG r g hr) (fun h => h.2)
 refine ⟨_, heap_setCell_same _ G k cur _ _ h1, by rw [Array.size_setIfInBounds]; exact h2, fun r hr => ?_⟩
 by_cases e : r = k
 ·subst e
  exact ⟨A', C', by simp [h2, hkn], hu.kept hK (fun g hg e => hne r g hkn (ho g hg) e) hT, ho⟩
 ·obtain ⟨A2, C2, h4, h5, h6⟩ := h3 r (by omega)
  refine ⟨A2, C2, ?_, h5.kept hK (fun g hg e2 => hne r g (by omega) (h6 g hg) e2) hT, h6⟩
  rw [Array.getElem?_setIfInBounds, if_neg (fun h => e h.symm)]
  exact h4
theorem GS.cell (h : GS n G A l C w m κ wx) (hkn : k < n) : ∃ u, wx.cell? ⟨G, k, none⟩ = some u ∧ wx.frozen? ⟨G, k, none⟩ = false := by
 obtain ⟨cur, h1, h2, h3⟩ := h
 refine ⟨cur[k]'(by omega), ?_, frozen_of_row _ _ _ _ _ h1⟩
 rw [cell_of_row _ _ _ _ _ _ h1]
 simp [show k < cur.size by omega]
theorem GS.get (h : GS n G A l C w m κ wx) {r : Nat} (hr : r < m) : ∃ A' C', wx.cell? ⟨G, r, none⟩ = some (.slice A' (l r + 64) C') ∧ RowM wx (.slice A' (l r + 64) C') (l r + 64) (κ r) (l r + 64) := by
 obtain ⟨cur, h1, h2, h3⟩ := h
 obtain ⟨A', C', h4, h5, _⟩ := h3 r hr
 exact ⟨A', C', by rw [cell_of_row _ _ _ _ _ _ h1]; exact h4, h5⟩
theorem GS.less (h : GS n G A l C w m κ wx) : GS n G A l C w 0 κ' wx := by
 obtain ⟨cur, h1, h2, _⟩ := h
 exact ⟨cur, h1, h2, fun r hr => by omega⟩
theorem St.setG (h : St n A l C M w wx) (hT : TyF (fun g => g = G) wx) (hG : w.heap.size ≤ G) (hvG : ∀ r g, r < n → (fv A l C r).ownBlock = some g → g ≠ G) (i : Nat) (u : Value) : St n A l C M w (wx.setCell ⟨G, i, none⟩ u) :=
 ⟨h.1.setCell (.inr hG) u, fun r hr => (h.2 r hr).kept ((Kept.refl (fun g => g = G) wx).setCell (p := ⟨G, i, none⟩) (.inl rfl) u) (fun g hg e => hvG r g hr hg e) hT⟩
theorem GS.made {n : Nat} {A : Nat → Option Addr} {l C : Nat → Nat} {κ : Nat → Nat → Nat × Nat} (w wx : World) : GS n wx.heap.size A l C w 0 κ (wx.alloc (.cells (madeCells #[.slice none 0 0] n) 46)) := by
 refine ⟨_, heap_alloc_new _ _, ?_, fun r hr => by omega⟩
 rw [← Array.length_toList, toList_madeCells_one, List.length_replicate]
theorem grow_step {wk wr wa w2 : World} {vk gv gv' : Value} {nk ng : Nat} {κ : Nat → Nat × Nat} {ys : List Value} (hvk : RowM wr vk nk κ nk) (hg : wr.ownsRow 0 24 2 gv ng ys) (hnk : nk ≤ ng) (hK : Kept (fun x => vk.ownBlock = some x) wk wr)
  (hgo : ∀ x, gv.ownBlock = some x → vk.ownBlock = some x ∨ wk.heap.size ≤ x) (hb : Below wr.heap.size wr wa) (hgr : Grew wa w2 gv gv') (hold : w2.ownsRow 0 24 2 gv ng ys) :
  Kept (fun x => vk.ownBlock = some x) wk w2 ∧ RowM w2 vk nk κ nk ∧ (∀ x, gv'.ownBlock = some x → vk.ownBlock = some x ∨ wk.heap.size ≤ x) ∧ (∀ γ k i, gd wa γ k i → gd w2 γ k i) := by
 have hKa : Kept (fun _ => False) wr wa := Kept.of_below hb
 have hKg := hgr.kept (F := fun x => gv.ownBlock = some x) (fun _ h => h)
 have hs1 := hK.size
 have hs2 := hb.size
 have hga := owns_thruS hg hb
 have hTg : TyF (fun x => gv.ownBlock = some x) wa := fun g c t fr hx hc => by
  obtain ⟨cur, h1⟩ := (owns_cells hga g hx).2.2
  rw [h1] at hc
  cases hc
  exact .inl rfl
 refine ⟨(hK.trans hKa (fun _ _ h => h.elim)).trans hKg (fun j hj h => ?_), ?_, fun x hx => ?_, fun γ k i h => gd_kept h hKg hTg⟩
 ·rcases hgo j h with h | h
  ·exact h
  ·omega
 ·have hva := hvk.below hb
  by_cases hx : ∃ x, gv.ownBlock = some x ∧ vk.ownBlock = some x
  ·obtain ⟨x, h1, h2⟩ := hx
   obtain ⟨hm, γ, rest, h3, h4⟩ := hva
   exact ⟨hm, γ, rest, owns_prefixS (by omega) h3 hga h2 h1 hnk hold, fun i hi => gd_kept (h4 i hi) hKg hTg⟩
  ·exact hva.kept hKg (fun g h1 h2 => hx ⟨g, h2, h1⟩) hTg
 ·rcases hgr.foot (F := fun x => gv.ownBlock = some x) (fun _ h => h) x hx with h | h
  ·exact hgo x h
  ·exact .inr (by omega)
end
theorem info_sb : (Tryz.prog.info? 46).map (fun i => (i.zero, i.size, i.bytes)) = some (some (.slice none 0 0), 1, 24) := by kernel_rfl
theorem info_e : (Tryz.prog.info? 24).map (fun i => (i.zero, i.size, i.bytes)) = some (some (.agg #[.int .i64 0, .slice none 0 0]), 2, 32) := by kernel_rfl
open Go.RowKit
theorem mark_any (k i : Nat) (w : World) (hk : k ≤ 1000000) (hi : i ≤ 281474976710656) :
  Calls Tryz.prog 145 #[.int .i64 k, .int .i64 i] w fun e w' => ∃ γ, e = .returned (.agg #[.int .i64 (markV k i : Nat), .slice none 0 0]) ∧ gd w' γ k i ∧ Below w.heap.size w w' := by
 have hm := fun W : World => markVN k i W hk hi
 generalize markV k i = z at hm ⊢
 have hS : (w.alloc (.cells #[.int .i64 (z : Nat), .slice none 0 0] 24)).heap[w.heap.size]? = some (.cells #[.int .i64 (z : Nat), .slice none 0 0] 24 (0, 0)) := heap_alloc_new _ _
 have HS := hide hS
 clear hS
 go_enter Tryz.func145, Tryz.ntmps145
 go_wp2_with (go_at_call 105; refine (hm _).mono ?_; rintro e w' ⟨rfl, rfl⟩)
 refine bodyPost_ret_by (results_cell_row rfl _ _ w.heap.size 24 #[.int .i64 (z : Nat), .slice none 0 0] (0, 0) _ rfl HS.out Tryz.underlying24 rfl (by kernel_rfl)) rfl ⟨0, rfl, trivial, below_alloc w _⟩
theorem nil_same (w : World) : Calls Tryz.prog 66 #[.slice none 0 0, .slice none 0 0] w fun e w' => e = .returned (.bool true) ∧ Below w.heap.size w w' := by
 go_enter Tryz.func66, Tryz.ntmps66
 go_wp2_with fail
 go_loopw [5] (fun s5 wr => s5 = .int .i64 0 ∧ Below w.heap.size w wr) (fun _ _ => 0)
 case atStart => exact ⟨rfl, Below.refl _ _⟩
 case round =>
  obtain ⟨rfl, hb⟩ := hrel
  go_wp2_with fail
  go_ret
  exact ⟨rfl, hb⟩
theorem same_z (z : Nat) (w : World) :
  Calls Tryz.prog 33 #[.agg #[.int .i64 (z : Nat), .slice none 0 0], .agg #[.int .i64 (z : Nat), .slice none 0 0]] w fun e w' => e = .returned (.bool true) ∧ Below w.heap.size w w' := by
 have hb2 : Below w.heap.size w ((w.alloc (.cells #[.int .i64 (z : Nat), .slice none 0 0] 24)).alloc (.cells #[.int .i64 (z : Nat), .slice none 0 0] 24)) := below_step (below_alloc w _) _
 have hn := nil_same ((w.alloc (.cells #[.int .i64 (z : Nat), .slice none 0 0] 24)).alloc (.cells #[.int .i64 (z : Nat), .slice none 0 0] 24))
 go_enter Tryz.func33, Tryz.ntmps33
 go_wp2_with fail
 refine hn.mono ?_
 rintro e w1 ⟨rfl, hb3⟩
 have c0 := fun j => cell_of_row _ w.heap.size j _ _ _ ((hb3.block w.heap.size (by simp; omega)).trans ((Below.heap_alloc _ (.cells #[.int .i64 (z : Nat), .slice none 0 0] 24) w.heap.size (by simp)).trans (heap_alloc_new w (.cells #[.int .i64 (z : Nat), .slice none 0 0] 24))))
 have c1 := fun j => cell_of_row _ (w.alloc (.cells #[.int .i64 (z : Nat), .slice none 0 0] 24)).heap.size j _ _ _ ((hb3.block _ (by simp)).trans (heap_alloc_new (w.alloc (.cells #[.int .i64 (z : Nat), .slice none 0 0] 24)) (.cells #[.int .i64 (z : Nat), .slice none 0 0] 24)))
 rw [World.size_alloc] at c1
 go_wp2_with fail
 go_ret
 exact ⟨rfl, hb2.trans (hb3.mono hb2.size)⟩
theorem same_any (k i : Nat) (w : World) (hk : k ≤ 1000000) (hi : i ≤ 281474976710656) :
  Calls Tryz.prog 33 #[.agg #[.int .i64 (markV k i : Nat), .slice none 0 0], .agg #[.int .i64 (markV k i : Nat), .slice none 0 0]] w fun e w' => e = .returned (.bool true) ∧ Below w.heap.size w w' := same_z _ w
open Go.RowKit
theorem act_put (x : Act) (h : x.defers = []) (d : Nat) (v : Value) : ({ tmps := x.tmps.setIfInBounds d v, defers := [] } : Act) = x.put (some d) v := by
 cases x; cases h; rfl
theorem get_some {t : Array Value} {s : Nat} {v : Value} (h : t.getD s undef = v) (hv : v ≠ undef) : t[s]? = some v := by
 rw [Array.getD_eq_getD_getElem?] at h
 cases e : t[s]? with
 | none => rw [e] at h; exact absurd h.symm hv
 | some u => rw [e] at h; exact congrArg some h
theorem range_thru {w w' : World} {b o : Nat} {cs : List Value} (h : w.rangeAt b o cs) (hb : Below w.heap.size w w') : w'.rangeAt b o cs := fun j v hj => cell_thru (h j v hj) hb
abbrev ops240 : Oper := ⟨some 88, .move (.tmp 5), 47, "apart.go:876", #[], none⟩
abbrev ops241 : Oper := ⟨some 89, .move (.tmp 9), 3, "apart.go:876", #[], none⟩
abbrev ops242 : Oper := ⟨some 90, .indexAddr 47 (.tmp 88) (.tmp 89), 0, "apart.go:876", #[⟨0, .data⟩, ⟨1, .data⟩], none⟩
abbrev ops243 : Oper := ⟨some 91, .load 46 (.tmp 90), 46, "apart.go:876", #[⟨2, .data⟩], none⟩
abbrev ops244 : Oper := ⟨some 92, .move (.tmp 10), 3, "apart.go:876", #[], none⟩
abbrev ops245 : Oper := ⟨some 93, .indexAddr 46 (.tmp 91) (.tmp 92), 0, "apart.go:876", #[⟨3, .data⟩, ⟨4, .data⟩], none⟩
abbrev ops246 : Oper := ⟨some 94, .load 24 (.tmp 93), 24, "apart.go:876", #[⟨5, .data⟩], none⟩
abbrev ops247 : Oper := ⟨some 95, .move (.tmp 9), 3, "apart.go:876", #[], none⟩
abbrev ops248 : Oper := ⟨some 96, .move (.tmp 10), 3, "apart.go:876", #[], none⟩
abbrev ops249 : Oper := ⟨some 97, .call ⟨.value (.func 145), #[.tmp 95, .tmp 96], #[3, 3]⟩, 24, "apart.go:876", #[⟨7, .data⟩, ⟨8, .data⟩], none⟩
abbrev ops2410 : Oper := ⟨some 98, .call ⟨.value (.func 33), #[.tmp 94, .tmp 97], #[24, 24]⟩, 4, "apart.go:876", #[⟨6, .data⟩, ⟨9, .data⟩, ⟨9, .chain⟩], none⟩
abbrev ops2411 : Oper := ⟨some 99, .unOp .not 4 (.tmp 98), 4, "apart.go:876", #[⟨10, .data⟩], none⟩
abbrev ops2412 : Oper := ⟨some 100, .move (.tmp 99), 4, "apart.go:876", #[⟨11, .data⟩, ⟨10, .chain⟩], none⟩
abbrev ops2413 : Oper := ⟨some 101, .move (.tmp 10), 3, "apart.go:876", #[⟨12, .guard⟩], some (12, false)⟩
abbrev ops2414 : Oper := ⟨some 102, .move (.tmp 0), 47, "apart.go:876", #[⟨12, .guard⟩], some (12, false)⟩
abbrev ops2415 : Oper := ⟨some 103, .move (.tmp 9), 3, "apart.go:876", #[⟨12, .guard⟩], some (12, false)⟩
abbrev ops2416 : Oper := ⟨some 104, .indexAddr 47 (.tmp 102) (.tmp 103), 0, "apart.go:876", #[⟨14, .data⟩, ⟨15, .data⟩, ⟨12, .guard⟩], some (12, false)⟩
abbrev ops2417 : Oper := ⟨some 105, .load 46 (.tmp 104), 46, "apart.go:876", #[⟨16, .data⟩, ⟨12, .guard⟩], some (12, false)⟩
abbrev ops2418 : Oper := ⟨some 106, .call ⟨.builtin .len, #[.tmp 105], #[46]⟩, 3, "apart.go:876", #[⟨17, .data⟩, ⟨12, .guard⟩], some (12, false)⟩
abbrev ops2419 : Oper := ⟨some 107, .binOp .lss 3 (.tmp 101) (.tmp 106) 3, 4, "apart.go:876", #[⟨13, .data⟩, ⟨18, .data⟩, ⟨12, .guard⟩], some (12, false)⟩
abbrev ops2420 : Oper := ⟨some 108, .move (.tmp 107), 4, "apart.go:876", #[⟨19, .data⟩, ⟨12, .chain⟩, ⟨12, .guard⟩], some (12, false)⟩
abbrev ops2421 : Oper := ⟨some 109, .move (.tmp 0), 47, "apart.go:876", #[⟨20, .guard⟩], some (20, true)⟩
abbrev ops2422 : Oper := ⟨some 110, .move (.tmp 9), 3, "apart.go:876", #[⟨20, .guard⟩], some (20, true)⟩
abbrev ops2423 : Oper := ⟨some 111, .indexAddr 47 (.tmp 109) (.tmp 110), 0, "apart.go:876", #[⟨21, .data⟩, ⟨22, .data⟩, ⟨20, .guard⟩], some (20, true)⟩
abbrev ops2424 : Oper := ⟨some 112, .load 46 (.tmp 111), 46, "apart.go:876", #[⟨23, .data⟩, ⟨20, .guard⟩], some (20, true)⟩
abbrev ops2425 : Oper := ⟨some 113, .move (.tmp 10), 3, "apart.go:876", #[⟨20, .guard⟩], some (20, true)⟩
abbrev ops2426 : Oper := ⟨some 114, .indexAddr 46 (.tmp 112) (.tmp 113), 0, "apart.go:876", #[⟨24, .data⟩, ⟨25, .data⟩, ⟨20, .guard⟩], some (20, true)⟩
abbrev ops2427 : Oper := ⟨some 115, .load 24 (.tmp 114), 24, "apart.go:876", #[⟨26, .data⟩, ⟨20, .guard⟩], some (20, true)⟩
abbrev ops2428 : Oper := ⟨some 116, .move (.tmp 9), 3, "apart.go:876", #[⟨20, .guard⟩], some (20, true)⟩
abbrev ops2429 : Oper := ⟨some 117, .move (.tmp 10), 3, "apart.go:876", #[⟨20, .guard⟩], some (20, true)⟩
abbrev ops2430 : Oper := ⟨some 118, .call ⟨.value (.func 145), #[.tmp 116, .tmp 117], #[3, 3]⟩, 24, "apart.go:876", #[⟨28, .data⟩, ⟨29, .data⟩, ⟨20, .chain⟩, ⟨20, .guard⟩], some (20, true)⟩
abbrev ops2431 : Oper := ⟨some 119, .call ⟨.value (.func 33), #[.tmp 115, .tmp 118], #[24, 24]⟩, 4, "apart.go:876", #[⟨27, .data⟩, ⟨30, .data⟩, ⟨30, .chain⟩, ⟨20, .guard⟩], some (20, true)⟩
abbrev ops2432 : Oper := ⟨some 120, .unOp .not 4 (.tmp 119), 4, "apart.go:876", #[⟨31, .data⟩, ⟨20, .guard⟩], some (20, true)⟩
abbrev ops2433 : Oper := ⟨some 121, .pick (.tmp 108) (.tmp 120) (.const (.bool false)), 4, "apart.go:876", #[⟨20, .data⟩, ⟨32, .data⟩, ⟨12, .guard⟩], some (12, false)⟩
abbrev ops2434 : Oper := ⟨some 122, .pick (.tmp 100) (.const (.bool true)) (.tmp 121), 4, "apart.go:876", #[⟨12, .data⟩, ⟨33, .data⟩], none⟩
def ops24 : Array Oper := #[ops240, ops241, ops242, ops243, ops244, ops245, ops246, ops247, ops248, ops249, ops2410, ops2411, ops2412, ops2413, ops2414, ops2415, ops2416, ops2417, ops2418, ops2419, ops2420, ops2421, ops2422, ops2423, ops2424, ops2425, ops2426, ops2427, ops2428, ops2429, ops2430, ops2431, ops2432, ops2433, ops2434]
def slot24 (j : Nat) : Nat := 88 + j
def val24 (n cap k i G g g2 b off lg lk C1 Ck : Nat) (Ak : Option Addr) (lt : Bool) (z : Nat) : Nat → Value → World → Prop
 | 0, v, w => v = .slice (some ⟨G, 0, none⟩) n n
 | 1, v, w => v = .int .i64 (k : Nat)
 | 2, v, w => v = .pointer (some ⟨G, k, none⟩)
 | 3, v, w => v = .slice (some ⟨g, 0, none⟩) lg C1
 | 4, v, w => v = .int .i64 (i : Nat)
 | 5, v, w => v = .pointer (some ⟨g, i * 2, none⟩)
 | 6, v, w => ∃ γ, v = .agg #[.int .i64 (z : Nat), .slice none 0 0] ∧ gd w γ k i
 | 7, v, w => v = .int .i64 (k : Nat)
 | 8, v, w => v = .int .i64 (i : Nat)
 | 9, v, w => ∃ γ, v = .agg #[.int .i64 (z : Nat), .slice none 0 0] ∧ gd w γ k i
 | 10, v, w => v = .bool true
 | 11, v, w => v = .bool false
 | 12, v, w => v = .bool false
 | 13, v, w => v = .int .i64 (i : Nat)
 | 14, v, w => v = .slice (some ⟨b, off, none⟩) n cap
 | 15, v, w => v = .int .i64 (k : Nat)
 | 16, v, w => v = .pointer (some ⟨b, off + k, none⟩)
 | 17, v, w => v = .slice Ak lk Ck
 | 18, v, w => v = .int .i64 (lk : Nat)
 | 19, v, w => v = .bool lt
 | 20, v, w => v = .bool lt
 | 21, v, w => lt = true → v = .slice (some ⟨b, off, none⟩) n cap
 | 22, v, w => lt = true → v = .int .i64 (k : Nat)
 | 23, v, w => lt = true → v = .pointer (some ⟨b, off + k, none⟩)
 | 24, v, w => lt = true → v = .slice (some ⟨g2, 0, none⟩) lk Ck
 | 25, v, w => lt = true → v = .int .i64 (i : Nat)
 | 26, v, w => lt = true → v = .pointer (some ⟨g2, i * 2, none⟩)
 | 27, v, w => lt = true → ∃ γ, v = .agg #[.int .i64 (z : Nat), .slice none 0 0] ∧ gd w γ k i
 | 28, v, w => lt = true → v = .int .i64 (k : Nat)
 | 29, v, w => lt = true → v = .int .i64 (i : Nat)
 | 30, v, w => lt = true → ∃ γ, v = .agg #[.int .i64 (z : Nat), .slice none 0 0] ∧ gd w γ k i
 | 31, v, w => lt = true → v = .bool true
 | 32, v, w => lt = true → v = .bool false
 | 33, v, w => v = .bool false
 | 34, v, w => v = .bool false
 | _, _, _ => True
theorem val24_below (n cap k i G g g2 b off lg lk C1 Ck : Nat) (Ak : Option Addr) (lt : Bool) (z : Nat) (w w' : World) (hb : Below w.heap.size w w') : ∀ j v, val24 n cap k i G g g2 b off lg lk C1 Ck Ak lt z j v w → val24 n cap k i G g g2 b off lg lk C1 Ck Ak lt z j v w' := by
 intro j v h
 match j, h with
 | 0, h | 1, h | 2, h | 3, h | 4, h | 5, h => exact h
 | 6, h => obtain ⟨γ, h1, h2⟩ := h; exact ⟨γ, h1, gd_below h2 hb⟩
 | 7, h => exact h
 | 8, h => exact h
 | 9, h => obtain ⟨γ, h1, h2⟩ := h; exact ⟨γ, h1, gd_below h2 hb⟩
 | 10, h | 11, h | 12, h | 13, h | 14, h | 15, h | 16, h | 17, h | 18, h | 19, h | 20, h | 21, h | 22, h | 23, h | 24, h | 25, h | 26, h => exact h
 | 27, h => exact fun e => by obtain ⟨γ, h1, h2⟩ := h e; exact ⟨γ, h1, gd_below h2 hb⟩
 | 28, h => exact h
 | 29, h => exact h
 | 30, h => exact fun e => by obtain ⟨γ, h1, h2⟩ := h e; exact ⟨γ, h1, gd_below h2 hb⟩
 | 31, h | 32, h | 33, h | 34, h => exact h
 | _ + 35, h => exact h
theorem region24 (n cap k i G g g2 b off lg lk C1 Ck : Nat) (Ak : Option Addr) (lt : Bool) (z : Nat) (Q : Exit → Act → World → Prop) (t0 : Array Value) (w0 : World) (ht : t0.size = 193)
  (hs5 : t0.getD 5 undef = .slice (some ⟨G, 0, none⟩) n n) (hs9 : t0.getD 9 undef = .int .i64 (k : Nat)) (hs10 : t0.getD 10 undef = .int .i64 (i : Nat)) (hs0 : t0.getD 0 undef = .slice (some ⟨b, off, none⟩) n cap)
  (hkn : k < n) (hig : i < lg) (hlg : lg ≤ C1) (hlt : lt = decide (i < lk)) (hlk : lk ≤ Ck) (hA : lt = true → Ak = some ⟨g2, 0, none⟩)
  (d1 : w0.cell? ⟨G, k, none⟩ = some (.slice (some ⟨g, 0, none⟩) lg C1)) (c1 : w0.cell? ⟨b, off + k, none⟩ = some (.slice Ak lk Ck))
  (h1 : ∃ γ, w0.rangeAt g (i * 2) ([.int .i64 (z : Nat), .slice none 0 0]) ∧ gd w0 γ k i) (h2 : lt = true → ∃ γ, w0.rangeAt g2 (i * 2) ([.int .i64 (z : Nat), .slice none 0 0]) ∧ gd w0 γ k i)
  (cm : ∀ W : World, Calls Tryz.prog 145 #[.int .i64 (k : Nat), .int .i64 (i : Nat)] W fun e w' => ∃ γ, e = .returned (.agg #[.int .i64 (z : Nat), .slice none 0 0]) ∧ gd w' γ k i ∧ Below W.heap.size W w')
  (cs : ∀ W : World, Calls Tryz.prog 33 #[.agg #[.int .i64 (z : Nat), .slice none 0 0], .agg #[.int .i64 (z : Nat), .slice none 0 0]] W fun e w' => e = .returned (.bool true) ∧ Below W.heap.size W w')
  (hQ : ∀ (x : Act) (w : World), Below w0.heap.size w0 w → x.defers = [] → x.tmps.size = 193 → (∀ s, ¬ (88 ≤ s ∧ s ≤ 122) → x.tmps.getD s undef = t0.getD s undef) → x.tmps.getD 122 undef = .bool false → Q .normal x w) :
  (Code.region 24 ops24 true).wp Tryz.prog Q { tmps := t0, defers := [] } w0 := by
 have hun : ∀ (x : Act), (∀ s, (∀ j, j < ops24.size → s ≠ slot24 j) → x.tmps.getD s undef = t0.getD s undef) → ∀ s, ¬ (88 ≤ s ∧ s ≤ 122) → x.tmps.getD s undef = t0.getD s undef := by
  intro x h s hs
  refine h s (fun j hj => ?_)
  have hj' : j < 35 := hj
  unfold slot24
  omega
 refine wp_region_inv (by kernel_rfl) slot24 (val24 n cap k i G g g2 b off lg lk C1 Ck Ak lt z) t0 w0 ?_ ?_ ?_ (val24_below n cap k i G g g2 b off lg lk C1 Ck Ak lt z) ?_ ?_
 ·intro j o ho
  have hj : j < 35 := (Array.getElem?_eq_some_iff.1 ho).1
  refine ⟨?_, by rw [ht]; unfold slot24; omega⟩
  match j, ho with
  | 0, ho | 1, ho | 2, ho | 3, ho | 4, ho | 5, ho | 6, ho | 7, ho | 8, ho | 9, ho | 10, ho | 11, ho | 12, ho | 13, ho | 14, ho | 15, ho | 16, ho | 17, ho | 18, ho | 19, ho | 20, ho | 21, ho | 22, ho | 23, ho | 24, ho | 25, ho | 26, ho | 27, ho | 28, ho | 29, ho | 30, ho | 31, ho | 32, ho | 33, ho | 34, ho => cases ho; rfl
  | k + 35, _ => omega
 ·intro i j hi hj h
  unfold slot24 at h
  omega
 ·intro j o ho
  have hj : j < 35 := (Array.getElem?_eq_some_iff.1 ho).1
  match j, ho with
  | 0, ho | 1, ho | 2, ho | 3, ho | 4, ho | 5, ho | 6, ho | 7, ho | 8, ho | 9, ho | 10, ho | 11, ho | 12, ho | 13, ho | 14, ho | 15, ho | 16, ho | 17, ho | 18, ho | 19, ho | 20, ho | 21, ho | 22, ho | 23, ho | 24, ho | 25, ho | 26, ho | 27, ho | 28, ho | 29, ho | 30, ho | 31, ho | 32, ho | 33, ho | 34, ho => cases ho; decide
  | k + 35, _ => omega
 ·intro j o ho x w hB hdef hsz hs hdeps
  have hs' := hun x hs
  have u5 := (hs' 5 (by omega)).trans hs5
  have u9 := (hs' 9 (by omega)).trans hs9
  have u10 := (hs' 10 (by omega)).trans hs10
  have u0 := (hs' 0 (by omega)).trans hs0
  have hj : j < 35 := (Array.getElem?_eq_some_iff.1 ho).1
  have hkI : (k : Int) < (n : Int) := by omega
  have hk0 : (0 : Int) ≤ (k : Int) := by omega
  have hiI : (i : Int) < (lg : Int) := by omega
  have hi0 : (0 : Int) ≤ (i : Int) := by omega
  have HLT := hide hlt
  clear hs hs' hun hs0 hs5 hs9 hs10 hQ hsz ht hlt
  simp only [Array.getD_eq_getD_getElem?] at u0 u5 u9 u10
  match j, ho with
  | 0, ho =>
    have e : o = ops240 := (Option.some.inj ho).symm; unfold ops240 at e
    subst e
    clear hdeps
    refine wpOp_step ho (fun K hK => ?_)
    clear ho
    go_simp
    exact hK _ _ ⟨_, act_put x hdef _ _, rfl, Below.refl _ _⟩
  | 1, ho =>
    have e : o = ops241 := (Option.some.inj ho).symm; unfold ops241 at e
    subst e
    clear hdeps
    refine wpOp_step ho (fun K hK => ?_)
    clear ho
    go_simp
    exact hK _ _ ⟨_, act_put x hdef _ _, rfl, Below.refl _ _⟩
  | 2, ho =>
    have e : o = ops242 := (Option.some.inj ho).symm; unfold ops242 at e
    subst e
    have q0 : x.tmps.getD 88 undef = .slice (some ⟨G, 0, none⟩) n n := hdeps ⟨0, .data⟩ (by simp) rfl
    have q1 : x.tmps.getD 89 undef = .int .i64 (k : Nat) := hdeps ⟨1, .data⟩ (by simp) rfl
    simp only [Array.getD_eq_getD_getElem?] at q0 q1
    clear hdeps
    refine wpOp_step ho (fun K hK => ?_)
    clear ho
    go_simp
    exact hK _ _ ⟨_, act_put x hdef _ _, rfl, Below.refl _ _⟩
  | 3, ho =>
    have e : o = ops243 := (Option.some.inj ho).symm; unfold ops243 at e
    subst e
    have q2 : x.tmps.getD 90 undef = .pointer (some ⟨G, k, none⟩) := hdeps ⟨2, .data⟩ (by simp) rfl
    simp only [Array.getD_eq_getD_getElem?] at q2
    clear hdeps
    have d1w := cell_thru d1 hB
    refine wpOp_step ho (fun K hK => ?_)
    clear ho
    go_simp
    exact hK _ _ ⟨_, act_put x hdef _ _, rfl, Below.refl _ _⟩
  | 4, ho =>
    have e : o = ops244 := (Option.some.inj ho).symm; unfold ops244 at e
    subst e
    clear hdeps
    refine wpOp_step ho (fun K hK => ?_)
    clear ho
    go_simp
    exact hK _ _ ⟨_, act_put x hdef _ _, rfl, Below.refl _ _⟩
  | 5, ho =>
    have e : o = ops245 := (Option.some.inj ho).symm; unfold ops245 at e
    subst e
    have q3 : x.tmps.getD 91 undef = .slice (some ⟨g, 0, none⟩) lg C1 := hdeps ⟨3, .data⟩ (by simp) rfl
    have q4 : x.tmps.getD 92 undef = .int .i64 (i : Nat) := hdeps ⟨4, .data⟩ (by simp) rfl
    simp only [Array.getD_eq_getD_getElem?] at q3 q4
    clear hdeps
    refine wpOp_step ho (fun K hK => ?_)
    clear ho
    go_simp
    exact hK _ _ ⟨_, act_put x hdef _ _, rfl, Below.refl _ _⟩
  | 6, ho =>
    have e : o = ops246 := (Option.some.inj ho).symm; unfold ops246 at e
    subst e
    have q5 : x.tmps.getD 93 undef = .pointer (some ⟨g, i * 2, none⟩) := hdeps ⟨5, .data⟩ (by simp) rfl
    simp only [Array.getD_eq_getD_getElem?] at q5
    clear hdeps
    obtain ⟨γ, hr, hg⟩ := h1
    have k0 : w.cell? ⟨g, i * 2, none⟩ = some (.int .i64 (z : Nat)) := range_thru hr hB 0 _ rfl
    have k1 : w.cell? ⟨g, i * 2 + 1, none⟩ = some (.slice none 0 0) := range_thru hr hB 1 _ rfl
    have hg2 := gd_below hg hB
    clear hr hg
    refine wpOp_step ho (fun K hK => ?_)
    clear ho
    go_simp
    exact hK _ _ ⟨_, act_put x hdef _ _, ⟨γ, rfl, hg2⟩, Below.refl _ _⟩
  | 7, ho =>
    have e : o = ops247 := (Option.some.inj ho).symm; unfold ops247 at e
    subst e
    clear hdeps
    refine wpOp_step ho (fun K hK => ?_)
    clear ho
    go_simp
    exact hK _ _ ⟨_, act_put x hdef _ _, rfl, Below.refl _ _⟩
  | 8, ho =>
    have e : o = ops248 := (Option.some.inj ho).symm; unfold ops248 at e
    subst e
    clear hdeps
    refine wpOp_step ho (fun K hK => ?_)
    clear ho
    go_simp
    exact hK _ _ ⟨_, act_put x hdef _ _, rfl, Below.refl _ _⟩
  | 9, ho =>
    have e : o = ops249 := (Option.some.inj ho).symm; unfold ops249 at e
    subst e
    have q7 : x.tmps.getD 95 undef = .int .i64 (k : Nat) := hdeps ⟨7, .data⟩ (by simp) rfl
    have q8 : x.tmps.getD 96 undef = .int .i64 (i : Nat) := hdeps ⟨8, .data⟩ (by simp) rfl
    simp only [Array.getD_eq_getD_getElem?] at q7 q8
    clear hdeps
    refine wpOp_step ho (fun K hK => ?_)
    clear ho
    go_simp
    refine (cm w).mono ?_
    rintro e w' ⟨γ, rfl, hg, hb⟩
    exact hK _ _ ⟨_, act_put x hdef _ _, ⟨γ, rfl, hg⟩, hb⟩
  | 10, ho =>
    have e : o = ops2410 := (Option.some.inj ho).symm; unfold ops2410 at e
    subst e
    obtain ⟨γ6, q6, p6⟩ := hdeps ⟨6, .data⟩ (by simp) rfl
    have q6 : x.tmps.getD 94 undef = .agg #[.int .i64 (z : Nat), .slice none 0 0] := q6
    obtain ⟨γ9, q9, p9⟩ := hdeps ⟨9, .data⟩ (by simp) rfl
    have q9 : x.tmps.getD 97 undef = .agg #[.int .i64 (z : Nat), .slice none 0 0] := q9
    simp only [Array.getD_eq_getD_getElem?] at q6 q9
    clear hdeps
    refine wpOp_step ho (fun K hK => ?_)
    clear ho
    go_simp
    refine (cs w).mono ?_
    rintro e w' ⟨rfl, hb⟩
    exact hK _ _ ⟨_, act_put x hdef _ _, rfl, hb⟩
  | 11, ho =>
    have e : o = ops2411 := (Option.some.inj ho).symm; unfold ops2411 at e
    subst e
    have q10 : x.tmps.getD 98 undef = .bool true := hdeps ⟨10, .data⟩ (by simp) rfl
    simp only [Array.getD_eq_getD_getElem?] at q10
    clear hdeps
    refine wpOp_step ho (fun K hK => ?_)
    clear ho
    go_simp
    exact hK _ _ ⟨_, act_put x hdef _ _, rfl, Below.refl _ _⟩
  | 12, ho =>
    have e : o = ops2412 := (Option.some.inj ho).symm; unfold ops2412 at e
    subst e
    have q11 : x.tmps.getD 99 undef = .bool false := hdeps ⟨11, .data⟩ (by simp) rfl
    simp only [Array.getD_eq_getD_getElem?] at q11
    clear hdeps
    refine wpOp_step ho (fun K hK => ?_)
    clear ho
    go_simp
    exact hK _ _ ⟨_, act_put x hdef _ _, rfl, Below.refl _ _⟩
  | 13, ho =>
    have e : o = ops2413 := (Option.some.inj ho).symm; unfold ops2413 at e
    subst e
    have q12 : x.tmps.getD 100 undef = .bool false := hdeps ⟨12, .guard⟩ (by simp) rfl
    have e12 : (ops24[12]?.bind fun x => x.dst) = some 100 := rfl
    have g12 := get_some q12 (fun h => by cases h)
    simp only [Array.getD_eq_getD_getElem?] at q12
    clear hdeps
    refine wpOp_step ho (fun K hK => ?_)
    clear ho
    go_simp
    exact hK _ _ ⟨_, act_put x hdef _ _, rfl, Below.refl _ _⟩
  | 14, ho =>
    have e : o = ops2414 := (Option.some.inj ho).symm; unfold ops2414 at e
    subst e
    have q12 : x.tmps.getD 100 undef = .bool false := hdeps ⟨12, .guard⟩ (by simp) rfl
    have e12 : (ops24[12]?.bind fun x => x.dst) = some 100 := rfl
    have g12 := get_some q12 (fun h => by cases h)
    simp only [Array.getD_eq_getD_getElem?] at q12
    clear hdeps
    refine wpOp_step ho (fun K hK => ?_)
    clear ho
    go_simp
    exact hK _ _ ⟨_, act_put x hdef _ _, rfl, Below.refl _ _⟩
  | 15, ho =>
    have e : o = ops2415 := (Option.some.inj ho).symm; unfold ops2415 at e
    subst e
    have q12 : x.tmps.getD 100 undef = .bool false := hdeps ⟨12, .guard⟩ (by simp) rfl
    have e12 : (ops24[12]?.bind fun x => x.dst) = some 100 := rfl
    have g12 := get_some q12 (fun h => by cases h)
    simp only [Array.getD_eq_getD_getElem?] at q12
    clear hdeps
    refine wpOp_step ho (fun K hK => ?_)
    clear ho
    go_simp
    exact hK _ _ ⟨_, act_put x hdef _ _, rfl, Below.refl _ _⟩
  | 16, ho =>
    have e : o = ops2416 := (Option.some.inj ho).symm; unfold ops2416 at e
    subst e
    have q14 : x.tmps.getD 102 undef = .slice (some ⟨b, off, none⟩) n cap := hdeps ⟨14, .data⟩ (by simp) rfl
    have q15 : x.tmps.getD 103 undef = .int .i64 (k : Nat) := hdeps ⟨15, .data⟩ (by simp) rfl
    have q12 : x.tmps.getD 100 undef = .bool false := hdeps ⟨12, .guard⟩ (by simp) rfl
    have e12 : (ops24[12]?.bind fun x => x.dst) = some 100 := rfl
    have g12 := get_some q12 (fun h => by cases h)
    simp only [Array.getD_eq_getD_getElem?] at q14 q15 q12
    clear hdeps
    refine wpOp_step ho (fun K hK => ?_)
    clear ho
    go_simp
    exact hK _ _ ⟨_, act_put x hdef _ _, rfl, Below.refl _ _⟩
  | 17, ho =>
    have e : o = ops2417 := (Option.some.inj ho).symm; unfold ops2417 at e
    subst e
    have q16 : x.tmps.getD 104 undef = .pointer (some ⟨b, off + k, none⟩) := hdeps ⟨16, .data⟩ (by simp) rfl
    have q12 : x.tmps.getD 100 undef = .bool false := hdeps ⟨12, .guard⟩ (by simp) rfl
    have e12 : (ops24[12]?.bind fun x => x.dst) = some 100 := rfl
    have g12 := get_some q12 (fun h => by cases h)
    simp only [Array.getD_eq_getD_getElem?] at q16 q12
    clear hdeps
    have c1w := cell_thru c1 hB
    refine wpOp_step ho (fun K hK => ?_)
    clear ho
    go_simp
    exact hK _ _ ⟨_, act_put x hdef _ _, rfl, Below.refl _ _⟩
  | 18, ho =>
    have e : o = ops2418 := (Option.some.inj ho).symm; unfold ops2418 at e
    subst e
    have q17 : x.tmps.getD 105 undef = .slice Ak lk Ck := hdeps ⟨17, .data⟩ (by simp) rfl
    have q12 : x.tmps.getD 100 undef = .bool false := hdeps ⟨12, .guard⟩ (by simp) rfl
    have e12 : (ops24[12]?.bind fun x => x.dst) = some 100 := rfl
    have g12 := get_some q12 (fun h => by cases h)
    simp only [Array.getD_eq_getD_getElem?] at q17 q12
    clear hdeps
    refine wpOp_step ho (fun K hK => ?_)
    clear ho
    go_simp
    exact hK _ _ ⟨_, act_put x hdef _ _, rfl, Below.refl _ _⟩
  | 19, ho =>
    have e : o = ops2419 := (Option.some.inj ho).symm; unfold ops2419 at e
    subst e
    have q13 : x.tmps.getD 101 undef = .int .i64 (i : Nat) := hdeps ⟨13, .data⟩ (by simp) rfl
    have q18 : x.tmps.getD 106 undef = .int .i64 (lk : Nat) := hdeps ⟨18, .data⟩ (by simp) rfl
    have q12 : x.tmps.getD 100 undef = .bool false := hdeps ⟨12, .guard⟩ (by simp) rfl
    have e12 : (ops24[12]?.bind fun x => x.dst) = some 100 := rfl
    have g12 := get_some q12 (fun h => by cases h)
    simp only [Array.getD_eq_getD_getElem?] at q13 q18 q12
    clear hdeps
    refine wpOp_step ho (fun K hK => ?_)
    clear ho
    have hdl : decide ((i : Int) < (lk : Int)) = lt := by rw [HLT.out]; simp
    go_simp
    exact hK _ _ ⟨_, act_put x hdef _ _, (by show Value.bool _ = Value.bool _; rw [HLT.out]), Below.refl _ _⟩
  | 20, ho =>
    have e : o = ops2420 := (Option.some.inj ho).symm; unfold ops2420 at e
    subst e
    have q19 : x.tmps.getD 107 undef = .bool lt := hdeps ⟨19, .data⟩ (by simp) rfl
    have q12 : x.tmps.getD 100 undef = .bool false := hdeps ⟨12, .guard⟩ (by simp) rfl
    have e12 : (ops24[12]?.bind fun x => x.dst) = some 100 := rfl
    have g12 := get_some q12 (fun h => by cases h)
    simp only [Array.getD_eq_getD_getElem?] at q19 q12
    clear hdeps
    refine wpOp_step ho (fun K hK => ?_)
    clear ho
    go_simp
    exact hK _ _ ⟨_, act_put x hdef _ _, rfl, Below.refl _ _⟩
  | 21, ho =>
    have e : o = ops2421 := (Option.some.inj ho).symm; unfold ops2421 at e
    subst e
    cases lt with
    | false =>
      have q20 : x.tmps.getD 108 undef = .bool false := hdeps ⟨20, .guard⟩ (by simp) rfl
      have e20 : (ops24[20]?.bind fun x => x.dst) = some 108 := rfl
      have g20 := get_some q20 (fun h => by cases h)
      clear hdeps q20
      refine wpOp_step ho (fun K hK => ?_)
      clear ho
      go_simp
      exact hK _ _ ⟨_, act_put x hdef _ _, fun h => (by cases h), Below.refl _ _⟩
    | true =>
      have q20 : x.tmps.getD 108 undef = .bool true := hdeps ⟨20, .guard⟩ (by simp) rfl
      have e20 : (ops24[20]?.bind fun x => x.dst) = some 108 := rfl
      have g20 := get_some q20 (fun h => by cases h)
      simp only [Array.getD_eq_getD_getElem?] at q20
      clear hdeps
      refine wpOp_step ho (fun K hK => ?_)
      clear ho
      go_simp
      exact hK _ _ ⟨_, act_put x hdef _ _, fun _ => rfl, Below.refl _ _⟩
  | 22, ho =>
    have e : o = ops2422 := (Option.some.inj ho).symm; unfold ops2422 at e
    subst e
    cases lt with
    | false =>
      have q20 : x.tmps.getD 108 undef = .bool false := hdeps ⟨20, .guard⟩ (by simp) rfl
      have e20 : (ops24[20]?.bind fun x => x.dst) = some 108 := rfl
      have g20 := get_some q20 (fun h => by cases h)
      clear hdeps q20
      refine wpOp_step ho (fun K hK => ?_)
      clear ho
      go_simp
      exact hK _ _ ⟨_, act_put x hdef _ _, fun h => (by cases h), Below.refl _ _⟩
    | true =>
      have q20 : x.tmps.getD 108 undef = .bool true := hdeps ⟨20, .guard⟩ (by simp) rfl
      have e20 : (ops24[20]?.bind fun x => x.dst) = some 108 := rfl
      have g20 := get_some q20 (fun h => by cases h)
      simp only [Array.getD_eq_getD_getElem?] at q20
      clear hdeps
      refine wpOp_step ho (fun K hK => ?_)
      clear ho
      go_simp
      exact hK _ _ ⟨_, act_put x hdef _ _, fun _ => rfl, Below.refl _ _⟩
  | 23, ho =>
    have e : o = ops2423 := (Option.some.inj ho).symm; unfold ops2423 at e
    subst e
    cases lt with
    | false =>
      have q20 : x.tmps.getD 108 undef = .bool false := hdeps ⟨20, .guard⟩ (by simp) rfl
      have e20 : (ops24[20]?.bind fun x => x.dst) = some 108 := rfl
      have g20 := get_some q20 (fun h => by cases h)
      clear hdeps q20
      refine wpOp_step ho (fun K hK => ?_)
      clear ho
      go_simp
      exact hK _ _ ⟨_, act_put x hdef _ _, fun h => (by cases h), Below.refl _ _⟩
    | true =>
      have q21 : x.tmps.getD 109 undef = .slice (some ⟨b, off, none⟩) n cap := (hdeps ⟨21, .data⟩ (by simp) rfl) rfl
      have q22 : x.tmps.getD 110 undef = .int .i64 (k : Nat) := (hdeps ⟨22, .data⟩ (by simp) rfl) rfl
      have q20 : x.tmps.getD 108 undef = .bool true := hdeps ⟨20, .guard⟩ (by simp) rfl
      have e20 : (ops24[20]?.bind fun x => x.dst) = some 108 := rfl
      have g20 := get_some q20 (fun h => by cases h)
      simp only [Array.getD_eq_getD_getElem?] at q21 q22 q20
      clear hdeps
      refine wpOp_step ho (fun K hK => ?_)
      clear ho
      go_simp
      exact hK _ _ ⟨_, act_put x hdef _ _, fun _ => rfl, Below.refl _ _⟩
  | 24, ho =>
    have e : o = ops2424 := (Option.some.inj ho).symm; unfold ops2424 at e
    subst e
    cases lt with
    | false =>
      have q20 : x.tmps.getD 108 undef = .bool false := hdeps ⟨20, .guard⟩ (by simp) rfl
      have e20 : (ops24[20]?.bind fun x => x.dst) = some 108 := rfl
      have g20 := get_some q20 (fun h => by cases h)
      clear hdeps q20
      refine wpOp_step ho (fun K hK => ?_)
      clear ho
      go_simp
      exact hK _ _ ⟨_, act_put x hdef _ _, fun h => (by cases h), Below.refl _ _⟩
    | true =>
      have q23 : x.tmps.getD 111 undef = .pointer (some ⟨b, off + k, none⟩) := (hdeps ⟨23, .data⟩ (by simp) rfl) rfl
      have q20 : x.tmps.getD 108 undef = .bool true := hdeps ⟨20, .guard⟩ (by simp) rfl
      have e20 : (ops24[20]?.bind fun x => x.dst) = some 108 := rfl
      have g20 := get_some q20 (fun h => by cases h)
      simp only [Array.getD_eq_getD_getElem?] at q23 q20
      clear hdeps
      have c1w := cell_thru c1 hB
      rw [hA rfl] at c1w
      refine wpOp_step ho (fun K hK => ?_)
      clear ho
      go_simp
      exact hK _ _ ⟨_, act_put x hdef _ _, fun _ => rfl, Below.refl _ _⟩
  | 25, ho =>
    have e : o = ops2425 := (Option.some.inj ho).symm; unfold ops2425 at e
    subst e
    cases lt with
    | false =>
      have q20 : x.tmps.getD 108 undef = .bool false := hdeps ⟨20, .guard⟩ (by simp) rfl
      have e20 : (ops24[20]?.bind fun x => x.dst) = some 108 := rfl
      have g20 := get_some q20 (fun h => by cases h)
      clear hdeps q20
      refine wpOp_step ho (fun K hK => ?_)
      clear ho
      go_simp
      exact hK _ _ ⟨_, act_put x hdef _ _, fun h => (by cases h), Below.refl _ _⟩
    | true =>
      have q20 : x.tmps.getD 108 undef = .bool true := hdeps ⟨20, .guard⟩ (by simp) rfl
      have e20 : (ops24[20]?.bind fun x => x.dst) = some 108 := rfl
      have g20 := get_some q20 (fun h => by cases h)
      simp only [Array.getD_eq_getD_getElem?] at q20
      clear hdeps
      refine wpOp_step ho (fun K hK => ?_)
      clear ho
      go_simp
      exact hK _ _ ⟨_, act_put x hdef _ _, fun _ => rfl, Below.refl _ _⟩
  | 26, ho =>
    have e : o = ops2426 := (Option.some.inj ho).symm; unfold ops2426 at e
    subst e
    cases lt with
    | false =>
      have q20 : x.tmps.getD 108 undef = .bool false := hdeps ⟨20, .guard⟩ (by simp) rfl
      have e20 : (ops24[20]?.bind fun x => x.dst) = some 108 := rfl
      have g20 := get_some q20 (fun h => by cases h)
      clear hdeps q20
      refine wpOp_step ho (fun K hK => ?_)
      clear ho
      go_simp
      exact hK _ _ ⟨_, act_put x hdef _ _, fun h => (by cases h), Below.refl _ _⟩
    | true =>
      have q24 : x.tmps.getD 112 undef = .slice (some ⟨g2, 0, none⟩) lk Ck := (hdeps ⟨24, .data⟩ (by simp) rfl) rfl
      have q25 : x.tmps.getD 113 undef = .int .i64 (i : Nat) := (hdeps ⟨25, .data⟩ (by simp) rfl) rfl
      have q20 : x.tmps.getD 108 undef = .bool true := hdeps ⟨20, .guard⟩ (by simp) rfl
      have e20 : (ops24[20]?.bind fun x => x.dst) = some 108 := rfl
      have g20 := get_some q20 (fun h => by cases h)
      simp only [Array.getD_eq_getD_getElem?] at q24 q25 q20
      clear hdeps
      have hil : i < lk := of_decide_eq_true (HLT.out.symm)
      have hilI : (i : Int) < (lk : Int) := by omega
      refine wpOp_step ho (fun K hK => ?_)
      clear ho
      go_simp
      exact hK _ _ ⟨_, act_put x hdef _ _, fun _ => rfl, Below.refl _ _⟩
  | 27, ho =>
    have e : o = ops2427 := (Option.some.inj ho).symm; unfold ops2427 at e
    subst e
    cases lt with
    | false =>
      have q20 : x.tmps.getD 108 undef = .bool false := hdeps ⟨20, .guard⟩ (by simp) rfl
      have e20 : (ops24[20]?.bind fun x => x.dst) = some 108 := rfl
      have g20 := get_some q20 (fun h => by cases h)
      clear hdeps q20
      refine wpOp_step ho (fun K hK => ?_)
      clear ho
      go_simp
      exact hK _ _ ⟨_, act_put x hdef _ _, fun h => (by cases h), Below.refl _ _⟩
    | true =>
      have q26 : x.tmps.getD 114 undef = .pointer (some ⟨g2, i * 2, none⟩) := (hdeps ⟨26, .data⟩ (by simp) rfl) rfl
      have q20 : x.tmps.getD 108 undef = .bool true := hdeps ⟨20, .guard⟩ (by simp) rfl
      have e20 : (ops24[20]?.bind fun x => x.dst) = some 108 := rfl
      have g20 := get_some q20 (fun h => by cases h)
      simp only [Array.getD_eq_getD_getElem?] at q26 q20
      clear hdeps
      obtain ⟨γ, hr, hg⟩ := h2 rfl
      have k0 : w.cell? ⟨g2, i * 2, none⟩ = some (.int .i64 (z : Nat)) := range_thru hr hB 0 _ rfl
      have k1 : w.cell? ⟨g2, i * 2 + 1, none⟩ = some (.slice none 0 0) := range_thru hr hB 1 _ rfl
      have hg2 := gd_below hg hB
      clear hr hg
      refine wpOp_step ho (fun K hK => ?_)
      clear ho
      go_simp
      exact hK _ _ ⟨_, act_put x hdef _ _, fun _ => ⟨γ, rfl, hg2⟩, Below.refl _ _⟩
  | 28, ho =>
    have e : o = ops2428 := (Option.some.inj ho).symm; unfold ops2428 at e
    subst e
    cases lt with
    | false =>
      have q20 : x.tmps.getD 108 undef = .bool false := hdeps ⟨20, .guard⟩ (by simp) rfl
      have e20 : (ops24[20]?.bind fun x => x.dst) = some 108 := rfl
      have g20 := get_some q20 (fun h => by cases h)
      clear hdeps q20
      refine wpOp_step ho (fun K hK => ?_)
      clear ho
      go_simp
      exact hK _ _ ⟨_, act_put x hdef _ _, fun h => (by cases h), Below.refl _ _⟩
    | true =>
      have q20 : x.tmps.getD 108 undef = .bool true := hdeps ⟨20, .guard⟩ (by simp) rfl
      have e20 : (ops24[20]?.bind fun x => x.dst) = some 108 := rfl
      have g20 := get_some q20 (fun h => by cases h)
      simp only [Array.getD_eq_getD_getElem?] at q20
      clear hdeps
      refine wpOp_step ho (fun K hK => ?_)
      clear ho
      go_simp
      exact hK _ _ ⟨_, act_put x hdef _ _, fun _ => rfl, Below.refl _ _⟩
  | 29, ho =>
    have e : o = ops2429 := (Option.some.inj ho).symm; unfold ops2429 at e
    subst e
    cases lt with
    | false =>
      have q20 : x.tmps.getD 108 undef = .bool false := hdeps ⟨20, .guard⟩ (by simp) rfl
      have e20 : (ops24[20]?.bind fun x => x.dst) = some 108 := rfl
      have g20 := get_some q20 (fun h => by cases h)
      clear hdeps q20
      refine wpOp_step ho (fun K hK => ?_)
      clear ho
      go_simp
      exact hK _ _ ⟨_, act_put x hdef _ _, fun h => (by cases h), Below.refl _ _⟩
    | true =>
      have q20 : x.tmps.getD 108 undef = .bool true := hdeps ⟨20, .guard⟩ (by simp) rfl
      have e20 : (ops24[20]?.bind fun x => x.dst) = some 108 := rfl
      have g20 := get_some q20 (fun h => by cases h)
      simp only [Array.getD_eq_getD_getElem?] at q20
      clear hdeps
      refine wpOp_step ho (fun K hK => ?_)
      clear ho
      go_simp
      exact hK _ _ ⟨_, act_put x hdef _ _, fun _ => rfl, Below.refl _ _⟩
  | 30, ho =>
    have e : o = ops2430 := (Option.some.inj ho).symm; unfold ops2430 at e
    subst e
    cases lt with
    | false =>
      have q20 : x.tmps.getD 108 undef = .bool false := hdeps ⟨20, .guard⟩ (by simp) rfl
      have e20 : (ops24[20]?.bind fun x => x.dst) = some 108 := rfl
      have g20 := get_some q20 (fun h => by cases h)
      clear hdeps q20
      refine wpOp_step ho (fun K hK => ?_)
      clear ho
      go_simp
      exact hK _ _ ⟨_, act_put x hdef _ _, fun h => (by cases h), Below.refl _ _⟩
    | true =>
      have q28 : x.tmps.getD 116 undef = .int .i64 (k : Nat) := (hdeps ⟨28, .data⟩ (by simp) rfl) rfl
      have q29 : x.tmps.getD 117 undef = .int .i64 (i : Nat) := (hdeps ⟨29, .data⟩ (by simp) rfl) rfl
      have q20 : x.tmps.getD 108 undef = .bool true := hdeps ⟨20, .guard⟩ (by simp) rfl
      have e20 : (ops24[20]?.bind fun x => x.dst) = some 108 := rfl
      have g20 := get_some q20 (fun h => by cases h)
      simp only [Array.getD_eq_getD_getElem?] at q28 q29 q20
      clear hdeps
      refine wpOp_step ho (fun K hK => ?_)
      clear ho
      go_simp
      refine (cm w).mono ?_
      rintro e w' ⟨γ, rfl, hg, hb⟩
      exact hK _ _ ⟨_, act_put x hdef _ _, fun _ => ⟨γ, rfl, hg⟩, hb⟩
  | 31, ho =>
    have e : o = ops2431 := (Option.some.inj ho).symm; unfold ops2431 at e
    subst e
    cases lt with
    | false =>
      have q20 : x.tmps.getD 108 undef = .bool false := hdeps ⟨20, .guard⟩ (by simp) rfl
      have e20 : (ops24[20]?.bind fun x => x.dst) = some 108 := rfl
      have g20 := get_some q20 (fun h => by cases h)
      clear hdeps q20
      refine wpOp_step ho (fun K hK => ?_)
      clear ho
      go_simp
      exact hK _ _ ⟨_, act_put x hdef _ _, fun h => (by cases h), Below.refl _ _⟩
    | true =>
      obtain ⟨γ27, q27, p27⟩ := (hdeps ⟨27, .data⟩ (by simp) rfl) rfl
      have q27 : x.tmps.getD 115 undef = .agg #[.int .i64 (z : Nat), .slice none 0 0] := q27
      obtain ⟨γ30, q30, p30⟩ := (hdeps ⟨30, .data⟩ (by simp) rfl) rfl
      have q30 : x.tmps.getD 118 undef = .agg #[.int .i64 (z : Nat), .slice none 0 0] := q30
      have q20 : x.tmps.getD 108 undef = .bool true := hdeps ⟨20, .guard⟩ (by simp) rfl
      have e20 : (ops24[20]?.bind fun x => x.dst) = some 108 := rfl
      have g20 := get_some q20 (fun h => by cases h)
      simp only [Array.getD_eq_getD_getElem?] at q27 q30 q20
      clear hdeps
      refine wpOp_step ho (fun K hK => ?_)
      clear ho
      go_simp
      refine (cs w).mono ?_
      rintro e w' ⟨rfl, hb⟩
      exact hK _ _ ⟨_, act_put x hdef _ _, fun _ => rfl, hb⟩
  | 32, ho =>
    have e : o = ops2432 := (Option.some.inj ho).symm; unfold ops2432 at e
    subst e
    cases lt with
    | false =>
      have q20 : x.tmps.getD 108 undef = .bool false := hdeps ⟨20, .guard⟩ (by simp) rfl
      have e20 : (ops24[20]?.bind fun x => x.dst) = some 108 := rfl
      have g20 := get_some q20 (fun h => by cases h)
      clear hdeps q20
      refine wpOp_step ho (fun K hK => ?_)
      clear ho
      go_simp
      exact hK _ _ ⟨_, act_put x hdef _ _, fun h => (by cases h), Below.refl _ _⟩
    | true =>
      have q31 : x.tmps.getD 119 undef = .bool true := (hdeps ⟨31, .data⟩ (by simp) rfl) rfl
      have q20 : x.tmps.getD 108 undef = .bool true := hdeps ⟨20, .guard⟩ (by simp) rfl
      have e20 : (ops24[20]?.bind fun x => x.dst) = some 108 := rfl
      have g20 := get_some q20 (fun h => by cases h)
      simp only [Array.getD_eq_getD_getElem?] at q31 q20
      clear hdeps
      refine wpOp_step ho (fun K hK => ?_)
      clear ho
      go_simp
      exact hK _ _ ⟨_, act_put x hdef _ _, fun _ => rfl, Below.refl _ _⟩
  | 33, ho =>
    have e : o = ops2433 := (Option.some.inj ho).symm; unfold ops2433 at e
    subst e
    cases lt with
    | false =>
      have q20 : x.tmps.getD 108 undef = .bool false := hdeps ⟨20, .data⟩ (by simp) rfl
      have q12 : x.tmps.getD 100 undef = .bool false := hdeps ⟨12, .guard⟩ (by simp) rfl
      have e12 : (ops24[12]?.bind fun x => x.dst) = some 100 := rfl
      have g12 := get_some q12 (fun h => by cases h)
      simp only [Array.getD_eq_getD_getElem?] at q20 q12
      clear hdeps
      refine wpOp_step ho (fun K hK => ?_)
      clear ho
      go_simp
      exact hK _ _ ⟨_, act_put x hdef _ _, rfl, Below.refl _ _⟩
    | true =>
      have q20 : x.tmps.getD 108 undef = .bool true := hdeps ⟨20, .data⟩ (by simp) rfl
      have q32 : x.tmps.getD 120 undef = .bool false := (hdeps ⟨32, .data⟩ (by simp) rfl) rfl
      have q12 : x.tmps.getD 100 undef = .bool false := hdeps ⟨12, .guard⟩ (by simp) rfl
      have e12 : (ops24[12]?.bind fun x => x.dst) = some 100 := rfl
      have g12 := get_some q12 (fun h => by cases h)
      simp only [Array.getD_eq_getD_getElem?] at q20 q32 q12
      clear hdeps
      refine wpOp_step ho (fun K hK => ?_)
      clear ho
      go_simp
      exact hK _ _ ⟨_, act_put x hdef _ _, rfl, Below.refl _ _⟩
  | 34, ho =>
    have e : o = ops2434 := (Option.some.inj ho).symm; unfold ops2434 at e
    subst e
    have q12 : x.tmps.getD 100 undef = .bool false := hdeps ⟨12, .data⟩ (by simp) rfl
    have q33 : x.tmps.getD 121 undef = .bool false := hdeps ⟨33, .data⟩ (by simp) rfl
    simp only [Array.getD_eq_getD_getElem?] at q12 q33
    clear hdeps
    refine wpOp_step ho (fun K hK => ?_)
    clear ho
    go_simp
    exact hK _ _ ⟨_, act_put x hdef _ _, rfl, Below.refl _ _⟩
  | k + 35, _ => omega
 ·intro x w hB hdef hsz hs hv
  exact hQ x w hB hdef (hsz.trans ht) (hun x hs) (hv 34 (by decide))
theorem region24_lit (n cap k i G g g2 b off lg lk C1 Ck : Nat) (Ak : Option Addr) (lt : Bool) (z : Nat) (Q : Exit → Act → World → Prop) (t0 : Array Value) (w0 : World) (ht : t0.size = 193)
  (hs5 : t0.getD 5 undef = .slice (some ⟨G, 0, none⟩) n n) (hs9 : t0.getD 9 undef = .int .i64 (k : Nat)) (hs10 : t0.getD 10 undef = .int .i64 (i : Nat)) (hs0 : t0.getD 0 undef = .slice (some ⟨b, off, none⟩) n cap)
  (hkn : k < n) (hig : i < lg) (hlg : lg ≤ C1) (hlt : lt = decide (i < lk)) (hlk : lk ≤ Ck) (hA : lt = true → Ak = some ⟨g2, 0, none⟩)
  (d1 : w0.cell? ⟨G, k, none⟩ = some (.slice (some ⟨g, 0, none⟩) lg C1)) (c1 : w0.cell? ⟨b, off + k, none⟩ = some (.slice Ak lk Ck))
  (h1 : ∃ γ, w0.rangeAt g (i * 2) ([.int .i64 (z : Nat), .slice none 0 0]) ∧ gd w0 γ k i) (h2 : lt = true → ∃ γ, w0.rangeAt g2 (i * 2) ([.int .i64 (z : Nat), .slice none 0 0]) ∧ gd w0 γ k i)
  (cm : ∀ W : World, Calls Tryz.prog 145 #[.int .i64 (k : Nat), .int .i64 (i : Nat)] W fun e w' => ∃ γ, e = .returned (.agg #[.int .i64 (z : Nat), .slice none 0 0]) ∧ gd w' γ k i ∧ Below W.heap.size W w')
  (cs : ∀ W : World, Calls Tryz.prog 33 #[.agg #[.int .i64 (z : Nat), .slice none 0 0], .agg #[.int .i64 (z : Nat), .slice none 0 0]] W fun e w' => e = .returned (.bool true) ∧ Below W.heap.size W w')
  (hQ : ∀ (vs : Nat → Value) (w : World), Below w0.heap.size w0 w → vs 122 = .bool false → Q .normal { tmps := [88, 89, 90, 91, 92, 93, 94, 95, 96, 97, 98, 99, 100, 101, 102, 103, 104, 105, 106, 107, 108, 109, 110, 111, 112, 113, 114, 115, 116, 117, 118, 119, 120, 121, 122].foldl (fun y d => y.setIfInBounds d (vs d)) t0, defers := [] } w) :
  (Code.region 24 ops24 true).wp Tryz.prog Q { tmps := t0, defers := [] } w0 := by
 refine region24 n cap k i G g g2 b off lg lk C1 Ck Ak lt z Q t0 w0 ht hs5 hs9 hs10 hs0 hkn hig hlg hlt hlk hA d1 c1 h1 h2 cm cs ?_
 intro x w hB hdef hsz hs h10
 have hx := frame_sets x.tmps t0 (by omega) [88, 89, 90, 91, 92, 93, 94, 95, 96, 97, 98, 99, 100, 101, 102, 103, 104, 105, 106, 107, 108, 109, 110, 111, 112, 113, 114, 115, 116, 117, 118, 119, 120, 121, 122] (fun s hn => hs s (fun e => hn (by simp only [List.mem_cons, List.mem_nil_iff, or_false]; omega)))
 have hq := hQ (fun d => x.tmps.getD d undef) w hB h10
 obtain ⟨T, Df⟩ := x
 dsimp only at hx hdef hq
 subst hdef
 rw [← hx] at hq
 exact hq
abbrev ops410 : Oper := ⟨some 167, .move (.tmp 0), 47, "apart.go:890", #[], none⟩
abbrev ops411 : Oper := ⟨some 168, .move (.tmp 14), 3, "apart.go:890", #[], none⟩
abbrev ops412 : Oper := ⟨some 169, .indexAddr 47 (.tmp 167) (.tmp 168), 0, "apart.go:890", #[⟨0, .data⟩, ⟨1, .data⟩], none⟩
abbrev ops413 : Oper := ⟨some 170, .load 46 (.tmp 169), 46, "apart.go:890", #[⟨2, .data⟩], none⟩
abbrev ops414 : Oper := ⟨some 171, .move (.tmp 15), 3, "apart.go:890", #[], none⟩
abbrev ops415 : Oper := ⟨some 172, .indexAddr 46 (.tmp 170) (.tmp 171), 0, "apart.go:890", #[⟨3, .data⟩, ⟨4, .data⟩], none⟩
abbrev ops416 : Oper := ⟨some 173, .load 24 (.tmp 172), 24, "apart.go:890", #[⟨5, .data⟩], none⟩
abbrev ops417 : Oper := ⟨some 174, .move (.tmp 14), 3, "apart.go:890", #[], none⟩
abbrev ops418 : Oper := ⟨some 175, .move (.tmp 15), 3, "apart.go:890", #[], none⟩
abbrev ops419 : Oper := ⟨some 176, .call ⟨.value (.func 145), #[.tmp 174, .tmp 175], #[3, 3]⟩, 24, "apart.go:890", #[⟨7, .data⟩, ⟨8, .data⟩], none⟩
abbrev ops4110 : Oper := ⟨some 177, .call ⟨.value (.func 33), #[.tmp 173, .tmp 176], #[24, 24]⟩, 4, "apart.go:890", #[⟨6, .data⟩, ⟨9, .data⟩, ⟨9, .chain⟩], none⟩
abbrev ops4111 : Oper := ⟨some 178, .unOp .not 4 (.tmp 177), 4, "apart.go:890", #[⟨10, .data⟩], none⟩
abbrev ops4112 : Oper := ⟨some 179, .move (.tmp 178), 4, "apart.go:890", #[⟨11, .data⟩, ⟨10, .chain⟩], none⟩
abbrev ops4113 : Oper := ⟨some 180, .move (.tmp 5), 47, "apart.go:890", #[⟨12, .guard⟩], some (12, false)⟩
abbrev ops4114 : Oper := ⟨some 181, .move (.tmp 14), 3, "apart.go:890", #[⟨12, .guard⟩], some (12, false)⟩
abbrev ops4115 : Oper := ⟨some 182, .indexAddr 47 (.tmp 180) (.tmp 181), 0, "apart.go:890", #[⟨13, .data⟩, ⟨14, .data⟩, ⟨12, .guard⟩], some (12, false)⟩
abbrev ops4116 : Oper := ⟨some 183, .load 46 (.tmp 182), 46, "apart.go:890", #[⟨15, .data⟩, ⟨12, .guard⟩], some (12, false)⟩
abbrev ops4117 : Oper := ⟨some 184, .move (.tmp 15), 3, "apart.go:890", #[⟨12, .guard⟩], some (12, false)⟩
abbrev ops4118 : Oper := ⟨some 185, .indexAddr 46 (.tmp 183) (.tmp 184), 0, "apart.go:890", #[⟨16, .data⟩, ⟨17, .data⟩, ⟨12, .guard⟩], some (12, false)⟩
abbrev ops4119 : Oper := ⟨some 186, .load 24 (.tmp 185), 24, "apart.go:890", #[⟨18, .data⟩, ⟨12, .guard⟩], some (12, false)⟩
abbrev ops4120 : Oper := ⟨some 187, .move (.tmp 14), 3, "apart.go:890", #[⟨12, .guard⟩], some (12, false)⟩
abbrev ops4121 : Oper := ⟨some 188, .move (.tmp 15), 3, "apart.go:890", #[⟨12, .guard⟩], some (12, false)⟩
abbrev ops4122 : Oper := ⟨some 189, .call ⟨.value (.func 145), #[.tmp 187, .tmp 188], #[3, 3]⟩, 24, "apart.go:890", #[⟨20, .data⟩, ⟨21, .data⟩, ⟨12, .chain⟩, ⟨12, .guard⟩], some (12, false)⟩
abbrev ops4123 : Oper := ⟨some 190, .call ⟨.value (.func 33), #[.tmp 186, .tmp 189], #[24, 24]⟩, 4, "apart.go:890", #[⟨19, .data⟩, ⟨22, .data⟩, ⟨22, .chain⟩, ⟨12, .guard⟩], some (12, false)⟩
abbrev ops4124 : Oper := ⟨some 191, .unOp .not 4 (.tmp 190), 4, "apart.go:890", #[⟨23, .data⟩, ⟨12, .guard⟩], some (12, false)⟩
abbrev ops4125 : Oper := ⟨some 192, .pick (.tmp 179) (.const (.bool true)) (.tmp 191), 4, "apart.go:890", #[⟨12, .data⟩, ⟨24, .data⟩], none⟩
def ops41 : Array Oper := #[ops410, ops411, ops412, ops413, ops414, ops415, ops416, ops417, ops418, ops419, ops4110, ops4111, ops4112, ops4113, ops4114, ops4115, ops4116, ops4117, ops4118, ops4119, ops4120, ops4121, ops4122, ops4123, ops4124, ops4125]
def slot41 (j : Nat) : Nat := 167 + j
def val41 (n cap k i G g g2 b off lg lk C1 Ck : Nat) (Ak : Option Addr) (lt : Bool) (z : Nat) : Nat → Value → World → Prop
 | 0, v, w => v = .slice (some ⟨b, off, none⟩) n cap
 | 1, v, w => v = .int .i64 (k : Nat)
 | 2, v, w => v = .pointer (some ⟨b, off + k, none⟩)
 | 3, v, w => v = .slice (some ⟨g2, 0, none⟩) lk Ck
 | 4, v, w => v = .int .i64 (i : Nat)
 | 5, v, w => v = .pointer (some ⟨g2, i * 2, none⟩)
 | 6, v, w => ∃ γ, v = .agg #[.int .i64 (z : Nat), .slice none 0 0] ∧ gd w γ k i
 | 7, v, w => v = .int .i64 (k : Nat)
 | 8, v, w => v = .int .i64 (i : Nat)
 | 9, v, w => ∃ γ, v = .agg #[.int .i64 (z : Nat), .slice none 0 0] ∧ gd w γ k i
 | 10, v, w => v = .bool true
 | 11, v, w => v = .bool false
 | 12, v, w => v = .bool false
 | 13, v, w => v = .slice (some ⟨G, 0, none⟩) n n
 | 14, v, w => v = .int .i64 (k : Nat)
 | 15, v, w => v = .pointer (some ⟨G, k, none⟩)
 | 16, v, w => v = .slice (some ⟨g, 0, none⟩) lg C1
 | 17, v, w => v = .int .i64 (i : Nat)
 | 18, v, w => v = .pointer (some ⟨g, i * 2, none⟩)
 | 19, v, w => ∃ γ, v = .agg #[.int .i64 (z : Nat), .slice none 0 0] ∧ gd w γ k i
 | 20, v, w => v = .int .i64 (k : Nat)
 | 21, v, w => v = .int .i64 (i : Nat)
 | 22, v, w => ∃ γ, v = .agg #[.int .i64 (z : Nat), .slice none 0 0] ∧ gd w γ k i
 | 23, v, w => v = .bool true
 | 24, v, w => v = .bool false
 | 25, v, w => v = .bool false
 | _, _, _ => True
theorem val41_below (n cap k i G g g2 b off lg lk C1 Ck : Nat) (Ak : Option Addr) (lt : Bool) (z : Nat) (w w' : World) (hb : Below w.heap.size w w') : ∀ j v, val41 n cap k i G g g2 b off lg lk C1 Ck Ak lt z j v w → val41 n cap k i G g g2 b off lg lk C1 Ck Ak lt z j v w' := by
 intro j v h
 match j, h with
 | 0, h | 1, h | 2, h | 3, h | 4, h | 5, h => exact h
 | 6, h => obtain ⟨γ, h1, h2⟩ := h; exact ⟨γ, h1, gd_below h2 hb⟩
 | 7, h => exact h
 | 8, h => exact h
 | 9, h => obtain ⟨γ, h1, h2⟩ := h; exact ⟨γ, h1, gd_below h2 hb⟩
 | 10, h | 11, h | 12, h | 13, h | 14, h | 15, h | 16, h | 17, h | 18, h => exact h
 | 19, h => obtain ⟨γ, h1, h2⟩ := h; exact ⟨γ, h1, gd_below h2 hb⟩
 | 20, h => exact h
 | 21, h => exact h
 | 22, h => obtain ⟨γ, h1, h2⟩ := h; exact ⟨γ, h1, gd_below h2 hb⟩
 | 23, h | 24, h | 25, h => exact h
 | _ + 26, h => exact h
theorem region41 (n cap k i G g g2 b off lg lk C1 Ck : Nat) (Ak : Option Addr) (lt : Bool) (z : Nat) (Q : Exit → Act → World → Prop) (t0 : Array Value) (w0 : World) (ht : t0.size = 193)
  (hs5 : t0.getD 5 undef = .slice (some ⟨G, 0, none⟩) n n) (hs9 : t0.getD 14 undef = .int .i64 (k : Nat)) (hs10 : t0.getD 15 undef = .int .i64 (i : Nat)) (hs0 : t0.getD 0 undef = .slice (some ⟨b, off, none⟩) n cap)
  (hkn : k < n) (hig : i < lg) (hlg : lg ≤ C1) (hlt : lt = decide (i < lk)) (hlk : lk ≤ Ck) (hA : lt = true → Ak = some ⟨g2, 0, none⟩) (hlt1 : lt = true)
  (d1 : w0.cell? ⟨G, k, none⟩ = some (.slice (some ⟨g, 0, none⟩) lg C1)) (c1 : w0.cell? ⟨b, off + k, none⟩ = some (.slice Ak lk Ck))
  (h1 : ∃ γ, w0.rangeAt g (i * 2) ([.int .i64 (z : Nat), .slice none 0 0]) ∧ gd w0 γ k i) (h2 : lt = true → ∃ γ, w0.rangeAt g2 (i * 2) ([.int .i64 (z : Nat), .slice none 0 0]) ∧ gd w0 γ k i)
  (cm : ∀ W : World, Calls Tryz.prog 145 #[.int .i64 (k : Nat), .int .i64 (i : Nat)] W fun e w' => ∃ γ, e = .returned (.agg #[.int .i64 (z : Nat), .slice none 0 0]) ∧ gd w' γ k i ∧ Below W.heap.size W w')
  (cs : ∀ W : World, Calls Tryz.prog 33 #[.agg #[.int .i64 (z : Nat), .slice none 0 0], .agg #[.int .i64 (z : Nat), .slice none 0 0]] W fun e w' => e = .returned (.bool true) ∧ Below W.heap.size W w')
  (hQ : ∀ (x : Act) (w : World), Below w0.heap.size w0 w → x.defers = [] → x.tmps.size = 193 → (∀ s, ¬ (167 ≤ s ∧ s ≤ 192) → x.tmps.getD s undef = t0.getD s undef) → x.tmps.getD 192 undef = .bool false → Q .normal x w) :
  (Code.region 41 ops41 true).wp Tryz.prog Q { tmps := t0, defers := [] } w0 := by
 have hun : ∀ (x : Act), (∀ s, (∀ j, j < ops41.size → s ≠ slot41 j) → x.tmps.getD s undef = t0.getD s undef) → ∀ s, ¬ (167 ≤ s ∧ s ≤ 192) → x.tmps.getD s undef = t0.getD s undef := by
  intro x h s hs
  refine h s (fun j hj => ?_)
  have hj' : j < 26 := hj
  unfold slot41
  omega
 refine wp_region_inv (by kernel_rfl) slot41 (val41 n cap k i G g g2 b off lg lk C1 Ck Ak lt z) t0 w0 ?_ ?_ ?_ (val41_below n cap k i G g g2 b off lg lk C1 Ck Ak lt z) ?_ ?_
 ·intro j o ho
  have hj : j < 26 := (Array.getElem?_eq_some_iff.1 ho).1
  refine ⟨?_, by rw [ht]; unfold slot41; omega⟩
  match j, ho with
  | 0, ho | 1, ho | 2, ho | 3, ho | 4, ho | 5, ho | 6, ho | 7, ho | 8, ho | 9, ho | 10, ho | 11, ho | 12, ho | 13, ho | 14, ho | 15, ho | 16, ho | 17, ho | 18, ho | 19, ho | 20, ho | 21, ho | 22, ho | 23, ho | 24, ho | 25, ho => cases ho; rfl
  | k + 26, _ => omega
 ·intro i j hi hj h
  unfold slot41 at h
  omega
 ·intro j o ho
  have hj : j < 26 := (Array.getElem?_eq_some_iff.1 ho).1
  match j, ho with
  | 0, ho | 1, ho | 2, ho | 3, ho | 4, ho | 5, ho | 6, ho | 7, ho | 8, ho | 9, ho | 10, ho | 11, ho | 12, ho | 13, ho | 14, ho | 15, ho | 16, ho | 17, ho | 18, ho | 19, ho | 20, ho | 21, ho | 22, ho | 23, ho | 24, ho | 25, ho => cases ho; decide
  | k + 26, _ => omega
 ·intro j o ho x w hB hdef hsz hs hdeps
  have hs' := hun x hs
  have u5 := (hs' 5 (by omega)).trans hs5
  have u9 := (hs' 14 (by omega)).trans hs9
  have u10 := (hs' 15 (by omega)).trans hs10
  have u0 := (hs' 0 (by omega)).trans hs0
  have hj : j < 26 := (Array.getElem?_eq_some_iff.1 ho).1
  have hkI : (k : Int) < (n : Int) := by omega
  have hk0 : (0 : Int) ≤ (k : Int) := by omega
  have hiI : (i : Int) < (lg : Int) := by omega
  have hi0 : (0 : Int) ≤ (i : Int) := by omega
  have HLT := hide hlt
  clear hs hs' hun hs0 hs5 hs9 hs10 hQ hsz ht hlt
  simp only [Array.getD_eq_getD_getElem?] at u0 u5 u9 u10
  match j, ho with
  | 0, ho =>
    have e : o = ops410 := (Option.some.inj ho).symm; unfold ops410 at e
    subst e
    clear hdeps
    refine wpOp_step ho (fun K hK => ?_)
    clear ho
    go_simp
    exact hK _ _ ⟨_, act_put x hdef _ _, rfl, Below.refl _ _⟩
  | 1, ho =>
    have e : o = ops411 := (Option.some.inj ho).symm; unfold ops411 at e
    subst e
    clear hdeps
    refine wpOp_step ho (fun K hK => ?_)
    clear ho
    go_simp
    exact hK _ _ ⟨_, act_put x hdef _ _, rfl, Below.refl _ _⟩
  | 2, ho =>
    have e : o = ops412 := (Option.some.inj ho).symm; unfold ops412 at e
    subst e
    have q0 : x.tmps.getD 167 undef = .slice (some ⟨b, off, none⟩) n cap := hdeps ⟨0, .data⟩ (by simp) rfl
    have q1 : x.tmps.getD 168 undef = .int .i64 (k : Nat) := hdeps ⟨1, .data⟩ (by simp) rfl
    simp only [Array.getD_eq_getD_getElem?] at q0 q1
    clear hdeps
    refine wpOp_step ho (fun K hK => ?_)
    clear ho
    go_simp
    exact hK _ _ ⟨_, act_put x hdef _ _, rfl, Below.refl _ _⟩
  | 3, ho =>
    have e : o = ops413 := (Option.some.inj ho).symm; unfold ops413 at e
    subst e
    have q2 : x.tmps.getD 169 undef = .pointer (some ⟨b, off + k, none⟩) := hdeps ⟨2, .data⟩ (by simp) rfl
    simp only [Array.getD_eq_getD_getElem?] at q2
    clear hdeps
    have c1w := cell_thru c1 hB
    rw [hA hlt1] at c1w
    refine wpOp_step ho (fun K hK => ?_)
    clear ho
    go_simp
    exact hK _ _ ⟨_, act_put x hdef _ _, rfl, Below.refl _ _⟩
  | 4, ho =>
    have e : o = ops414 := (Option.some.inj ho).symm; unfold ops414 at e
    subst e
    clear hdeps
    refine wpOp_step ho (fun K hK => ?_)
    clear ho
    go_simp
    exact hK _ _ ⟨_, act_put x hdef _ _, rfl, Below.refl _ _⟩
  | 5, ho =>
    have e : o = ops415 := (Option.some.inj ho).symm; unfold ops415 at e
    subst e
    have q3 : x.tmps.getD 170 undef = .slice (some ⟨g2, 0, none⟩) lk Ck := hdeps ⟨3, .data⟩ (by simp) rfl
    have q4 : x.tmps.getD 171 undef = .int .i64 (i : Nat) := hdeps ⟨4, .data⟩ (by simp) rfl
    simp only [Array.getD_eq_getD_getElem?] at q3 q4
    clear hdeps
    have hil : i < lk := of_decide_eq_true (HLT.out.symm.trans hlt1)
    have hilI : (i : Int) < (lk : Int) := by omega
    refine wpOp_step ho (fun K hK => ?_)
    clear ho
    go_simp
    exact hK _ _ ⟨_, act_put x hdef _ _, rfl, Below.refl _ _⟩
  | 6, ho =>
    have e : o = ops416 := (Option.some.inj ho).symm; unfold ops416 at e
    subst e
    have q5 : x.tmps.getD 172 undef = .pointer (some ⟨g2, i * 2, none⟩) := hdeps ⟨5, .data⟩ (by simp) rfl
    simp only [Array.getD_eq_getD_getElem?] at q5
    clear hdeps
    obtain ⟨γ, hr, hg⟩ := h2 hlt1
    have k0 : w.cell? ⟨g2, i * 2, none⟩ = some (.int .i64 (z : Nat)) := range_thru hr hB 0 _ rfl
    have k1 : w.cell? ⟨g2, i * 2 + 1, none⟩ = some (.slice none 0 0) := range_thru hr hB 1 _ rfl
    have hg2 := gd_below hg hB
    clear hr hg
    refine wpOp_step ho (fun K hK => ?_)
    clear ho
    go_simp
    exact hK _ _ ⟨_, act_put x hdef _ _, ⟨γ, rfl, hg2⟩, Below.refl _ _⟩
  | 7, ho =>
    have e : o = ops417 := (Option.some.inj ho).symm; unfold ops417 at e
    subst e
    clear hdeps
    refine wpOp_step ho (fun K hK => ?_)
    clear ho
    go_simp
    exact hK _ _ ⟨_, act_put x hdef _ _, rfl, Below.refl _ _⟩
  | 8, ho =>
    have e : o = ops418 := (Option.some.inj ho).symm; unfold ops418 at e
    subst e
    clear hdeps
    refine wpOp_step ho (fun K hK => ?_)
    clear ho
    go_simp
    exact hK _ _ ⟨_, act_put x hdef _ _, rfl, Below.refl _ _⟩
  | 9, ho =>
    have e : o = ops419 := (Option.some.inj ho).symm; unfold ops419 at e
    subst e
    have q7 : x.tmps.getD 174 undef = .int .i64 (k : Nat) := hdeps ⟨7, .data⟩ (by simp) rfl
    have q8 : x.tmps.getD 175 undef = .int .i64 (i : Nat) := hdeps ⟨8, .data⟩ (by simp) rfl
    simp only [Array.getD_eq_getD_getElem?] at q7 q8
    clear hdeps
    refine wpOp_step ho (fun K hK => ?_)
    clear ho
    go_simp
    refine (cm w).mono ?_
    rintro e w' ⟨γ, rfl, hg, hb⟩
    exact hK _ _ ⟨_, act_put x hdef _ _, ⟨γ, rfl, hg⟩, hb⟩
  | 10, ho =>
    have e : o = ops4110 := (Option.some.inj ho).symm; unfold ops4110 at e
    subst e
    obtain ⟨γ6, q6, p6⟩ := hdeps ⟨6, .data⟩ (by simp) rfl
    have q6 : x.tmps.getD 173 undef = .agg #[.int .i64 (z : Nat), .slice none 0 0] := q6
    obtain ⟨γ9, q9, p9⟩ := hdeps ⟨9, .data⟩ (by simp) rfl
    have q9 : x.tmps.getD 176 undef = .agg #[.int .i64 (z : Nat), .slice none 0 0] := q9
    simp only [Array.getD_eq_getD_getElem?] at q6 q9
    clear hdeps
    refine wpOp_step ho (fun K hK => ?_)
    clear ho
    go_simp
    refine (cs w).mono ?_
    rintro e w' ⟨rfl, hb⟩
    exact hK _ _ ⟨_, act_put x hdef _ _, rfl, hb⟩
  | 11, ho =>
    have e : o = ops4111 := (Option.some.inj ho).symm; unfold ops4111 at e
    subst e
    have q10 : x.tmps.getD 177 undef = .bool true := hdeps ⟨10, .data⟩ (by simp) rfl
    simp only [Array.getD_eq_getD_getElem?] at q10
    clear hdeps
    refine wpOp_step ho (fun K hK => ?_)
    clear ho
    go_simp
    exact hK _ _ ⟨_, act_put x hdef _ _, rfl, Below.refl _ _⟩
  | 12, ho =>
    have e : o = ops4112 := (Option.some.inj ho).symm; unfold ops4112 at e
    subst e
    have q11 : x.tmps.getD 178 undef = .bool false := hdeps ⟨11, .data⟩ (by simp) rfl
    simp only [Array.getD_eq_getD_getElem?] at q11
    clear hdeps
    refine wpOp_step ho (fun K hK => ?_)
    clear ho
    go_simp
    exact hK _ _ ⟨_, act_put x hdef _ _, rfl, Below.refl _ _⟩
  | 13, ho =>
    have e : o = ops4113 := (Option.some.inj ho).symm; unfold ops4113 at e
    subst e
    have q12 : x.tmps.getD 179 undef = .bool false := hdeps ⟨12, .guard⟩ (by simp) rfl
    have e12 : (ops41[12]?.bind fun x => x.dst) = some 179 := rfl
    have g12 := get_some q12 (fun h => by cases h)
    simp only [Array.getD_eq_getD_getElem?] at q12
    clear hdeps
    refine wpOp_step ho (fun K hK => ?_)
    clear ho
    go_simp
    exact hK _ _ ⟨_, act_put x hdef _ _, rfl, Below.refl _ _⟩
  | 14, ho =>
    have e : o = ops4114 := (Option.some.inj ho).symm; unfold ops4114 at e
    subst e
    have q12 : x.tmps.getD 179 undef = .bool false := hdeps ⟨12, .guard⟩ (by simp) rfl
    have e12 : (ops41[12]?.bind fun x => x.dst) = some 179 := rfl
    have g12 := get_some q12 (fun h => by cases h)
    simp only [Array.getD_eq_getD_getElem?] at q12
    clear hdeps
    refine wpOp_step ho (fun K hK => ?_)
    clear ho
    go_simp
    exact hK _ _ ⟨_, act_put x hdef _ _, rfl, Below.refl _ _⟩
  | 15, ho =>
    have e : o = ops4115 := (Option.some.inj ho).symm; unfold ops4115 at e
    subst e
    have q13 : x.tmps.getD 180 undef = .slice (some ⟨G, 0, none⟩) n n := hdeps ⟨13, .data⟩ (by simp) rfl
    have q14 : x.tmps.getD 181 undef = .int .i64 (k : Nat) := hdeps ⟨14, .data⟩ (by simp) rfl
    have q12 : x.tmps.getD 179 undef = .bool false := hdeps ⟨12, .guard⟩ (by simp) rfl
    have e12 : (ops41[12]?.bind fun x => x.dst) = some 179 := rfl
    have g12 := get_some q12 (fun h => by cases h)
    simp only [Array.getD_eq_getD_getElem?] at q13 q14 q12
    clear hdeps
    refine wpOp_step ho (fun K hK => ?_)
    clear ho
    go_simp
    exact hK _ _ ⟨_, act_put x hdef _ _, rfl, Below.refl _ _⟩
  | 16, ho =>
    have e : o = ops4116 := (Option.some.inj ho).symm; unfold ops4116 at e
    subst e
    have q15 : x.tmps.getD 182 undef = .pointer (some ⟨G, k, none⟩) := hdeps ⟨15, .data⟩ (by simp) rfl
    have q12 : x.tmps.getD 179 undef = .bool false := hdeps ⟨12, .guard⟩ (by simp) rfl
    have e12 : (ops41[12]?.bind fun x => x.dst) = some 179 := rfl
    have g12 := get_some q12 (fun h => by cases h)
    simp only [Array.getD_eq_getD_getElem?] at q15 q12
    clear hdeps
    have d1w := cell_thru d1 hB
    refine wpOp_step ho (fun K hK => ?_)
    clear ho
    go_simp
    exact hK _ _ ⟨_, act_put x hdef _ _, rfl, Below.refl _ _⟩
  | 17, ho =>
    have e : o = ops4117 := (Option.some.inj ho).symm; unfold ops4117 at e
    subst e
    have q12 : x.tmps.getD 179 undef = .bool false := hdeps ⟨12, .guard⟩ (by simp) rfl
    have e12 : (ops41[12]?.bind fun x => x.dst) = some 179 := rfl
    have g12 := get_some q12 (fun h => by cases h)
    simp only [Array.getD_eq_getD_getElem?] at q12
    clear hdeps
    refine wpOp_step ho (fun K hK => ?_)
    clear ho
    go_simp
    exact hK _ _ ⟨_, act_put x hdef _ _, rfl, Below.refl _ _⟩
  | 18, ho =>
    have e : o = ops4118 := (Option.some.inj ho).symm; unfold ops4118 at e
    subst e
    have q16 : x.tmps.getD 183 undef = .slice (some ⟨g, 0, none⟩) lg C1 := hdeps ⟨16, .data⟩ (by simp) rfl
    have q17 : x.tmps.getD 184 undef = .int .i64 (i : Nat) := hdeps ⟨17, .data⟩ (by simp) rfl
    have q12 : x.tmps.getD 179 undef = .bool false := hdeps ⟨12, .guard⟩ (by simp) rfl
    have e12 : (ops41[12]?.bind fun x => x.dst) = some 179 := rfl
    have g12 := get_some q12 (fun h => by cases h)
    simp only [Array.getD_eq_getD_getElem?] at q16 q17 q12
    clear hdeps
    refine wpOp_step ho (fun K hK => ?_)
    clear ho
    go_simp
    exact hK _ _ ⟨_, act_put x hdef _ _, rfl, Below.refl _ _⟩
  | 19, ho =>
    have e : o = ops4119 := (Option.some.inj ho).symm; unfold ops4119 at e
    subst e
    have q18 : x.tmps.getD 185 undef = .pointer (some ⟨g, i * 2, none⟩) := hdeps ⟨18, .data⟩ (by simp) rfl
    have q12 : x.tmps.getD 179 undef = .bool false := hdeps ⟨12, .guard⟩ (by simp) rfl
    have e12 : (ops41[12]?.bind fun x => x.dst) = some 179 := rfl
    have g12 := get_some q12 (fun h => by cases h)
    simp only [Array.getD_eq_getD_getElem?] at q18 q12
    clear hdeps
    obtain ⟨γ, hr, hg⟩ := h1
    have k0 : w.cell? ⟨g, i * 2, none⟩ = some (.int .i64 (z : Nat)) := range_thru hr hB 0 _ rfl
    have k1 : w.cell? ⟨g, i * 2 + 1, none⟩ = some (.slice none 0 0) := range_thru hr hB 1 _ rfl
    have hg2 := gd_below hg hB
    clear hr hg
    refine wpOp_step ho (fun K hK => ?_)
    clear ho
    go_simp
    exact hK _ _ ⟨_, act_put x hdef _ _, ⟨γ, rfl, hg2⟩, Below.refl _ _⟩
  | 20, ho =>
    have e : o = ops4120 := (Option.some.inj ho).symm; unfold ops4120 at e
    subst e
    have q12 : x.tmps.getD 179 undef = .bool false := hdeps ⟨12, .guard⟩ (by simp) rfl
    have e12 : (ops41[12]?.bind fun x => x.dst) = some 179 := rfl
    have g12 := get_some q12 (fun h => by cases h)
    simp only [Array.getD_eq_getD_getElem?] at q12
    clear hdeps
    refine wpOp_step ho (fun K hK => ?_)
    clear ho
    go_simp
    exact hK _ _ ⟨_, act_put x hdef _ _, rfl, Below.refl _ _⟩
  | 21, ho =>
    have e : o = ops4121 := (Option.some.inj ho).symm; unfold ops4121 at e
    subst e
    have q12 : x.tmps.getD 179 undef = .bool false := hdeps ⟨12, .guard⟩ (by simp) rfl
    have e12 : (ops41[12]?.bind fun x => x.dst) = some 179 := rfl
    have g12 := get_some q12 (fun h => by cases h)
    simp only [Array.getD_eq_getD_getElem?] at q12
    clear hdeps
    refine wpOp_step ho (fun K hK => ?_)
    clear ho
    go_simp
    exact hK _ _ ⟨_, act_put x hdef _ _, rfl, Below.refl _ _⟩
  | 22, ho =>
    have e : o = ops4122 := (Option.some.inj ho).symm; unfold ops4122 at e
    subst e
    have q20 : x.tmps.getD 187 undef = .int .i64 (k : Nat) := hdeps ⟨20, .data⟩ (by simp) rfl
    have q21 : x.tmps.getD 188 undef = .int .i64 (i : Nat) := hdeps ⟨21, .data⟩ (by simp) rfl
    have q12 : x.tmps.getD 179 undef = .bool false := hdeps ⟨12, .guard⟩ (by simp) rfl
    have e12 : (ops41[12]?.bind fun x => x.dst) = some 179 := rfl
    have g12 := get_some q12 (fun h => by cases h)
    simp only [Array.getD_eq_getD_getElem?] at q20 q21 q12
    clear hdeps
    refine wpOp_step ho (fun K hK => ?_)
    clear ho
    go_simp
    refine (cm w).mono ?_
    rintro e w' ⟨γ, rfl, hg, hb⟩
    exact hK _ _ ⟨_, act_put x hdef _ _, ⟨γ, rfl, hg⟩, hb⟩
  | 23, ho =>
    have e : o = ops4123 := (Option.some.inj ho).symm; unfold ops4123 at e
    subst e
    obtain ⟨γ19, q19, p19⟩ := hdeps ⟨19, .data⟩ (by simp) rfl
    have q19 : x.tmps.getD 186 undef = .agg #[.int .i64 (z : Nat), .slice none 0 0] := q19
    obtain ⟨γ22, q22, p22⟩ := hdeps ⟨22, .data⟩ (by simp) rfl
    have q22 : x.tmps.getD 189 undef = .agg #[.int .i64 (z : Nat), .slice none 0 0] := q22
    have q12 : x.tmps.getD 179 undef = .bool false := hdeps ⟨12, .guard⟩ (by simp) rfl
    have e12 : (ops41[12]?.bind fun x => x.dst) = some 179 := rfl
    have g12 := get_some q12 (fun h => by cases h)
    simp only [Array.getD_eq_getD_getElem?] at q19 q22 q12
    clear hdeps
    refine wpOp_step ho (fun K hK => ?_)
    clear ho
    go_simp
    refine (cs w).mono ?_
    rintro e w' ⟨rfl, hb⟩
    exact hK _ _ ⟨_, act_put x hdef _ _, rfl, hb⟩
  | 24, ho =>
    have e : o = ops4124 := (Option.some.inj ho).symm; unfold ops4124 at e
    subst e
    have q23 : x.tmps.getD 190 undef = .bool true := hdeps ⟨23, .data⟩ (by simp) rfl
    have q12 : x.tmps.getD 179 undef = .bool false := hdeps ⟨12, .guard⟩ (by simp) rfl
    have e12 : (ops41[12]?.bind fun x => x.dst) = some 179 := rfl
    have g12 := get_some q12 (fun h => by cases h)
    simp only [Array.getD_eq_getD_getElem?] at q23 q12
    clear hdeps
    refine wpOp_step ho (fun K hK => ?_)
    clear ho
    go_simp
    exact hK _ _ ⟨_, act_put x hdef _ _, rfl, Below.refl _ _⟩
  | 25, ho =>
    have e : o = ops4125 := (Option.some.inj ho).symm; unfold ops4125 at e
    subst e
    have q12 : x.tmps.getD 179 undef = .bool false := hdeps ⟨12, .data⟩ (by simp) rfl
    have q24 : x.tmps.getD 191 undef = .bool false := hdeps ⟨24, .data⟩ (by simp) rfl
    simp only [Array.getD_eq_getD_getElem?] at q12 q24
    clear hdeps
    refine wpOp_step ho (fun K hK => ?_)
    clear ho
    go_simp
    exact hK _ _ ⟨_, act_put x hdef _ _, rfl, Below.refl _ _⟩
  | k + 26, _ => omega
 ·intro x w hB hdef hsz hs hv
  exact hQ x w hB hdef (hsz.trans ht) (hun x hs) (hv 25 (by decide))
theorem region41_lit (n cap k i G g g2 b off lg lk C1 Ck : Nat) (Ak : Option Addr) (lt : Bool) (z : Nat) (Q : Exit → Act → World → Prop) (t0 : Array Value) (w0 : World) (ht : t0.size = 193)
  (hs5 : t0.getD 5 undef = .slice (some ⟨G, 0, none⟩) n n) (hs9 : t0.getD 14 undef = .int .i64 (k : Nat)) (hs10 : t0.getD 15 undef = .int .i64 (i : Nat)) (hs0 : t0.getD 0 undef = .slice (some ⟨b, off, none⟩) n cap)
  (hkn : k < n) (hig : i < lg) (hlg : lg ≤ C1) (hlt : lt = decide (i < lk)) (hlk : lk ≤ Ck) (hA : lt = true → Ak = some ⟨g2, 0, none⟩) (hlt1 : lt = true)
  (d1 : w0.cell? ⟨G, k, none⟩ = some (.slice (some ⟨g, 0, none⟩) lg C1)) (c1 : w0.cell? ⟨b, off + k, none⟩ = some (.slice Ak lk Ck))
  (h1 : ∃ γ, w0.rangeAt g (i * 2) ([.int .i64 (z : Nat), .slice none 0 0]) ∧ gd w0 γ k i) (h2 : lt = true → ∃ γ, w0.rangeAt g2 (i * 2) ([.int .i64 (z : Nat), .slice none 0 0]) ∧ gd w0 γ k i)
  (cm : ∀ W : World, Calls Tryz.prog 145 #[.int .i64 (k : Nat), .int .i64 (i : Nat)] W fun e w' => ∃ γ, e = .returned (.agg #[.int .i64 (z : Nat), .slice none 0 0]) ∧ gd w' γ k i ∧ Below W.heap.size W w')
  (cs : ∀ W : World, Calls Tryz.prog 33 #[.agg #[.int .i64 (z : Nat), .slice none 0 0], .agg #[.int .i64 (z : Nat), .slice none 0 0]] W fun e w' => e = .returned (.bool true) ∧ Below W.heap.size W w')
  (hQ : ∀ (vs : Nat → Value) (w : World), Below w0.heap.size w0 w → vs 192 = .bool false → Q .normal { tmps := [167, 168, 169, 170, 171, 172, 173, 174, 175, 176, 177, 178, 179, 180, 181, 182, 183, 184, 185, 186, 187, 188, 189, 190, 191, 192].foldl (fun y d => y.setIfInBounds d (vs d)) t0, defers := [] } w) :
  (Code.region 41 ops41 true).wp Tryz.prog Q { tmps := t0, defers := [] } w0 := by
 refine region41 n cap k i G g g2 b off lg lk C1 Ck Ak lt z Q t0 w0 ht hs5 hs9 hs10 hs0 hkn hig hlg hlt hlk hA hlt1 d1 c1 h1 h2 cm cs ?_
 intro x w hB hdef hsz hs h10
 have hx := frame_sets x.tmps t0 (by omega) [167, 168, 169, 170, 171, 172, 173, 174, 175, 176, 177, 178, 179, 180, 181, 182, 183, 184, 185, 186, 187, 188, 189, 190, 191, 192] (fun s hn => hs s (fun e => hn (by simp only [List.mem_cons, List.mem_nil_iff, or_false]; omega)))
 have hq := hQ (fun d => x.tmps.getD d undef) w hB h10
 obtain ⟨T, Df⟩ := x
 dsimp only at hx hdef hq
 subst hdef
 rw [← hx] at hq
 exact hq
open Go.RowKit
theorem mkR_one (γ : Nat → Nat) (κ : Nat → Nat × Nat) : ∀ m, ∀ u ∈ mkR γ κ m, u.oneCell' = true
 | 0, u, hu => by cases hu
 | m + 1, u, hu => by
   rcases List.mem_append.1 hu with h | h
   ·exact mkR_one γ κ m u h
   ·exact el_one _ _ _ u h
theorem RowM.glue {w : World} {v : Value} {a c : Nat} {γ1 γ2 : Nat → Nat} {κ1 κ2 : Nat → Nat × Nat} (h : w.ownsRow 0 24 2 v (a + c) (mkR γ1 κ1 a ++ mkR γ2 κ2 c)) (h1 : ∀ i, i < a → gd w (γ1 i) (κ1 i).1 (κ1 i).2) (h2 : ∀ i, i < c → gd w (γ2 i) (κ2 i).1 (κ2 i).2) :
  RowM w v (a + c) (fun j => if j < a then κ1 j else κ2 (j - a)) (a + c) := by
 refine ⟨Nat.le_refl _, fun j => if j < a then γ1 j else γ2 (j - a), [], ?_, fun i hi => ?_⟩
 ·rw [List.append_nil, mkR_add, mkR_congr (γ' := γ1) (κ' := κ1) a (fun i hi => ⟨if_pos hi, if_pos hi⟩)]
  have e : mkR (fun j => (fun j => if j < a then γ1 j else γ2 (j - a)) (a + j)) (fun j => (fun j => if j < a then κ1 j else κ2 (j - a)) (a + j)) c = mkR γ2 κ2 c := mkR_congr c (fun i _ => by
   dsimp only
   rw [if_neg (by omega), if_neg (by omega), Nat.add_sub_cancel_left]
   exact ⟨rfl, rfl⟩)
  rw [e]
  exact h
 ·dsimp only
  by_cases e : i < a
  ·rw [if_pos e, if_pos e]; exact h1 i e
  ·rw [if_neg e, if_neg e]; exact h2 (i - a) (by omega)
def κg (n : Nat) (l : Nat → Nat) (r j : Nat) : Nat × Nat := if j < l r then (r, j) else (r + n, j - l r)
theorem below_undrew {B : Nat} {w w' : World} (h : Below B w.drew w') : Below B w w' := ⟨h.os, h.tape, h.output, h.size, h.block⟩
theorem below_setCells {B b : Nat} {w0 : World} (hB : B ≤ b) : ∀ (vs : List Value) (o : Nat) (w : World), Below B w0 w → Below B w0 (w.setCells b o vs)
 | [], _, _, h => h
 | v :: r, o, _, h => below_setCells hB r (o + 1) _ (h.setCell (p := ⟨b, o, none⟩) hB v)
theorem flat_any (b off n cap : Nat) (A : Nat → Option Addr) (l C : Nat → Nat) (X : Nat → List Value) (w : World) (hn : n ≤ 100000) (hl : ∀ r, r < n → l r ≤ 1000000000000) (ha : Apt n b A l C)
  (hc : ∀ r, r < n → w.cell? ⟨b, off + r, none⟩ = some (fv A l C r)) (ho : ∀ r, r < n → w.ownsRow 0 24 2 (fv A l C r) (l r) (X r)) :
  Calls Tryz.prog 99 #[.slice (some ⟨b, off, none⟩) n cap] w fun e w' => e = .returned (.bool true) ∧ St n A l C l w w' := by
 have HC := hide hc
 have HO := hide ho
 have HL := hide hl
 have HA := hide ha
 clear hc ho hl ha
 obtain ⟨i0, hi, hq0, hq1, hq2⟩ := info_parts info_e
 go_enter Tryz.func99, Tryz.ntmps99
 go_upto_block 0 with fail
 go_cut [] (fun wx => St n A l C l w wx)
 case first =>
  go_wp2_with fail
  go_loopg [3] n (fun q s3 wr => ∃ k : Nat, k + q = n ∧ s3 = .int .i64 (k : Nat) ∧ St n A l C (fun r => if r < k then l r else 0) w wr)
  case atStart => exact ⟨0, by omega, rfl, ⟨Kept.refl _ _, fun r hr => by simpa using RowM.start (HO.out r hr)⟩⟩
  case round =>
   obtain ⟨k, hkq, rfl, hst⟩ := hrel
   have hk0 : (0 : Int) ≤ (k : Int) := by omega
   cases gk with
   | zero =>
     obtain rfl : k = n := by omega
     have hkz : ¬ ((k : Int) < (k : Int)) := by omega
     have HS := hide (hst.congr (M' := l) (fun r hr => if_pos hr))
     clear hst
     go_wp2_with fail
     go_meet
     exact HS.out
   | succ q =>
     have hkz : (k : Int) < (n : Int) := by omega
     have hkn : k < n := by omega
     obtain ⟨wo, rfl⟩ : ∃ wo : World, wo = wr := ⟨_, rfl⟩
     have hst0 : St n A l C (fun r => if r = k then 0 else if r < k then l r else 0) w wo := hst.congr (fun r hr => by
      by_cases e : r = k
      ·subst e; simp
      ·rw [if_neg e])
     have hlk := HL.out k hkn
     clear hst
     have hrow := hst0.row HA.out (HC.out k hkn)
     unfold fv at hrow
     go_wp2_with fail
     go_loopg [4] (l k) (fun q s4 wr => ∃ i : Nat, i + q = l k ∧ s4 = .int .i64 (i : Nat) ∧ St n A l C (fun r => if r = k then i else if r < k then l r else 0) w wr)
     case atStart => exact ⟨0, by omega, rfl, hst0⟩
     case round =>
      obtain ⟨i, hiq, rfl, hst⟩ := hrel
      clear hst0 hrow
      have hi0 : (0 : Int) ≤ (i : Int) := by omega
      have c1 := hst.row HA.out (HC.out k hkn)
      have hown := hst.2 k hkn
      simp only [if_true] at hown
      cases gk with
      | zero =>
        have hil : i = l k := by omega
        have hiz : ¬ ((i : Int) < (l k : Int)) := by omega
        have HS : Hid (St n A l C (fun r => if r < k + 1 then l r else 0) w wr) := hst.congr (fun r hr => by
         by_cases e : r = k
         ·subst e
          rw [if_pos rfl, if_pos (by omega), hil]
         ·rw [if_neg e]
          by_cases e2 : r < k
          ·rw [if_pos e2, if_pos (by omega)]
          ·rw [if_neg e2, if_neg (by omega)])
        unfold fv at c1
        clear hst hown hil
        go_wp2_with fail
        go_roundg q
        case measure => omega
        case rel => exact ⟨k + 1, by omega, by go_num, HS.out⟩
      | succ q2 =>
        have hiz : (i : Int) < (l k : Int) := by omega
        have hil : i < l k := by omega
        obtain ⟨g, C', hv, hlc, hcm⟩ := hown.slice (by omega)
        have hgo : (fv A l C k).ownBlock = some g := by rw [hv]; rfl
        rw [hv] at c1
        have hm := fun W : World => mark_any k i W (by omega) (by omega)
        have HS : Hid (∀ (w' : World) (γ : Nat), Below wr.heap.size wr w' → gd w' γ k i → St n A l C (fun r => if r = k then i + 1 else if r < k then l r else 0) w (w'.setCells g (i * 2) (el γ k i))) := fun w' γ hb hg => by
         have h1 := (hown.below hb).mark (γ0 := γ) hgo hil hg
         have h2 := hst.step HA.out hkn (F := fun x => x = g) ((Kept.of_below (F := fun x => x = g) hb).trans (kept_setCells g (el γ k i) (i * 2) w') (fun _ _ h => h)) (fun x hx => .inl (by have : x = g := hx; rw [this]; exact hgo)) h1
         refine h2.congr (fun r hr => ?_)
         by_cases e : r = k
         ·simp only [if_pos e]
         ·simp only [if_neg e]
        have HT : Hid (∀ w' : World, Below wr.heap.size wr w' → w'.there g (i * 2) 2) := fun w' hb => by
         have h1 := hown.below hb
         rw [hv] at h1
         exact h1.there hil
        have HK : Hid (∀ w' : World, Below wr.drew.heap.size wr.drew w' → Below wr.heap.size wr w') := fun w' h => below_undrew h
        have hgb : ¬ (b = g) := fun e => HA.out.nb k g hkn hgo e.symm
        clear hst hown hv hgo
        go_upto_region 7 with fail
        go_region_held3 (fun w' => w'.cell? ⟨b, off + k, none⟩ = some (.slice (some ⟨g, 0, none⟩) (l k) C')) (first | exact c1 | exact c1m | exact c1s) (first | (go_at_call 145; refine (hm _).mono ?_; rintro e w' ⟨γ, rfl, hg, hbm0⟩; have hbm := HK.out w' hbm0; have c1m := cell_thru c1 hbm; have c1s := (kept_setCells g (el γ k i) (i * 2) w').cell c1m hgb; have hth := HT.out w' hbm; obtain ⟨t0, f0⟩ := hth 0 (by omega); obtain ⟨u0x, t0⟩ := Option.isSome_iff_exists.1 t0; obtain ⟨t1, f1⟩ := hth 1 (by omega); obtain ⟨u1x, t1⟩ := Option.isSome_iff_exists.1 t1; simp only [Nat.add_zero] at t0 f0))
        all_goals
         go_wp2_with fail
         go_roundg q2
         case measure => omega
         case rel => exact ⟨i + 1, by omega, by go_num, HS.out _ _ hbm hg⟩
 case rest =>
  have hst1 := hcut
  have hsw : w.heap.size ≤ wc.heap.size := hst1.1.size
  have hvG : ∀ r g, r < n → (fv A l C r).ownBlock = some g → g ≠ wc.heap.size := fun r g hr hg => by
   have := (owns_cells (HO.out r hr) g hg).1
   omega
  have HVG := hide hvG
  have hmk := fun wx => run_make_row' (P := Tryz.prog) 47 46 (.slice none 0 0) 24 Tryz.underlying47 info_sb rfl .i64 .i64 n (by omega) (by omega) wx
  have HS2 := hide (hst1.below (below_alloc wc (.cells (madeCells #[.slice none 0 0] n) 46)))
  have HG2 : Hid (GS n wc.heap.size A l C w 0 (fun r j => (r, j)) (wc.alloc (.cells (madeCells #[.slice none 0 0] n) 46))) := GS.made w wc
  clear hst1 hcut hvG
  go_upto_block 4 with fail
  clear hmk
  generalize hG : wc.heap.size = G at *
  go_cut [] (fun wx => St n A l C l w wx ∧ GS n G A l C w n (fun r j => (r, j)) wx)
  case first =>
   have HGG := hide hG
   clear hG
   go_wp2_with fail
   go_loopg [6] n (fun q s6 wr => ∃ k : Nat, k + q = n ∧ s6 = .int .i64 (k : Nat) ∧ St n A l C l w wr ∧ GS n G A l C w k (fun r j => (r, j)) wr)
   case atStart => exact ⟨0, by omega, rfl, HS2.out, HG2.out⟩
   case round =>
    obtain ⟨k, hkq, rfl, hst, hgs⟩ := hrel
    have hk0 : (0 : Int) ≤ (k : Int) := by omega
    cases gk with
    | zero =>
      obtain rfl : k = n := by omega
      have hkz : ¬ ((k : Int) < (k : Int)) := by omega
      have HS := hide (And.intro hst hgs)
      clear hst hgs
      go_wp2_with fail
      go_meet
      exact HS.out
    | succ q =>
      have hkz : (k : Int) < (n : Int) := by omega
      have hkn : k < n := by omega
      obtain ⟨wo, rfl⟩ : ∃ wo : World, wo = wr := ⟨_, rfl⟩
      have hlk := HL.out k hkn
      have c1 := hst.row HA.out (HC.out k hkn)
      have HST := hide hst
      have HGS := hide hgs
      have hownk := hst.2 k hkn
      have HOWNK := hide hownk
      have hwo : w.heap.size ≤ wo.heap.size := hst.1.size
      clear hst hgs hownk
      unfold fv at c1
      go_wp2_with fail
      go_loopg [7, 8] 64 (fun q s7 s8 wr => ∃ (i : Nat) (A' : Option Addr) (C' : Nat), i + q = 64 ∧ s8 = .int .i64 (i : Nat) ∧ s7 = .slice A' (l k + i) C' ∧ RowM wr (.slice A' (l k + i) C') (l k + i) (fun j => (k, j)) (l k + i) ∧
       (∀ x, (Value.slice A' (l k + i) C').ownBlock = some x → (fv A l C k).ownBlock = some x ∨ wo.heap.size ≤ x) ∧ Kept (fun x => (fv A l C k).ownBlock = some x) wo wr ∧ RowM wr (fv A l C k) (l k) (fun j => (k, j)) (l k))
      case atStart => exact ⟨0, A k, C k, by omega, rfl, rfl, HOWNK.out, fun x hx => .inl hx, Kept.refl _ _, HOWNK.out⟩
      case round =>
       obtain ⟨i, A', C', hiq, rfl, rfl, hog, hgo, hK, hvk⟩ := hrel
       have hi0 : (0 : Int) ≤ (i : Int) := by omega
       have hbk : ¬ (fv A l C k).ownBlock = some b := fun h => HA.out.nb k b hkn h rfl
       have c2 := hK.cell c1 hbk
       cases gk with
       | zero =>
         obtain rfl : i = 64 := by omega
         have hiz : ¬ ((64 : Int) < (64 : Int)) := by omega
         have hGk : ¬ (fv A l C k).ownBlock = some G := fun h => HVG.out k G hkn h rfl
         have hTk := HOWNK.out.tyF
         have hgs3 := HGS.out.kept hK hGk hTk (fun r g hr h hf => by
          rcases h with h | h
          ·have := HA.out.dist r k g (by omega) hkn h hf
           omega
          ·have := (owns_cells (HO.out k hkn) g hf).1
           omega)
         have hst3 := (HST.out.step HA.out hkn hK (fun g hg => .inl hg) hvk).congr (M' := l) (fun r _ => by
          by_cases e : r = k
          ·rw [if_pos e, e]
          ·rw [if_neg e])
         obtain ⟨u, d1, d2⟩ := hgs3.cell hkn
         have HS : Hid (St n A l C l w (wr.setCell ⟨G, k, none⟩ (.slice A' (l k + 64) C')) ∧ GS n G A l C w (k + 1) (fun r j => (r, j)) (wr.setCell ⟨G, k, none⟩ (.slice A' (l k + 64) C'))) :=
          ⟨hst3.setG hgs3.tyF hsw HVG.out _ _, hgs3.put hkn HVG.out hog (fun g hg => by
           rcases hgo g hg with h | h
           ·exact .inl h
           ·refine .inr ⟨by omega, fun e => ?_⟩
            have := HGS.out.lt
            omega)⟩
         clear hgs3 hst3 hog hgo hK hvk hTk
         go_wp2_with fail
         go_roundg q
         case measure => omega
         case rel => exact ⟨k + 1, by omega, by go_num, HS.out⟩
       | succ q2 =>
         have hiz : (i : Int) < (64 : Int) := by omega
         have hm := fun W : World => mark_any k (l k + i) W (by omega) (by omega)
         rw [Int.natCast_add] at hm
         obtain ⟨_, γ, rest, hog1, hgd⟩ := hog
         have HGO := hide hgo
         have HVK := hide hvk
         have HGD := hide hgd
         have HOG := hide hog1
         clear hog1 hgo hvk hgd
         go_wp2_with (first
          | (go_at_call 145; refine (hm _).mono ?_; rintro e w' ⟨γ0, rfl, hg0, hbm⟩; have hba := below_step hbm (.cells #[.int .i64 (markV k (l k + i) : Nat), .slice none 0 0] 24); have hogA := owns_thruS HOG.out hba; have hn1 := World.news_of_block (heap_alloc_new w' (.cells #[.int .i64 (markV k (l k + i) : Nat), .slice none 0 0] 24)))
          | (at_builtin; go_must (refine wpList_append_keepS _ rfl (.tmp 57) (.tmp 67) 46 rfl 24 i0 (.agg #[.int .i64 0, .slice none 0 0]) 2 32 Tryz.underlying46 hi hq0 hq1 hq2 rfl (by omega) 0 _ (l k + i) _ rfl hogA ⟨w'.heap.size, 0, none⟩ 1 1 (el γ0 k (l k + i)) rfl rfl hn1 (el_one _ _ _) (by unfold maxLen; omega) (by omega) (by omega) ?_); intro A3 C3 w3 hown3 hg3 hold3))
         obtain ⟨e1, e2, e3, e4⟩ := grow_step HVK.out HOG.out (by omega) hK HGO.out hba hg3 hold3
         have hnew := RowM.snoc hown3 (RowM.rest HOG.out) (fun j hj => e4 _ _ _ (gd_below (HGD.out j hj) hba)) (e4 _ _ _ (gd_below hg0 (below_alloc w' _)))
         go_roundg q2
         case measure => omega
         case rel => exact ⟨i + 1, A3, C3, by omega, by go_num, rfl, hnew, e3, e1, e2⟩
  case rest =>
   obtain ⟨hstA, hgsA⟩ := hcut
   have HSA := hide hstA
   have HGA := hide hgsA
   clear hstA hgsA HS2 HG2 hG
   obtain ⟨wA, hwA⟩ : ∃ wA, wc = wA := ⟨_, rfl⟩
   go_upto_block 8 with fail
   go_cut [] (fun wx => St n A l C l w wx ∧ GS n G A l C w n (fun r j => (r, j)) wx)
   case first =>
    clear hwA
    go_wp2_with fail
    go_loopg [9] n (fun q s9 wr => ∃ k : Nat, k + q = n ∧ s9 = .int .i64 (k : Nat) ∧ St n A l C l w wr ∧ GS n G A l C w n (fun r j => (r, j)) wr)
    case atStart => exact ⟨0, by omega, rfl, HSA.out, HGA.out⟩
    case round =>
     obtain ⟨k, hkq, rfl, hst, hgs⟩ := hrel
     have hk0 : (0 : Int) ≤ (k : Int) := by omega
     cases gk with
     | zero =>
       obtain rfl : k = n := by omega
       have hkz : ¬ ((k : Int) < (k : Int)) := by omega
       have HS := hide (And.intro hst hgs)
       clear hst hgs
       go_wp2_with fail
       go_meet
       exact HS.out
     | succ q =>
       have hkz : (k : Int) < (n : Int) := by omega
       have hkn : k < n := by omega
       have hlk := HL.out k hkn
       have HSG := hide (And.intro hst hgs)
       clear hst hgs
       obtain ⟨wo, rfl⟩ : ∃ wo : World, wo = wr := ⟨_, rfl⟩
       go_wp2_with fail
       go_loopg [10] (l k + 64) (fun q s10 wr => ∃ i : Nat, i + q = l k + 64 ∧ s10 = .int .i64 (i : Nat) ∧ St n A l C l w wr ∧ GS n G A l C w n (fun r j => (r, j)) wr)
       case atStart => exact ⟨0, by omega, rfl, HSG.out⟩
       case round =>
        obtain ⟨i, hiq, rfl, hst, hgs⟩ := hrel
        have hi0 : (0 : Int) ≤ (i : Int) := by omega
        have c1 := hst.row HA.out (HC.out k hkn)
        have hownk := hst.2 k hkn
        obtain ⟨A', C', d1, hown⟩ := hgs.get hkn
        have HS : Hid (∀ wx, Below wr.heap.size wr wx → St n A l C l w wx ∧ GS n G A l C w n (fun r j => (r, j)) wx) := fun wx hb => ⟨hst.below hb, hgs.below hb⟩
        have HS0 := hide (And.intro hst hgs)
        unfold fv at c1 hownk
        clear hst hgs
        cases gk with
        | zero =>
          have hiz : ¬ ((i : Int) < (l k : Int) + 64) := by omega
          clear hown hownk
          go_wp2_with fail
          go_roundg q
          case measure => omega
          case rel => exact ⟨k + 1, by omega, by go_num, HS0.out⟩
        | succ q2 =>
          have hiz : (i : Int) < (l k : Int) + 64 := by omega
          obtain ⟨g, C2, hv, hlc, hcm⟩ := hown.slice (by omega)
          injection hv with hA' _ hC'
          subst hA' hC'
          have h1 := hown.at (i := i) (by omega)
          have hm := fun W : World => mark_any k i W (by omega) (by omega)
          have HM := hide hm
          have H1 := hide h1
          obtain ⟨g2, hg2⟩ : ∃ g2, decide (i < l k) = true → A k = some ⟨g2, 0, none⟩ ∧ l k ≤ C k ∧ ∃ γ, wr.rangeAt g2 (i * 2) (el γ k i) ∧ gd wr γ k i := by
           by_cases hlt : i < l k
           ·obtain ⟨g2, C3, hv2, hlc2, hcm2⟩ := hownk.slice (by omega)
            injection hv2 with hAk _ hCk
            rw [hAk] at hownk
            exact ⟨g2, fun _ => ⟨hAk, by omega, hownk.at hlt⟩⟩
           ·exact ⟨0, fun h => absurd (of_decide_eq_true h) hlt⟩
          have hlC : l k ≤ C k := by
           obtain ⟨_, γ, rest, ho1, _⟩ := hownk
           obtain ⟨_, ⟨hv0, h0⟩ | ⟨g', cap', cur', hv0, _, _, hnc, _⟩⟩ := ho1
           ·rw [h0]; exact Nat.zero_le _
           ·injection hv0 with _ _ hC3; omega
          have HG2' := hide hg2
          clear hown hownk h1 hm hg2
          go_upto_region 24 with fail
          go_cut [122] (fun s wx => s = .bool false ∧ Below wr.heap.size wr wx)
          case first =>
           refine region24_lit n cap k i G g g2 b off (l k + 64) (l k) C' (C k) (A k) (decide (i < l k)) (markV k i) _ _ wr rfl rfl rfl rfl rfl hkn (by omega) (by omega) rfl hlC (fun h => (HG2'.out h).1) d1 c1 H1.out (fun h => (HG2'.out h).2.2) HM.out (fun W => same_any k i W (by omega) (by omega)) ?_
           intro vs w' hB' h122
           clear d1 c1
           simp only [List.foldl_cons, List.foldl_nil, List.setIfInBounds_toArray, List.set_cons_succ, List.set_cons_zero, h122]
           clear h122
           generalize vs 88 = v88
           generalize vs 89 = v89
           generalize vs 90 = v90
           generalize vs 91 = v91
           generalize vs 92 = v92
           generalize vs 93 = v93
           generalize vs 94 = v94
           generalize vs 95 = v95
           generalize vs 96 = v96
           generalize vs 97 = v97
           generalize vs 98 = v98
           generalize vs 99 = v99
           generalize vs 100 = v100
           generalize vs 101 = v101
           generalize vs 102 = v102
           generalize vs 103 = v103
           generalize vs 104 = v104
           generalize vs 105 = v105
           generalize vs 106 = v106
           generalize vs 107 = v107
           generalize vs 108 = v108
           generalize vs 109 = v109
           generalize vs 110 = v110
           generalize vs 111 = v111
           generalize vs 112 = v112
           generalize vs 113 = v113
           generalize vs 114 = v114
           generalize vs 115 = v115
           generalize vs 116 = v116
           generalize vs 117 = v117
           generalize vs 118 = v118
           generalize vs 119 = v119
           generalize vs 120 = v120
           generalize vs 121 = v121
           clear vs
           go_wp2_with fail
           go_meet
           exact ⟨rfl, hB'⟩
          case rest =>
           obtain ⟨rfl, hbc⟩ := hcut
           clear d1 c1
           go_wp2_with fail
           go_roundg q2
           case measure => omega
           case rel => exact ⟨i + 1, by omega, by go_num, HS.out _ hbc⟩
   case rest =>
    obtain ⟨hstB, hgsB⟩ := hcut
    have HSB := hide hstB
    have hgsB0 : GS n G A l C w 0 (κg n l) wc := hgsB.less
    have HGB := hide hgsB0
    clear hstB hgsB hgsB0 HSA HGA hwA
    have hmk64 := fun wx => run_make (P := Tryz.prog) wx 46 24 i0 (.agg #[.int .i64 0, .slice none 0 0]) Tryz.underlying46 hi hq0 .i64 .i64 64 64 (by omega) (by omega) (by rw [hq2]; omega) (by omega)
    have hmk2 : ∀ wx, (Instr.makeSlice 46 (.int .i64 64) (.int .i64 64)).run Tryz.prog wx = .ok (.slice (some ⟨wx.heap.size, 0, none⟩) 64 64) (wx.alloc (.cells (madeCells (.agg #[.int .i64 0, .slice none 0 0] : Value).cells (64 * 2)) 24)) := fun wx => by
     have h := hmk64 wx
     rw [hq1] at h
     exact h
    have hmkl : ∀ wx : World, (wx.alloc (.cells (madeCells (.agg #[.int .i64 0, .slice none 0 0] : Value).cells (64 * 2)) 24)).ownsRow 0 24 2 (.slice (some ⟨wx.heap.size, 0, none⟩) 64 64) 64 (madeCells (.agg #[.int .i64 0, .slice none 0 0] : Value).cells (64 * 2)).toList := fun wx =>
     ⟨by rw [Array.length_toList, size_madeCells], .inr ⟨wx.heap.size, 64, _, rfl, Nat.zero_le _, heap_alloc_new _ _, Nat.le_refl _, by unfold maxLen; omega, size_madeCells _ _, by rw [List.take_of_length_le (by rw [Array.length_toList, size_madeCells]; exact Nat.le_refl _)]⟩⟩
    clear hmk64
    generalize hMC : madeCells (.agg #[.int .i64 0, .slice none 0 0] : Value).cells (64 * 2) = MC at hmk2 hmkl
    have HMK := hide hmkl
    clear hMC hmkl
    go_upto_block 12 with fail
    go_cut [] (fun wx => St n A l C l w wx ∧ GS n G A l C w n (κg n l) wx)
    case first =>
     go_wp2_with fail
     go_loopg [11] n (fun q s11 wr => ∃ k : Nat, k + q = n ∧ s11 = .int .i64 (k : Nat) ∧ St n A l C l w wr ∧ GS n G A l C w k (κg n l) wr)
     case atStart => exact ⟨0, by omega, rfl, HSB.out, HGB.out⟩
     case round =>
      obtain ⟨k, hkq, rfl, hst, hgs⟩ := hrel
      have hk0 : (0 : Int) ≤ (k : Int) := by omega
      cases gk with
      | zero =>
        obtain rfl : k = n := by omega
        have hkz : ¬ ((k : Int) < (k : Int)) := by omega
        have HS := hide (And.intro hst hgs)
        clear hst hgs
        go_wp2_with fail
        go_meet
        exact HS.out
      | succ q =>
        have hkz : (k : Int) < (n : Int) := by omega
        have hkn : k < n := by omega
        obtain ⟨wo, rfl⟩ : ∃ wo : World, wo = wr := ⟨_, rfl⟩
        have hlk := HL.out k hkn
        have c1 := hst.row HA.out (HC.out k hkn)
        have HST := hide hst
        have HGS := hide hgs
        have HOWNK := hide (hst.2 k hkn)
        have hwo : w.heap.size ≤ wo.heap.size := hst.1.size
        have HM0 : Hid (RowM (wo.alloc (.cells MC 24)) (.slice (some ⟨wo.heap.size, 0, none⟩) 64 64) 64 (fun j => (k + n, j)) 0) := RowM.start (HMK.out wo)
        have HBA : Hid (Below wo.heap.size wo (wo.alloc (.cells MC 24))) := below_alloc wo _
        clear hst hgs
        unfold fv at c1
        go_wp2_with fail
        go_loopg [13] 64 (fun q s13 wr => ∃ i : Nat, i + q = 64 ∧ s13 = .int .i64 (i : Nat) ∧ RowM wr (.slice (some ⟨wo.heap.size, 0, none⟩) 64 64) 64 (fun j => (k + n, j)) i ∧ Below wo.heap.size wo wr)
        case atStart => exact ⟨0, by omega, rfl, HM0.out, HBA.out⟩
        case round =>
         obtain ⟨i, hiq, rfl, hmany, hbl⟩ := hrel
         have hi0 : (0 : Int) ≤ (i : Int) := by omega
         cases gk with
         | zero =>
           obtain rfl : i = 64 := by omega
           have hiz : ¬ ((64 : Int) < (64 : Int)) := by omega
           obtain ⟨_, γ2, rest2, hm2, hgd2⟩ := hmany
           obtain rfl := RowM.rest hm2
           rw [List.append_nil] at hm2
           have hnews := hm2.cells (g := wo.heap.size) rfl
           have hone := mkR_one γ2 (fun j => (k + n, j)) 64
           have hlen := mkR_len γ2 (fun j => (k + n, j)) 64
           have hokr := HOWNK.out.below hbl
           obtain ⟨_, γ1, rest1, hm1, hgd1⟩ := hokr
           obtain rfl := RowM.rest hm1
           rw [List.append_nil] at hm1
           have c2 := cell_thru c1 hbl
           have HBL := hide hbl
           have hGlt : G < wo.heap.size := HGS.out.lt
           have HGD1 := hide hgd1
           have HGD2 := hide hgd2
           generalize hnw : mkR γ2 (fun j => (k + n, j)) 64 = news at hnews hone hlen
           have HN := hide hnw
           generalize hol : mkR γ1 (fun j => (k, j)) (l k) = olds at hm1
           have HO1 := hide hol
           have hgB : GS n G A l C w k (κg n l) wr := HGS.out.below hbl
           have hGk : ¬ (fv A l C k).ownBlock = some G := fun h => HVG.out k G hkn h rfl
           have hTk : TyF (fun g => (fv A l C k).ownBlock = some g) wr := (HOWNK.out.below hbl).tyF
           have HTK := hide hTk
           have hkG : ∀ w3, Kept (fun x => (fv A l C k).ownBlock = some x) wr w3 → GS n G A l C w k (κg n l) w3 := fun w3 hK => hgB.kept hK hGk HTK.out (fun r g hr h hf => by
            rcases h with h | h
            ·have := HA.out.dist r k g (by omega) hkn h hf
             omega
            ·have := (owns_cells (HO.out k hkn) g hf).1
             omega)
           have HKG := hide hkG
           have HCG : Hid (∀ w3, Kept (fun x => (fv A l C k).ownBlock = some x) wr w3 → ∃ u, w3.cell? ⟨G, k, none⟩ = some u ∧ w3.frozen? ⟨G, k, none⟩ = false) := fun w3 hK => (HKG.out w3 hK).cell hkn
           have HSTB := hide (HST.out.below hbl)
           have HM1 := hide hm1
           have hm1' := hm1
           unfold fv at hm1'
           clear hm2 hbl hnw hol hgB hkG hGk hTk hgd1 hgd2 hm1
           go_wp2_with (at_builtin; go_must (refine wpList_append_keepS _ rfl (.tmp 148) (.tmp 149) 46 rfl 24 i0 (.agg #[.int .i64 0, .slice none 0 0]) 2 32 Tryz.underlying46 hi hq0 hq1 hq2 rfl (by omega) 0 _ (l k) olds rfl hm1' ⟨wo.heap.size, 0, none⟩ 64 64 news rfl hlen hnews hone (by unfold maxLen; omega) (by omega) (by omega) ?_); intro A3 C3 w3 hown3 hg3 hold3; have hK3 := hg3.kept (F := fun x => (fv A l C k).ownBlock = some x) (fun _ h => h); obtain ⟨u3, d1, d2⟩ := HCG.out w3 hK3)
           have hk1 : RowM w3 (fv A l C k) (l k) (fun j => (k, j)) (l k) := ⟨Nat.le_refl _, γ1, [], by rw [List.append_nil, HO1.out]; exact hold3, fun j hj => gd_kept (HGD1.out j hj) hK3 HTK.out⟩
           have hS3 := (HSTB.out.step HA.out hkn hK3 (fun g hg => .inl hg) hk1).congr (M' := l) (fun r _ => by
            by_cases e : r = k
            ·rw [if_pos e, e]
            ·rw [if_neg e])
           rw [← HN.out, ← HO1.out] at hown3
           have hrow3 : RowM w3 (.slice A3 (l k + 64) C3) (l k + 64) (κg n l k) (l k + 64) := RowM.glue hown3 (fun j hj => gd_kept (HGD1.out j hj) hK3 HTK.out) (fun j hj => gd_kept (HGD2.out j hj) hK3 HTK.out)
           have hG3 := (HKG.out w3 hK3).put hkn HVG.out hrow3 (fun g hg => by
            rcases hg3.foot (F := fun x => (fv A l C k).ownBlock = some x) (fun _ h => h) g hg with h | h
            ·exact .inl h
            ·have := HBL.out.size
             exact .inr ⟨by omega, by omega⟩)
           have HS := hide (And.intro (hS3.setG (HKG.out w3 hK3).tyF hsw HVG.out k (.slice A3 (l k + 64) C3)) hG3)
           clear hS3 hG3 hown3 hold3 hrow3 hk1
           go_roundg q
           case measure => omega
           case rel => exact ⟨k + 1, by omega, by go_num, HS.out⟩
         | succ q2 =>
           have hiz : (i : Int) < (64 : Int) := by omega
           have hil : i < 64 := by omega
           have hm := fun W : World => mark_any (k + n) i W (by omega) (by omega)
           rw [Int.natCast_add] at hm
           have HS : Hid (∀ (w' : World) (γ : Nat), Below wr.heap.size wr w' → gd w' γ (k + n) i → RowM (w'.setCells wo.heap.size (i * 2) (el γ (k + n) i)) (.slice (some ⟨wo.heap.size, 0, none⟩) 64 64) 64 (fun j => (k + n, j)) (i + 1) ∧ Below wo.heap.size wo (w'.setCells wo.heap.size (i * 2) (el γ (k + n) i))) := fun w' γ hb hg =>
            ⟨(hmany.below hb).mark (γ0 := γ) rfl hil hg, below_setCells (Nat.le_refl _) _ _ _ (hbl.trans (hb.mono hbl.size))⟩
           have HT : Hid (∀ w' : World, Below wr.heap.size wr w' → w'.there wo.heap.size (i * 2) 2) := fun w' hb => (hmany.below hb).there hil
           clear hmany hbl
           go_wp2_with (go_at_call 145; refine (hm _).mono ?_; rintro e w' ⟨γ, rfl, hg, hbm⟩; have hth := HT.out w' hbm; obtain ⟨t0, f0⟩ := hth 0 (by omega); obtain ⟨u0x, t0⟩ := Option.isSome_iff_exists.1 t0; obtain ⟨t1, f1⟩ := hth 1 (by omega); obtain ⟨u1x, t1⟩ := Option.isSome_iff_exists.1 t1; simp only [Nat.add_zero] at t0 f0)
           go_roundg q2
           case measure => omega
           case rel => exact ⟨i + 1, by omega, by go_num, (HS.out _ _ hbm hg).1, (HS.out _ _ hbm hg).2⟩
    case rest =>
     obtain ⟨hstC, hgsC⟩ := hcut
     have HSC := hide hstC
     have HGC := hide hgsC
     clear hstC hgsC HSB HGB hmk2 HMK
     go_wp2_with fail
     go_loopg [14] n (fun q s14 wr => ∃ k : Nat, k + q = n ∧ s14 = .int .i64 (k : Nat) ∧ St n A l C l w wr ∧ GS n G A l C w n (κg n l) wr)
     case atStart => exact ⟨0, by omega, rfl, HSC.out, HGC.out⟩
     case round =>
      obtain ⟨k, hkq, rfl, hst, hgs⟩ := hrel
      have hk0 : (0 : Int) ≤ (k : Int) := by omega
      cases gk with
      | zero =>
        obtain rfl : k = n := by omega
        have hkz : ¬ ((k : Int) < (k : Int)) := by omega
        have HS := hide hst
        clear hst hgs
        go_wp2_with fail
        go_ret
        exact ⟨rfl, HS.out⟩
      | succ q =>
        have hkz : (k : Int) < (n : Int) := by omega
        have hkn : k < n := by omega
        have hlk := HL.out k hkn
        have HSG := hide (And.intro hst hgs)
        have c0 := hst.row HA.out (HC.out k hkn)
        unfold fv at c0
        clear hst hgs
        obtain ⟨wo, rfl⟩ : ∃ wo : World, wo = wr := ⟨_, rfl⟩
        go_wp2_with fail
        go_loopg [15] (l k) (fun q s15 wr => ∃ i : Nat, i + q = l k ∧ s15 = .int .i64 (i : Nat) ∧ St n A l C l w wr ∧ GS n G A l C w n (κg n l) wr)
        case atStart => exact ⟨0, by omega, rfl, HSG.out⟩
        case round =>
         obtain ⟨i, hiq, rfl, hst, hgs⟩ := hrel
         clear c0
         have hi0 : (0 : Int) ≤ (i : Int) := by omega
         have c1 := hst.row HA.out (HC.out k hkn)
         have hownk := hst.2 k hkn
         obtain ⟨A', C', d1, hown⟩ := hgs.get hkn
         have HS : Hid (∀ wx, Below wr.heap.size wr wx → St n A l C l w wx ∧ GS n G A l C w n (κg n l) wx) := fun wx hb => ⟨hst.below hb, hgs.below hb⟩
         have HS0 := hide (And.intro hst hgs)
         unfold fv at c1 hownk
         clear hst hgs
         cases gk with
         | zero =>
           have hiz : ¬ ((i : Int) < (l k : Int)) := by omega
           clear hown hownk
           go_wp2_with fail
           go_roundg q
           case measure => omega
           case rel => exact ⟨k + 1, by omega, by go_num, HS0.out⟩
         | succ q2 =>
           have hiz : (i : Int) < (l k : Int) := by omega
           have hlt : i < l k := by omega
           obtain ⟨g, C2, hv, hlc, hcm⟩ := hown.slice (by omega)
           injection hv with hA' _ hC'
           subst hA' hC'
           have h1 := hown.at (i := i) (by omega)
           have ek : κg n l k i = (k, i) := if_pos hlt
           rw [ek] at h1
           have hm := fun W : World => mark_any k i W (by omega) (by omega)
           obtain ⟨g2, C3, hv2, hlc2, hcm2⟩ := hownk.slice (by omega)
           injection hv2 with hAk _ hCk
           rw [hAk] at hownk
           have h2 := hownk.at hlt
           have hlC : l k ≤ C k := by omega
           have HM := hide hm
           have H1 := hide h1
           have H2 := hide h2
           have HAK := hide hAk
           have ht : (true : Bool) = decide (i < l k) := (decide_eq_true hlt).symm
           have HT := hide ht
           clear hown hownk h1 h2 hm ek hAk hCk hlc2 hcm2 ht
           go_upto_region 41 with fail
           go_cut [192] (fun s wx => s = .bool false ∧ Below wr.heap.size wr wx)
           case first =>
            refine region41_lit n cap k i G g g2 b off (l k + 64) (l k) C' (C k) (A k) true (markV k i) _ _ wr rfl rfl rfl rfl rfl hkn (by omega) (by omega) HT.out hlC (fun _ => HAK.out) rfl d1 c1 H1.out (fun _ => H2.out) HM.out (fun W => same_any k i W (by omega) (by omega)) ?_
            intro vs w' hB' h192
            clear d1 c1
            simp only [List.foldl_cons, List.foldl_nil, List.setIfInBounds_toArray, List.set_cons_succ, List.set_cons_zero, h192]
            clear h192
            generalize vs 167 = v167
            generalize vs 168 = v168
            generalize vs 169 = v169
            generalize vs 170 = v170
            generalize vs 171 = v171
            generalize vs 172 = v172
            generalize vs 173 = v173
            generalize vs 174 = v174
            generalize vs 175 = v175
            generalize vs 176 = v176
            generalize vs 177 = v177
            generalize vs 178 = v178
            generalize vs 179 = v179
            generalize vs 180 = v180
            generalize vs 181 = v181
            generalize vs 182 = v182
            generalize vs 183 = v183
            generalize vs 184 = v184
            generalize vs 185 = v185
            generalize vs 186 = v186
            generalize vs 187 = v187
            generalize vs 188 = v188
            generalize vs 189 = v189
            generalize vs 190 = v190
            generalize vs 191 = v191
            clear vs
            go_wp2_with fail
            go_meet
            exact ⟨rfl, hB'⟩
           case rest =>
            obtain ⟨rfl, hbc⟩ := hcut
            clear d1 c1
            go_wp2_with fail
            go_roundg q2
            case measure => omega
            case rel => exact ⟨i + 1, by omega, by go_num, HS.out _ hbc⟩
end Go.Proofs.YtppdbinppibjhaaGreatDoor.ManifestFlat
