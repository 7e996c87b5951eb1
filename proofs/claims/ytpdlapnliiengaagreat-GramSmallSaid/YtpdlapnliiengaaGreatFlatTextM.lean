/-
  What rows of api.Text hold that are asked whether they lie apart.
-/
import Derived.Test.YtpdlapnliiengaaGreatFlatMs
import Derived.Test.YtpdlapnliiengaaGreatRows2
import Derived.Test.YtpdlapnliiengaaGreatMarkT
namespace Go.Proofs.YtpdlapnliiengaaGreat.TextFlat
open Go.RowKit
set_option linter.unusedVariables false

/-- The cells of the mark of place i of list k. -/
def el (γ k i : Nat) : List Value := [.string (markT k i)]
/-- What it leans on. -/
def gd (w : World) (γ k i : Nat) : Prop := True
theorem el_len (γ k i : Nat) : (el γ k i).length = 1 := rfl
theorem el_one (γ k i : Nat) : ∀ u ∈ el γ k i, u.oneCell' = true := by
  intro u hu
  have h : (el γ k i).all (·.oneCell') = true := rfl
  exact List.all_eq_true.1 h u hu
/-- Blocks of such elements, or of lists of them. -/
def TyF (F : Nat → Prop) (w : World) : Prop := ∀ g c t fr, F g → w.heap[g]? = some (.cells c t fr) → t = 9 ∨ t = 29
theorem gd_kept {F : Nat → Prop} {w w' : World} {γ k i : Nat} (h : gd w γ k i) (hk : Kept F w w') (hF : TyF F w) : gd w' γ k i := by
  trivial
theorem tyF_none (w : World) : TyF (fun _ => False) w := fun _ _ _ _ h => h.elim
theorem gd_below {w w' : World} {γ k i : Nat} (h : gd w γ k i) (hb : Below w.heap.size w w') : gd w' γ k i := gd_kept h (Kept.of_below (F := fun _ => False) hb) (tyF_none w)

/-- The first m marks. -/
def mkR (γ : Nat → Nat) (κ : Nat → Nat × Nat) : Nat → List Value
  | 0 => []
  | m + 1 => mkR γ κ m ++ el (γ m) (κ m).1 (κ m).2
theorem mkR_len (γ : Nat → Nat) (κ : Nat → Nat × Nat) : ∀ m, (mkR γ κ m).length = m * 1
  | 0 => by simp [mkR]
  | m + 1 => by
    show (mkR γ κ m ++ el (γ m) (κ m).1 (κ m).2).length = _
    rw [List.length_append, mkR_len γ κ m, el_len, Nat.succ_mul]
theorem mkR_congr {γ γ' : Nat → Nat} {κ κ' : Nat → Nat × Nat} : ∀ m, (∀ i, i < m → γ i = γ' i ∧ κ i = κ' i) → mkR γ κ m = mkR γ' κ' m
  | 0, _ => rfl
  | m + 1, h => by
    show mkR γ κ m ++ el (γ m) (κ m).1 (κ m).2 = mkR γ' κ' m ++ el (γ' m) (κ' m).1 (κ' m).2
    rw [mkR_congr m (fun i hi => h i (by omega)), (h m (by omega)).1, (h m (by omega)).2]
theorem mkR_get (γ : Nat → Nat) (κ : Nat → Nat × Nat) (i j : Nat) (hj : j < 1) : ∀ m, i < m → (mkR γ κ m)[i * 1 + j]? = (el (γ i) (κ i).1 (κ i).2)[j]?
  | m + 1, h => by
    show (mkR γ κ m ++ el (γ m) (κ m).1 (κ m).2)[i * 1 + j]? = _
    have hl := mkR_len γ κ m
    by_cases e : i = m
    · subst e
      rw [List.getElem?_append_right (by omega), hl, Nat.add_sub_cancel_left]
    · have h1 : (i + 1) * 1 ≤ m * 1 := Nat.mul_le_mul_right _ (by omega)
      rw [List.getElem?_append_left (by omega)]
      exact mkR_get γ κ i j hj m (by omega)
theorem mkR_add (γ : Nat → Nat) (κ : Nat → Nat × Nat) (a : Nat) : ∀ b, mkR γ κ (a + b) = mkR γ κ a ++ mkR (fun j => γ (a + j)) (fun j => κ (a + j)) b
  | 0 => by simp [mkR]
  | b + 1 => by
    show mkR γ κ (a + b) ++ el (γ (a + b)) (κ (a + b)).1 (κ (a + b)).2 = _
    rw [mkR_add γ κ a b, List.append_assoc]
    rfl

/-- A row, its first m places marked. -/
def RowM (w : World) (v : Value) (len : Nat) (κ : Nat → Nat × Nat) (m : Nat) : Prop := m ≤ len ∧ ∃ γ rest, w.ownsRow 0 9 1 v len (mkR γ κ m ++ rest) ∧ ∀ i, i < m → gd w (γ i) (κ i).1 (κ i).2
section
variable {w w' : World} {v : Value} {len m b : Nat} {κ κ' : Nat → Nat × Nat}
theorem RowM.kept {F : Nat → Prop} (h : RowM w v len κ m) (hk : Kept F w w') (hv : ∀ g, v.ownBlock = some g → ¬ F g) (hF : TyF F w) : RowM w' v len κ m := by
  obtain ⟨hm, γ, rest, h1, h2⟩ := h
  exact ⟨hm, γ, rest, owns_keptS h1 hk hv, fun i hi => gd_kept (h2 i hi) hk hF⟩
theorem RowM.below (h : RowM w v len κ m) (hb : Below w.heap.size w w') : RowM w' v len κ m := h.kept (Kept.of_below (F := fun _ => False) hb) (fun _ _ h => h) (tyF_none w)
theorem RowM.drewN (h : RowM w v len κ m) (j : Nat) : RowM (w.drewN j) v len κ m := h.below (below_drewN (Below.refl _ _) j)
theorem RowM.start {xs : List Value} (h : w.ownsRow 0 9 1 v len xs) : RowM w v len κ 0 := ⟨Nat.zero_le _, fun _ => 0, xs, h, fun i hi => absurd hi (Nat.not_lt_zero _)⟩
theorem RowM.congr (h : RowM w v len κ m) (e : ∀ i, i < m → κ i = κ' i) : RowM w v len κ' m := by
  obtain ⟨hm, γ, rest, h1, h2⟩ := h
  refine ⟨hm, γ, rest, ?_, fun i hi => by rw [← e i hi]; exact h2 i hi⟩
  rw [mkR_congr (γ' := γ) (κ' := κ') m (fun i hi => ⟨rfl, e i hi⟩)] at h1
  exact h1
theorem RowM.block (h : RowM w v len κ m) (hb : v.ownBlock = some b) : b < w.heap.size ∧ ∃ cur, w.heap[b]? = some (.cells cur 9 (0, 0)) := by
  obtain ⟨hm, γ, rest, h1, h2⟩ := h
  exact ⟨(owns_cells h1 b hb).1, (owns_cells h1 b hb).2.2⟩
theorem RowM.tyF (h : RowM w v len κ m) : TyF (fun g => v.ownBlock = some g) w := fun g c t fr hg hc => by
  obtain ⟨_, cur, h1⟩ := h.block hg
  rw [h1] at hc
  cases hc
  exact .inl rfl
theorem RowM.slice (h : RowM w v len κ m) (hl : 0 < len) : ∃ b C, v = .slice (some ⟨b, 0, none⟩) len C ∧ len ≤ C ∧ C ≤ 9223372036854775807 := by
  obtain ⟨hm, γ, rest, h1, h2⟩ := h
  have hx := h1.1
  have hp : 0 < len * 1 := by omega
  obtain ⟨b, C, hv, _, _, h3, h4⟩ := owns_cellS h1 (List.getElem?_eq_getElem (show 0 < (mkR γ κ m ++ rest).length by omega))
  exact ⟨b, C, hv, h3, h4⟩
/-- The cells of a place: they are there. -/
theorem RowM.there {C : Nat} (h : RowM w (.slice (some ⟨b, 0, none⟩) len C) len κ m) {i : Nat} (hi : i < len) : w.there b (i * 1) 1 := fun j hj => by
  obtain ⟨hm, γ, rest, h1, h2⟩ := h
  have hx := h1.1
  have hp : (i + 1) * 1 ≤ len * 1 := Nat.mul_le_mul_right _ hi
  obtain ⟨b', C', hv, h3, h4, _, _⟩ := owns_cellS h1 (List.getElem?_eq_getElem (show i * 1 + j < (mkR γ κ m ++ rest).length by omega))
  cases hv
  exact ⟨by rw [h3]; rfl, h4⟩
/-- A marked place. -/
theorem RowM.at {C : Nat} (h : RowM w (.slice (some ⟨b, 0, none⟩) len C) len κ m) {i : Nat} (hi : i < m) : ∃ γ, w.rangeAt b (i * 1) (el γ (κ i).1 (κ i).2) ∧ gd w γ (κ i).1 (κ i).2 := by
  obtain ⟨hm, γ, rest, h1, h2⟩ := h
  refine ⟨γ i, fun j u hj => ?_, h2 i hi⟩
  have hjs : j < 1 := by have := (List.getElem?_eq_some_iff.1 hj).1; rwa [el_len] at this
  have hp : (i + 1) * 1 ≤ m * 1 := Nat.mul_le_mul_right _ hi
  have hl := mkR_len γ κ m
  have hg : (mkR γ κ m ++ rest)[i * 1 + j]? = some u := by
    rw [List.getElem?_append_left (by omega), mkR_get γ κ i j hjs m hi]; exact hj
  obtain ⟨b', C', hv, h3, _, _, _⟩ := owns_cellS h1 hg
  cases hv
  exact h3
/-- One more is marked. -/
theorem RowM.mark {γ0 : Nat} (h : RowM w v len κ m) (hb : v.ownBlock = some b) (hm : m < len) (hg : gd w γ0 (κ m).1 (κ m).2) : RowM (w.setCells b (m * 1) (el γ0 (κ m).1 (κ m).2)) v len κ (m + 1) := by
  have hblk := (h.block hb).2
  obtain ⟨_, γ, rest, h1, h2⟩ := h
  have hl := mkR_len γ κ m
  have hx := h1.1
  rw [List.length_append, hl] at hx
  have hp : (m + 1) * 1 ≤ len * 1 := Nat.mul_le_mul_right _ hm
  have h3 := owns_setCells hb (el γ0 (κ m).1 (κ m).2) (m * 1) w _ h1
  rw [← hl, setL_eq _ _ _ (by rw [el_len]; omega), hl] at h3
  have hT : TyF (fun g => g = b) w := fun g c t fr hg hc => by
    obtain ⟨cur, h5⟩ := hblk
    have hg' : g = b := hg
    subst hg'
    rw [h5] at hc
    cases hc
    exact .inl rfl
  have hk := kept_setCells b (el γ0 (κ m).1 (κ m).2) (m * 1) w
  refine ⟨hm, fun j => if j = m then γ0 else γ j, rest.drop 1, ?_, fun i hi => ?_⟩
  · have e : mkR (fun j => if j = m then γ0 else γ j) κ (m + 1) = mkR γ κ m ++ el γ0 (κ m).1 (κ m).2 := by
      show mkR _ κ m ++ el (if m = m then γ0 else γ m) (κ m).1 (κ m).2 = _
      rw [if_pos rfl, mkR_congr (γ' := γ) (κ' := κ) m (fun i hi => ⟨if_neg (by omega), rfl⟩)]
    rw [e]
    exact h3
  · dsimp only
    by_cases e : i = m
    · subst e
      rw [if_pos rfl]
      exact gd_kept hg hk hT
    · rw [if_neg e]
      exact gd_kept (h2 i (by omega)) hk hT
/-- One more is appended. -/
theorem RowM.snoc {v' : Value} {γ : Nat → Nat} {γ0 : Nat} {rest : List Value} (hown : w.ownsRow 0 9 1 v' (len + 1) ((mkR γ κ len ++ rest) ++ el γ0 (κ len).1 (κ len).2)) (hr : rest = []) (h2 : ∀ i, i < len → gd w (γ i) (κ i).1 (κ i).2) (hg : gd w γ0 (κ len).1 (κ len).2) : RowM w v' (len + 1) κ (len + 1) := by
  subst hr
  refine ⟨Nat.le_refl _, fun j => if j = len then γ0 else γ j, [], ?_, fun i hi => ?_⟩
  · have e : mkR (fun j => if j = len then γ0 else γ j) κ (len + 1) = mkR γ κ len ++ el γ0 (κ len).1 (κ len).2 := by
      show mkR _ κ len ++ el (if len = len then γ0 else γ len) (κ len).1 (κ len).2 = _
      rw [if_pos rfl, mkR_congr (γ' := γ) (κ' := κ) len (fun i hi => ⟨if_neg (by omega), rfl⟩)]
    rw [e]
    simpa using hown
  · dsimp only
    by_cases e : i = len
    · subst e
      rw [if_pos rfl]
      exact hg
    · rw [if_neg e]
      exact h2 i (by omega)
theorem RowM.rest {γ : Nat → Nat} {rest : List Value} (h : w.ownsRow 0 9 1 v len (mkR γ κ len ++ rest)) : rest = [] := by
  have hx := h.1
  rw [List.length_append, mkR_len] at hx
  exact List.eq_nil_of_length_eq_zero (by omega)
end

/-- The lists. -/
def St (n : Nat) (A : Nat → Option Addr) (l C : Nat → Nat) (M : Nat → Nat) (w wx : World) : Prop := Kept (FF n A l C) w wx ∧ ∀ r, r < n → RowM wx (fv A l C r) (l r) (fun i => (r, i)) (M r)
section
variable {n b : Nat} {A : Nat → Option Addr} {l C : Nat → Nat} {M M' : Nat → Nat} {w wx wy : World}
theorem St.congr (h : St n A l C M w wx) (e : ∀ r, r < n → M r = M' r) : St n A l C M' w wx := ⟨h.1, fun r hr => by rw [← e r hr]; exact h.2 r hr⟩
theorem St.below (h : St n A l C M w wx) (hb : Below wx.heap.size wx wy) : St n A l C M w wy := ⟨h.1.trans (Kept.of_below (F := fun _ => False) hb) (fun _ _ h => h.elim), fun r hr => (h.2 r hr).below hb⟩
theorem St.row (h : St n A l C M w wx) (ha : Apt n b A l C) {off r : Nat} (hc : w.cell? ⟨b, off + r, none⟩ = some (fv A l C r)) : wx.cell? ⟨b, off + r, none⟩ = some (fv A l C r) := h.1.cell hc (FF.not_b ha)
/-- One of them is known anew, where its block alone may have turned. -/
theorem St.step {F : Nat → Prop} {k m' : Nat} (h : St n A l C M w wx) (ha : Apt n b A l C) (hk : k < n) (hK : Kept F wx wy) (hF : ∀ g, F g → (fv A l C k).ownBlock = some g ∨ wx.heap.size ≤ g) (hrow : RowM wy (fv A l C k) (l k) (fun i => (k, i)) m') : St n A l C (fun r => if r = k then m' else M r) w wy := by
  have hs := h.1.size
  refine ⟨h.1.trans hK (fun j hj hf => ?_), fun r hr => ?_⟩
  · rcases hF j hf with h1 | h1
    · exact ⟨k, hk, h1⟩
    · omega
  · by_cases e : r = k
    · subst e; dsimp only; rw [if_pos rfl]; exact hrow
    · dsimp only
      rw [if_neg e]
      refine (h.2 r hr).kept hK (fun g hg hf => ?_) (fun g c t fr hf hc => ?_)
      · rcases hF g hf with h1 | h1
        · exact e (ha.dist r k g hr hk hg h1)
        · have := ((h.2 r hr).block hg).1
          omega
      · rcases hF g hf with h1 | h1
        · exact (h.2 k hk).tyF g c t fr h1 hc
        · have := block_lt hc
          omega
end

/-- What the list at G holds of the grown ones: the first m. -/
def GS (n G : Nat) (A : Nat → Option Addr) (l C : Nat → Nat) (w : World) (m : Nat) (κ : Nat → Nat → Nat × Nat) (wx : World) : Prop :=
  ∃ cur : Array Value, wx.heap[G]? = some (.cells cur 29 (0, 0)) ∧ cur.size = n ∧ ∀ r, r < m → ∃ A' C', cur[r]? = some (.slice A' (l r + 64) C') ∧ RowM wx (.slice A' (l r + 64) C') (l r + 64) (κ r) (l r + 64) ∧
    ∀ g, (Value.slice A' (l r + 64) C').ownBlock = some g → (fv A l C r).ownBlock = some g ∨ (w.heap.size ≤ g ∧ g ≠ G)
section
variable {n b G k m : Nat} {A : Nat → Option Addr} {l C : Nat → Nat} {M : Nat → Nat} {κ κ' : Nat → Nat → Nat × Nat} {w wx wy : World}
theorem GS.tyF (h : GS n G A l C w m κ wx) : TyF (fun g => g = G) wx := fun g c t fr hg hc => by
  obtain ⟨cur, h1, _⟩ := h
  have hg' : g = G := hg
  subst hg'
  rw [h1] at hc
  cases hc
  exact .inr rfl
theorem GS.lt (h : GS n G A l C w m κ wx) : G < wx.heap.size := by obtain ⟨cur, h1, _⟩ := h; exact block_lt h1
theorem GS.kept {F : Nat → Prop} (h : GS n G A l C w m κ wx) (hk : Kept F wx wy) (hG : ¬ F G) (hF : TyF F wx) (hd : ∀ r g, r < m → ((fv A l C r).ownBlock = some g ∨ (w.heap.size ≤ g ∧ g ≠ G ∧ g < wx.heap.size)) → ¬ F g) : GS n G A l C w m κ wy := by
  obtain ⟨cur, h1, h2, h3⟩ := h
  refine ⟨cur, hk.heap h1 hG, h2, fun r hr => ?_⟩
  obtain ⟨A', C', h4, h5, h6⟩ := h3 r hr
  refine ⟨A', C', h4, h5.kept hk (fun g hg => ?_) hF, h6⟩
  have hlt := (h5.block hg).1
  rcases h6 g hg with h7 | h7
  · exact hd r g hr (.inl h7)
  · exact hd r g hr (.inr ⟨h7.1, h7.2, hlt⟩)
theorem GS.below (h : GS n G A l C w m κ wx) (hb : Below wx.heap.size wx wy) : GS n G A l C w m κ wy := h.kept (Kept.of_below (F := fun _ => False) hb) (fun h => h) (tyF_none _) (fun _ _ _ _ h => h)
theorem GS.put (h : GS n G A l C w k κ wx) (hkn : k < n) (hvG : ∀ r g, r < n → (fv A l C r).ownBlock = some g → g ≠ G) {A' : Option Addr} {C' : Nat} (hu : RowM wx (.slice A' (l k + 64) C') (l k + 64) (κ k) (l k + 64))
    (ho : ∀ g, (Value.slice A' (l k + 64) C').ownBlock = some g → (fv A l C k).ownBlock = some g ∨ (w.heap.size ≤ g ∧ g ≠ G)) : GS n G A l C w (k + 1) κ (wx.setCell ⟨G, k, none⟩ (.slice A' (l k + 64) C')) := by
  have hT := h.tyF
  have hK : Kept (fun g => g = G) wx (wx.setCell ⟨G, k, none⟩ (.slice A' (l k + 64) C')) := (Kept.refl (fun g => g = G) wx).setCell (.inl rfl) _
  obtain ⟨cur, h1, h2, h3⟩ := h
  have hne : ∀ r g, r < n → ((fv A l C r).ownBlock = some g ∨ (w.heap.size ≤ g ∧ g ≠ G)) → g ≠ G := fun r g hr h => h.elim (hvG r g hr) (fun h => h.2)
  refine ⟨_, heap_setCell_same _ G k cur _ _ h1, by rw [Array.size_setIfInBounds]; exact h2, fun r hr => ?_⟩
  by_cases e : r = k
  · subst e
    exact ⟨A', C', by simp [h2, hkn], hu.kept hK (fun g hg e => hne r g hkn (ho g hg) e) hT, ho⟩
  · obtain ⟨A2, C2, h4, h5, h6⟩ := h3 r (by omega)
    refine ⟨A2, C2, ?_, h5.kept hK (fun g hg e2 => hne r g (by omega) (h6 g hg) e2) hT, h6⟩
    rw [Array.getElem?_setIfInBounds, if_neg (fun h => e h.symm)]
    exact h4
theorem GS.cell (h : GS n G A l C w m κ wx) (hkn : k < n) : ∃ u, wx.cell? ⟨G, k, none⟩ = some u ∧ wx.frozen? ⟨G, k, none⟩ = false := by
  obtain ⟨cur, h1, h2, h3⟩ := h
  refine ⟨cur[k]'(by omega), ?_, frozen_of_row _ _ _ _ _ h1⟩
  rw [cell_of_row _ _ _ _ _ _ h1]
  simp [show k < cur.size by omega]
theorem GS.get (h : GS n G A l C w m κ wx) {r : Nat} (hr : r < m) : ∃ A' C', wx.cell? ⟨G, r, none⟩ = some (.slice A' (l r + 64) C') ∧ RowM wx (.slice A' (l r + 64) C') (l r + 64) (κ r) (l r + 64) := by
  obtain ⟨cur, h1, h2, h3⟩ := h
  obtain ⟨A', C', h4, h5, _⟩ := h3 r hr
  exact ⟨A', C', by rw [cell_of_row _ _ _ _ _ _ h1]; exact h4, h5⟩
theorem GS.less (h : GS n G A l C w m κ wx) : GS n G A l C w 0 κ' wx := by
  obtain ⟨cur, h1, h2, _⟩ := h
  exact ⟨cur, h1, h2, fun r hr => by omega⟩
theorem St.setG (h : St n A l C M w wx) (hT : TyF (fun g => g = G) wx) (hG : w.heap.size ≤ G) (hvG : ∀ r g, r < n → (fv A l C r).ownBlock = some g → g ≠ G) (i : Nat) (u : Value) : St n A l C M w (wx.setCell ⟨G, i, none⟩ u) :=
  ⟨h.1.setCell (.inr hG) u, fun r hr => (h.2 r hr).kept ((Kept.refl (fun g => g = G) wx).setCell (p := ⟨G, i, none⟩) (.inl rfl) u) (fun g hg e => hvG r g hr hg e) hT⟩
theorem GS.made {n : Nat} {A : Nat → Option Addr} {l C : Nat → Nat} {κ : Nat → Nat → Nat × Nat} (w wx : World) : GS n wx.heap.size A l C w 0 κ (wx.alloc (.cells (madeCells #[.slice none 0 0] n) 29)) := by
  refine ⟨_, heap_alloc_new _ _, ?_, fun r hr => by omega⟩
  rw [← Array.length_toList, toList_madeCells_one, List.length_replicate]
/-- A list that has been grown by one more. -/
theorem grow_step {wk wr wa w2 : World} {vk gv gv' : Value} {nk ng : Nat} {κ : Nat → Nat × Nat} {ys : List Value} (hvk : RowM wr vk nk κ nk) (hg : wr.ownsRow 0 9 1 gv ng ys) (hnk : nk ≤ ng) (hK : Kept (fun x => vk.ownBlock = some x) wk wr)
    (hgo : ∀ x, gv.ownBlock = some x → vk.ownBlock = some x ∨ wk.heap.size ≤ x) (hb : Below wr.heap.size wr wa) (hgr : Grew wa w2 gv gv') (hold : w2.ownsRow 0 9 1 gv ng ys) :
    Kept (fun x => vk.ownBlock = some x) wk w2 ∧ RowM w2 vk nk κ nk ∧ (∀ x, gv'.ownBlock = some x → vk.ownBlock = some x ∨ wk.heap.size ≤ x) ∧ (∀ γ k i, gd wa γ k i → gd w2 γ k i) := by
  have hKa : Kept (fun _ => False) wr wa := Kept.of_below hb
  have hKg := hgr.kept (F := fun x => gv.ownBlock = some x) (fun _ h => h)
  have hs1 := hK.size
  have hs2 := hb.size
  have hga := owns_thruS hg hb
  have hTg : TyF (fun x => gv.ownBlock = some x) wa := fun g c t fr hx hc => by
    obtain ⟨cur, h1⟩ := (owns_cells hga g hx).2.2
    rw [h1] at hc
    cases hc
    exact .inl rfl
  refine ⟨(hK.trans hKa (fun _ _ h => h.elim)).trans hKg (fun j hj h => ?_), ?_, fun x hx => ?_, fun γ k i h => gd_kept h hKg hTg⟩
  · rcases hgo j h with h | h
    · exact h
    · omega
  · have hva := hvk.below hb
    by_cases hx : ∃ x, gv.ownBlock = some x ∧ vk.ownBlock = some x
    · obtain ⟨x, h1, h2⟩ := hx
      obtain ⟨hm, γ, rest, h3, h4⟩ := hva
      exact ⟨hm, γ, rest, owns_prefixS (by omega) h3 hga h2 h1 hnk hold, fun i hi => gd_kept (h4 i hi) hKg hTg⟩
    · exact hva.kept hKg (fun g h1 h2 => hx ⟨g, h2, h1⟩) hTg
  · rcases hgr.foot (F := fun x => gv.ownBlock = some x) (fun _ h => h) x hx with h | h
    · exact hgo x h
    · exact .inr (by omega)
end
theorem info_sb : (Tryz.prog.info? 29).map (fun i => (i.zero, i.size, i.bytes)) = some (some (.slice none 0 0), 1, 24) := by kernel_rfl
theorem info_e : (Tryz.prog.info? 9).map (fun i => (i.zero, i.size, i.bytes)) = some (some (.string ⟨#[]⟩), 1, 16) := by kernel_rfl
theorem RowM.there1 {w : World} {len m b C : Nat} {κ : Nat → Nat × Nat} (h : RowM w (.slice (some ⟨b, 0, none⟩) len C) len κ m) {i : Nat} (hi : i < len) : w.there b i 1 := by
  have h1 := h.there hi
  rwa [Nat.mul_one] at h1
theorem RowM.at1 {w : World} {len m b C : Nat} {κ : Nat → Nat × Nat} (h : RowM w (.slice (some ⟨b, 0, none⟩) len C) len κ m) {i : Nat} (hi : i < m) : ∃ γ, w.rangeAt b i (el γ (κ i).1 (κ i).2) ∧ gd w γ (κ i).1 (κ i).2 := by
  have h1 := h.at hi
  rwa [Nat.mul_one] at h1
theorem RowM.mark1 {w : World} {v : Value} {len m b γ0 : Nat} {κ : Nat → Nat × Nat} (h : RowM w v len κ m) (hb : v.ownBlock = some b) (hm : m < len) (hg : gd w γ0 (κ m).1 (κ m).2) : RowM (w.setCells b m (el γ0 (κ m).1 (κ m).2)) v len κ (m + 1) := by
  have h1 := h.mark hb hm hg
  rwa [Nat.mul_one] at h1
end Go.Proofs.YtpdlapnliiengaaGreat.TextFlat
