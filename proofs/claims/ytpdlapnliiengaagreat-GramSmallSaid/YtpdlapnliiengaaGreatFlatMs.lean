/-
  The marks of any list and place.
-/
import Derived.Test.YtpdlapnliiengaaGreatRows2
namespace Go.Proofs.YtpdlapnliiengaaGreat
open Go.RowKit

/-- The mark of place i of list k, as a byte. -/
def markN (k i : Nat) : Nat := (1000003 * (k + 7) + i) * 11400714819323198485 % 18446744073709551616 / 72057594037927936 % 256
theorem markN_lt (k i : Nat) : markN k i < 256 := Nat.mod_lt _ (by omega)
theorem markN_eq (k i : Nat) : IntKind.u64.wrap ((1000003 * ((k : Int) + 7) + (i : Int)) * 11400714819323198485) / 72057594037927936 % 256 = ((markN k i : Nat) : Int) := by
  rw [IntKind.wrap_u64]; simp [markN]
set_option maxHeartbeats 400000 in
theorem markByteN (k i : Nat) (w : World) (hk : k ≤ 1000000) (hi : i ≤ 281474976710656) :
    Calls Tryz.prog 20 #[.int .i64 k, .int .i64 i] w fun e w' => e = .returned (.int .u8 (markN k i : Nat)) ∧ w = w' := by
  go_enter Tryz.func20, Tryz.ntmps20
  go_wp2
  go_ret
  exact ⟨ret_int (markN_eq k i), rfl⟩
end Go.Proofs.YtpdlapnliiengaaGreat

/-
  What becomes of lists of bytes that are asked whether they lie apart.
-/
namespace Go.Proofs.YtpdlapnliiengaaGreat
open Go.RowKit

/-- The first m marks of list k. -/
def mk (k m : Nat) : List Value := (List.range m).map fun i => .int .u8 (markN k i : Nat)
theorem mk_length (k m : Nat) : (mk k m).length = m := by simp [mk]
theorem mk_succ (k m : Nat) : mk k (m + 1) = mk k m ++ [.int .u8 (markN k m : Nat)] := by simp [mk, List.range_succ]
theorem mk_get (k m i : Nat) (h : i < m) : (mk k m)[i]? = some (.int .u8 (markN k i : Nat)) := by simp [mk, h]
theorem mk_one (k m : Nat) : ∀ u ∈ mk k m, u.oneCell' = true := by
  intro u hu
  simp only [mk, List.mem_map] at hu
  obtain ⟨i, _, rfl⟩ := hu
  rfl
theorem mk_lc (k m : Nat) : mk k m = lc ((List.range m).map (markN k)) := by simp [mk, lc]

/-- The lists. -/
def fv (A : Nat → Option Addr) (l C : Nat → Nat) (r : Nat) : Value := .slice (A r) (l r) (C r)
/-- Their blocks. -/
def FF (n : Nat) (A : Nat → Option Addr) (l C : Nat → Nat) (g : Nat) : Prop := ∃ r, r < n ∧ (fv A l C r).ownBlock = some g
/-- They lie apart, and apart from the list of them at b. -/
structure Apt (n b : Nat) (A : Nat → Option Addr) (l C : Nat → Nat) : Prop where
  dist : ∀ r s g, r < n → s < n → (fv A l C r).ownBlock = some g → (fv A l C s).ownBlock = some g → r = s
  nb : ∀ r g, r < n → (fv A l C r).ownBlock = some g → g ≠ b
/-- What they hold. -/
def St (n : Nat) (A : Nat → Option Addr) (l C : Nat → Nat) (X : Nat → List Value) (w wx : World) : Prop := Kept (FF n A l C) w wx ∧ ∀ r, r < n → wx.ownsRow 0 5 1 (fv A l C r) (l r) (X r)
section
variable {n b : Nat} {A : Nat → Option Addr} {l C : Nat → Nat} {X Y : Nat → List Value} {w wx : World}
theorem St.congr (h : St n A l C X w wx) (e : ∀ r, r < n → X r = Y r) : St n A l C Y w wx := ⟨h.1, fun r hr => by rw [← e r hr]; exact h.2 r hr⟩
theorem St.drewN (h : St n A l C X w wx) (m : Nat) : St n A l C X w (wx.drewN m) := ⟨h.1.drewN m, h.2⟩
theorem St.drew (h : St n A l C X w wx) : St n A l C X w wx.drew := ⟨h.1.drew, h.2⟩
theorem FF.not_b (ha : Apt n b A l C) : ¬ FF n A l C b := fun ⟨r, hr, h⟩ => ha.nb r b hr h rfl
/-- A cell of the list of them. -/
theorem St.row (h : St n A l C X w wx) (ha : Apt n b A l C) {off r : Nat} (hc : w.cell? ⟨b, off + r, none⟩ = some (fv A l C r)) : wx.cell? ⟨b, off + r, none⟩ = some (fv A l C r) := h.1.cell hc (FF.not_b ha)
/-- One byte of one of them is stored. -/
theorem St.set (h : St n A l C X w wx) (ha : Apt n b A l C) {k i g : Nat} {u : Value} (hk : k < n) (hg : (fv A l C k).ownBlock = some g) : St n A l C (fun r => if r = k then (X k).set i u else X r) w (wx.setCell ⟨g, i, none⟩ u) := by
  refine ⟨h.1.setCell (.inl ⟨k, hk, hg⟩) u, fun r hr => ?_⟩
  by_cases e : r = k
  · subst e
    dsimp only
    rw [if_pos rfl]
    exact owns_set (h.2 r hr) hg u
  · dsimp only
    rw [if_neg e]
    exact owns_other (h.2 r hr) (fun h2 => e (ha.dist r k g hr hk h2 hg)) u
end
/-- A byte more is marked. -/
theorem mk_set (k i : Nat) (L : List Value) (h : i < L.length) : (mk k i ++ L.drop i).set i (.int .u8 (markN k i : Nat)) = mk k (i + 1) ++ L.drop (i + 1) := by
  have hl := mk_length k i
  rw [List.set_append_right _ _ (by omega), hl, Nat.sub_self, mk_succ, List.append_assoc, List.drop_eq_getElem_cons h]
  rfl

/-- What the list at G holds of the grown ones: the first m. -/
def GS (n G : Nat) (A : Nat → Option Addr) (l C : Nat → Nat) (w : World) (m : Nat) (Y : Nat → List Value) (wx : World) : Prop :=
  ∃ cur : Array Value, wx.heap[G]? = some (.cells cur 22 (0, 0)) ∧ cur.size = n ∧ ∀ r, r < m → ∃ A' C', cur[r]? = some (.slice A' (l r + 64) C') ∧ wx.ownsRow 0 5 1 (.slice A' (l r + 64) C') (l r + 64) (Y r) ∧
    ∀ g, (Value.slice A' (l r + 64) C').ownBlock = some g → (fv A l C r).ownBlock = some g ∨ (w.heap.size ≤ g ∧ g ≠ G)
section
variable {n b G k m : Nat} {A : Nat → Option Addr} {l C : Nat → Nat} {X Y : Nat → List Value} {w wx wy : World}
theorem GS.kept {F : Nat → Prop} (h : GS n G A l C w m Y wx) (hk : Kept F wx wy) (hG : ¬ F G) (hd : ∀ r g, r < m → ((fv A l C r).ownBlock = some g ∨ (w.heap.size ≤ g ∧ g ≠ G ∧ g < wx.heap.size)) → ¬ F g) : GS n G A l C w m Y wy := by
  obtain ⟨cur, h1, h2, h3⟩ := h
  refine ⟨cur, hk.heap h1 hG, h2, fun r hr => ?_⟩
  obtain ⟨A', C', h4, h5, h6⟩ := h3 r hr
  refine ⟨A', C', h4, owns_kept h5 hk (fun g hg => ?_), h6⟩
  have hlt := (owns_cells h5 g hg).1
  rcases h6 g hg with h7 | h7
  · exact hd r g hr (.inl h7)
  · exact hd r g hr (.inr ⟨h7.1, h7.2, hlt⟩)
theorem GS.drewN (h : GS n G A l C w m Y wx) (j : Nat) : GS n G A l C w m Y (wx.drewN j) := h
/-- One more is laid there. -/
theorem GS.put (h : GS n G A l C w k Y wx) (hkn : k < n) (hvG : ∀ r g, r < n → (fv A l C r).ownBlock = some g → g ≠ G) {A' : Option Addr} {C' : Nat} (hu : wx.ownsRow 0 5 1 (.slice A' (l k + 64) C') (l k + 64) (Y k))
    (ho : ∀ g, (Value.slice A' (l k + 64) C').ownBlock = some g → (fv A l C k).ownBlock = some g ∨ (w.heap.size ≤ g ∧ g ≠ G)) : GS n G A l C w (k + 1) Y (wx.setCell ⟨G, k, none⟩ (.slice A' (l k + 64) C')) := by
  obtain ⟨cur, h1, h2, h3⟩ := h
  have hne : ∀ r g, r < n → ((fv A l C r).ownBlock = some g ∨ (w.heap.size ≤ g ∧ g ≠ G)) → g ≠ G := fun r g hr h => h.elim (hvG r g hr) (fun h => h.2)
  refine ⟨_, heap_setCell_same _ G k cur _ _ h1, by rw [Array.size_setIfInBounds]; exact h2, fun r hr => ?_⟩
  by_cases e : r = k
  · subst e
    refine ⟨A', C', by simp [h2, hkn], owns_other hu (fun e => hne r G hkn (ho G e) rfl) _, ho⟩
  · obtain ⟨A2, C2, h4, h5, h6⟩ := h3 r (by omega)
    refine ⟨A2, C2, ?_, owns_other h5 (fun e2 => hne r G (by omega) (h6 G e2) rfl) _, h6⟩
    rw [Array.getElem?_setIfInBounds, if_neg (fun h => e h.symm)]
    exact h4
/-- The cell where it is laid. -/
theorem GS.cell (h : GS n G A l C w m Y wx) (hkn : k < n) : ∃ u, wx.cell? ⟨G, k, none⟩ = some u ∧ wx.frozen? ⟨G, k, none⟩ = false := by
  obtain ⟨cur, h1, h2, h3⟩ := h
  refine ⟨cur[k]'(by omega), ?_, frozen_of_row _ _ _ _ _ h1⟩
  rw [cell_of_row _ _ _ _ _ _ h1]
  simp [show k < cur.size by omega]
theorem GS.get (h : GS n G A l C w m Y wx) {r : Nat} (hr : r < m) : ∃ A' C', wx.cell? ⟨G, r, none⟩ = some (.slice A' (l r + 64) C') ∧ wx.ownsRow 0 5 1 (.slice A' (l r + 64) C') (l r + 64) (Y r) := by
  obtain ⟨cur, h1, h2, h3⟩ := h
  obtain ⟨A', C', h4, h5, _⟩ := h3 r hr
  exact ⟨A', C', by rw [cell_of_row _ _ _ _ _ _ h1]; exact h4, h5⟩
theorem GS.less (h : GS n G A l C w m Y wx) : GS n G A l C w 0 X wx := by
  obtain ⟨cur, h1, h2, _⟩ := h
  exact ⟨cur, h1, h2, fun r hr => by omega⟩
theorem St.setG (h : St n A l C X w wx) (hG : w.heap.size ≤ G) (hvG : ∀ r g, r < n → (fv A l C r).ownBlock = some g → g ≠ G) (i : Nat) (u : Value) : St n A l C X w (wx.setCell ⟨G, i, none⟩ u) :=
  ⟨h.1.setCell (.inr hG) u, fun r hr => owns_other (h.2 r hr) (fun e => hvG r G hr e rfl) u⟩
/-- The lists are kept where only list k's block may turn, and list k is known anew. -/
theorem St.one {F : Nat → Prop} (h : St n A l C X w wx) (ha : Apt n b A l C) (hkn : k < n) (hk : Kept F wx wy) (hF : ∀ g, F g → (fv A l C k).ownBlock = some g ∨ wx.heap.size ≤ g) (hown : wy.ownsRow 0 5 1 (fv A l C k) (l k) (X k)) : St n A l C X w wy := by
  refine ⟨h.1.trans hk (fun j hj hf => ?_), fun r hr => ?_⟩
  · rcases hF j hf with h1 | h1
    · exact ⟨k, hkn, h1⟩
    · have := h.1.size; omega
  · by_cases e : r = k
    · subst e; exact hown
    · refine owns_kept (h.2 r hr) hk (fun g hg hf => ?_)
      rcases hF g hf with h1 | h1
      · exact e (ha.dist r k g hr hkn hg h1)
      · have := (owns_cells (h.2 r hr) g hg).1
        omega
/-- A list that has been grown by one more: whose block it is in, and what became of the list that it grew out of. -/
theorem grow_step {wk wr wa w2 : World} {vk gv gv' : Value} {nk ng : Nat} {xs ys : List Value} (hvk : wr.ownsRow 0 5 1 vk nk xs) (hg : wr.ownsRow 0 5 1 gv ng ys) (hnk : nk ≤ ng) (hK : Kept (fun x => vk.ownBlock = some x) wk wr)
    (hgo : ∀ x, gv.ownBlock = some x → vk.ownBlock = some x ∨ wk.heap.size ≤ x) (hb : Below wr.heap.size wr wa) (hgr : Grew wa w2 gv gv') (hold : w2.ownsRow 0 5 1 gv ng ys) :
    Kept (fun x => vk.ownBlock = some x) wk w2 ∧ w2.ownsRow 0 5 1 vk nk xs ∧ (∀ x, gv'.ownBlock = some x → vk.ownBlock = some x ∨ wk.heap.size ≤ x) := by
  have hKa : Kept (fun _ => False) wr wa := Kept.of_below hb
  have hKg := hgr.kept (F := fun x => gv.ownBlock = some x) (fun _ h => h)
  have hs1 := hK.size
  have hs2 := hb.size
  refine ⟨(hK.trans hKa (fun _ _ h => h.elim)).trans hKg (fun j hj h => ?_), ?_, fun x hx => ?_⟩
  · rcases hgo j h with h | h
    · exact h
    · omega
  · by_cases hx : ∃ x, gv.ownBlock = some x ∧ vk.ownBlock = some x
    · obtain ⟨x, h1, h2⟩ := hx
      exact owns_prefix (owns_thru hvk hb) (owns_thru hg hb) h2 h1 hnk hold
    · exact owns_kept (owns_thru hvk hb) hKg (fun g h1 h2 => hx ⟨g, h2, h1⟩)
  · rcases hgr.foot (F := fun x => gv.ownBlock = some x) (fun _ h => h) x hx with h | h
    · exact hgo x h
    · exact .inr (by omega)
end
theorem info_sb : (Tryz.prog.info? 22).map (fun i => (i.zero, i.size, i.bytes)) = some (some (.slice none 0 0), 1, 24) := by kernel_rfl
theorem GS.made {n : Nat} {A : Nat → Option Addr} {l C : Nat → Nat} {Y : Nat → List Value} (w wx : World) : GS n wx.heap.size A l C w 0 Y (wx.alloc (.cells (madeCells #[.slice none 0 0] n) 22)) := by
  refine ⟨_, heap_alloc_new _ _, ?_, fun r hr => by omega⟩
  rw [← Array.length_toList, toList_madeCells_one, List.length_replicate]
end Go.Proofs.YtpdlapnliiengaaGreat

/-
  The marks of any list and place, as numbers.
-/
namespace Go.Proofs.YtpdlapnliiengaaGreat
open Go.RowKit

def markV (k i : Nat) : Nat := 1000003 * (k + 7) + i
theorem markV_le (k i : Nat) (hk : k ≤ 1000000) (hi : i ≤ 281474976710656) : markV k i ≤ 9223372036854775807 := by unfold markV; omega
theorem markVN (k i : Nat) (w : World) (hk : k ≤ 1000000) (hi : i ≤ 281474976710656) :
    Calls Tryz.prog 29 #[.int .i64 k, .int .i64 i] w fun e w' => e = .returned (.int .i64 (markV k i : Nat)) ∧ w = w' := by
  have e : (1000003 : Int) * ((k : Int) + 7) + (i : Int) = ((markV k i : Nat) : Int) := by simp [markV]
  have h1 := markV_le k i hk hi
  go_enter Tryz.func29, Tryz.ntmps29
  go_wp2
  go_ret
  exact ⟨ret_int e, rfl⟩
end Go.Proofs.YtpdlapnliiengaaGreat
