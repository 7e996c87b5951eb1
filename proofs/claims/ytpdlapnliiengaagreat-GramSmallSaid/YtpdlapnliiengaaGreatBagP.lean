/-
  A bag of lists: what is put into it, and that it lies apart (written by tools/gen-bagg.py).
-/
import Derived.Test.YtpdlapnliiengaaGreatBag
import Derived.Test.YtpdlapnliiengaaGreatFlatNil
import Derived.Test.YtpdlapnliiengaaGreatPrt
import Derived.Test.YtpdlapnliiengaaGreatFlatTextA
import Derived.Test.YtpdlapnliiengaaGreatFlatPlaceA
import Derived.Test.YtpdlapnliiengaaGreatFlatPostingA
namespace Go.Proofs.YtpdlapnliiengaaGreat
open Go.RowKit
set_option linter.unusedVariables false
set_option linter.unusedSimpArgs false

def bty : Nat → TypeId
  | 0 => 119
  | 1 => 121
  | 2 => 122
  | 3 => 123
  | 4 => 29
  | 5 => 22
  | 6 => 125
  | 7 => 126
  | 8 => 134
  | 9 => 139
  | 10 => 145
  | 11 => 150
  | 12 => 40
  | 13 => 27
  | 14 => 156
  | 15 => 161
  | 16 => 166
  | 17 => 173
  | 18 => 177
  | 19 => 182
  | 20 => 187
  | _ => 0
theorem bty_ne : ∀ i, i < 21 → ∀ j, j < 21 → i ≠ j → bty i ≠ bty j := by decide
theorem bty_bag : ∀ i, i < 21 → 80 ≠ bty i := by decide
/-- Another list of kind j. -/
def addL (L : Nat → List Value) (j : Nat) (vs : List Value) (i : Nat) : List Value := if i = j then L i ++ vs else L i
theorem addL_at (L : Nat → List Value) (j : Nat) (vs : List Value) : addL L j vs j = L j ++ vs := if_pos rfl
theorem addL_ne (L : Nat → List Value) {i j : Nat} (vs : List Value) (h : i ≠ j) : addL L j vs i = L i := if_neg h
theorem addL_nil (L : Nat → List Value) (j : Nat) : addL L j [] = L := by
  funext i
  unfold addL
  split
  · exact List.append_nil _
  · rfl
theorem addL_add (L : Nat → List Value) (j : Nat) (us vs : List Value) : addL (addL L j us) j vs = addL L j (us ++ vs) := by
  funext i
  unfold addL
  by_cases h : i = j
  · simp [h]
  · simp [h]
theorem addL_comm (L : Nat → List Value) {i j : Nat} (us vs : List Value) (h : i ≠ j) : addL (addL L j us) i vs = addL (addL L i vs) j us := by
  funext k
  unfold addL
  by_cases h1 : k = i
  · subst h1
    rw [if_pos rfl, if_neg h, if_pos rfl]
    by_cases h2 : k = j
    · exact absurd h2 h
    · rw [if_neg h2]
  · by_cases h2 : k = j
    · subst h2; rw [if_neg h1, if_pos rfl, if_pos rfl, if_neg h1]
    · rw [if_neg h1, if_neg h2, if_neg h2, if_neg h1]
/-- A bag of the call's own, its lists from N on. -/
def BG (W : World) (N p : Nat) (L : Nat → List Value) : Prop := ∃ (A : Nat → Option Addr) (C : Nat → Nat), BagV W p (fun i => .slice (A i) (L i).length (C i)) ∧
  (∀ i, i < 21 → W.ownsRow 0 (bty i) 1 (.slice (A i) (L i).length (C i)) (L i).length (L i) ∧ (∀ g, (Value.slice (A i) (L i).length (C i)).ownBlock = some g → N ≤ g) ∧ (L i = [] → A i = none ∧ C i = 0)) ∧ N ≤ p
theorem BG.below {W W' : World} {N p : Nat} {L : Nat → List Value} (h : BG W N p L) (hb : Below W.heap.size W W') : BG W' N p L := by
  obtain ⟨A, C, h1, h2, h3⟩ := h
  exact ⟨A, C, h1.below hb, fun i hi => ⟨owns_thru (h2 i hi).1 hb, (h2 i hi).2⟩, h3⟩
theorem BG.fresh (w : World) : BG (w.alloc (.cells (bagOf (fun _ => .slice none 0 0)) 80)) w.heap.size w.heap.size (fun _ => []) :=
  ⟨fun _ => none, fun _ => 0, heap_alloc_new _ _, fun i hi => ⟨World.ownsRow_nil _ _ _ _, (fun g h => by cases h), fun _ => ⟨rfl, rfl⟩⟩, Nat.le_refl _⟩
theorem BG.push {W W' : World} {N p j : Nat} {L : Nat → List Value} {A : Nat → Option Addr} {C : Nat → Nat} (v : Value) (hj : j < 21) (hb : BagV W p (fun i => .slice (A i) (L i).length (C i)))
    (hL : ∀ i, i < 21 → W.ownsRow 0 (bty i) 1 (.slice (A i) (L i).length (C i)) (L i).length (L i) ∧ (∀ g, (Value.slice (A i) (L i).length (C i)).ownBlock = some g → N ≤ g) ∧ (L i = [] → A i = none ∧ C i = 0)) (hNp : N ≤ p) (hN : N ≤ W.heap.size) {A6 : Option Addr} {C6 : Nat}
    (h1 : BagV W' p (fun i => if i = j then .slice A6 ((L j).length + 1) C6 else .slice (A i) (L i).length (C i))) (h2 : W'.ownsRow 0 (bty j) 1 (.slice A6 ((L j).length + 1) C6) ((L j).length + 1) (L j ++ [v]))
    (h3 : ∀ g, (Value.slice A6 ((L j).length + 1) C6).ownBlock = some g → (Value.slice (A j) (L j).length (C j)).ownBlock = some g ∨ W.heap.size ≤ g) (h4 : Kept (fun x => x = p ∨ (Value.slice (A j) (L j).length (C j)).ownBlock = some x) W W') :
    BG W' N p (addL L j [v]) ∧ Kept (fun k => N ≤ k) W W' := by
  refine ⟨⟨fun i => if i = j then A6 else A i, fun i => if i = j then C6 else C i, ?_, fun i hi => ?_, hNp⟩, h4.mono (fun k _ hh => ?_)⟩
  · have e : (fun i => Value.slice (if i = j then A6 else A i) (addL L j [v] i).length (if i = j then C6 else C i)) = fun i => if i = j then .slice A6 ((L j).length + 1) C6 else .slice (A i) (L i).length (C i) := by
      funext i
      unfold addL
      by_cases h : i = j
      · subst h; simp
      · simp [h]
    rw [e]
    exact h1
  · by_cases h : i = j
    · subst h
      simp only [if_true, addL_at, List.length_append, List.length_singleton]
      refine ⟨h2, fun g hg => ?_, fun e => by simp at e⟩
      rcases h3 g hg with e | e
      · exact (hL i hi).2.1 g e
      · omega
    · simp only [if_neg h, addL_ne L [v] h]
      refine ⟨owns_kept (hL i hi).1 h4 (fun g hg hh => ?_), (hL i hi).2⟩
      rcases hh with hh | hh
      · subst hh; exact owns_tyne (hL i hi).1 hb (bty_bag i hi) hg
      · exact owns_apart (hL i hi).1 (hL j hj).1 (bty_ne i hi j hj h) g hg hh
  · rcases hh with hh | hh
    · subst hh; exact hNp
    · exact (hL j hj).2.1 k hh

theorem infoB_BytesL : (Tryz.prog.info? 22).map (fun i => (i.zero, i.size, i.bytes)) = some (some (.slice none 0 0), 1, 24) := by kernel_rfl
set_option maxRecDepth 100000 in
set_option maxHeartbeats 1000000 in
theorem nilB_Bytes (w : World) : Calls Tryz.prog 44 #[.slice none 0 0] w fun e w' => e = .returned (.bool true) ∧ Below w.heap.size w w' := by
  have hmk : ∀ wx, (Instr.makeSlice 64 (.int .i64 0) (.int .i64 0)).run Tryz.prog wx = .ok (.slice (some ⟨wx.heap.size, 0, none⟩) 0 0) (wx.alloc (.cells (madeCells #[.slice none 0 0] 0) 22)) := fun wx => run_make_row' (P := Tryz.prog) 64 22 (.slice none 0 0) 24 Tryz.underlying64 infoB_BytesL rfl .i64 .i64 0 (by omega) (by omega) wx
  go_enter Tryz.func44, Tryz.ntmps44
  go_wp2_with fail
  refine wp_loop_rounds 1 ?_
  rw [rounds_succ]
  go_wp2_with fail
  refine wp_loop_rounds 1 ?_
  rw [rounds_succ]
  go_wp2_with fail
  refine wp_loop_rounds 1 ?_
  rw [rounds_succ]
  go_wp2_with fail
  refine wp_loop_rounds 1 ?_
  rw [rounds_succ]
  go_wp2_with fail
  refine wp_loop_rounds 1 ?_
  rw [rounds_succ]
  go_wp2_with fail
  go_ret
  exact ⟨rfl, below_alloc _ _⟩

theorem infoB_Texts : (Tryz.prog.info? 29).map (fun i => (i.zero, i.size, i.bytes)) = some (some (.slice none 0 0), 1, 24) := by kernel_rfl
set_option maxRecDepth 100000 in
set_option maxHeartbeats 1000000 in
theorem put_Texts (N p : Nat) (L : Nat → List Value) (a : Option Addr) (len cap : Nat) (w : World) (hk : (L 4).length ≤ 1000000) (hN : N ≤ w.heap.size) (h : BG w N p L) :
    Calls Tryz.prog 28 #[.pointer (some ⟨p, 0, none⟩), .slice a len cap] w fun e w' => e = .returned (.tuple #[]) ∧ BG w' N p (addL L 4 [.slice a len cap]) ∧ Kept (fun k => N ≤ k) w w' := by
  obtain ⟨i0, hi, hq0, hq1, hq2⟩ := info_parts infoB_Texts
  obtain ⟨A, C, hp, hL, hNp⟩ := h
  have ho : w.ownsRow 0 29 1 (.slice (A 4) (L 4).length (C 4)) (L 4).length (L 4) := (hL 4 (by omega)).1
  have hpl : p < w.heap.size := block_lt hp
  have c5 : w.cell? ⟨p, 4, none⟩ = some (.slice (A 4) (L 4).length (C 4)) := hp.cell 4
  have f5 : w.frozen? ⟨p, 4, none⟩ = false := frozen_of_row _ _ _ _ _ hp
  have hne : ∀ g, (Value.slice (A 4) (L 4).length (C 4)).ownBlock = some g → g ≠ p := fun g hg e => by subst e; exact owns_tyne ho hp (by decide) hg
  generalize hA5 : A 4 = A5 at *
  generalize hC5 : C 4 = C5 at *
  generalize hys : L 4 = ys at *
  generalize hkk : ys.length = k at *
  have k5 := cell_alloc_l (W := w) (.cells #[.slice a len cap] 29) c5
  have m5 := frozen_alloc_l (W := w) (.cells #[.slice a len cap] 29) c5 f5
  have hoA := owns_thru ho (below_alloc w (.cells #[.slice a len cap] 29))
  have hn1 := cell_one_new w (.slice a len cap) 29
  have HP := hide (And.intro hp (And.intro hL hNp))
  have HE := hide (And.intro hA5 (And.intro hC5 (And.intro hys hkk)))
  have HNE := hide hne
  clear hp ho hne hL hA5 hC5 hys hkk hNp
  go_enter Tryz.func28, Tryz.ntmps28
  go_wp2_with (at_builtin; go_must (refine wpList_append_foot _ rfl (.tmp 8) (.tmp 10) 38 rfl 29 i0 (.slice none 0 0) 24 Tryz.underlying38 hi hq0 hq1 hq2 rfl 0 _ k ys rfl hoA (some ⟨w.heap.size, 0, none⟩) 1 1 [.slice a len cap] rfl rfl (fun e => by cases e) (fun ad e => by cases e; exact hn1) (by simp [Value.oneCell']) (by unfold maxLen; omega) (by omega) (by omega) ?_); intro A6 C6 w1 hown1 hg1; have hc1 := (hg1.kept (F := fun x => x ≠ p) HNE.out).cell k5 (fun h => h rfl); have hf1 := (hg1.kept (F := fun x => x ≠ p) HNE.out).unfrozen k5 (fun h => h rfl) m5)
  obtain ⟨hp, hL, hNp⟩ := HP.out
  obtain ⟨hA5, hC5, hys, hkk⟩ := HE.out
  have hKa : Kept (fun _ => False) w (w.alloc (.cells #[.slice a len cap] 29)) := Kept.of_below (below_alloc w _)
  have hKg := hg1.kept (F := fun x => (Value.slice A5 k C5).ownBlock = some x) (fun _ h => h)
  have hKn := hg1.kept (F := fun x => x ≠ p) HNE.out
  have hfo := hg1.foot (F := fun x => (Value.slice A5 k C5).ownBlock = some x) (fun _ h => h)
  have hpb : BagV w1 p _ := (hp.kept hKa (fun h => h)).kept hKn (fun h => h rfl)
  have hnew : ∀ g, (Value.slice A6 (k + 1) C6).ownBlock = some g → g ≠ p ∧ ((Value.slice A5 k C5).ownBlock = some g ∨ w.heap.size ≤ g) := fun g hg => by
    rcases hfo g hg with h | h
    · exact ⟨HNE.out g h, .inl h⟩
    · have := hKa.size
      exact ⟨by omega, .inr (by omega)⟩
  go_end0
  have hb9 := heap_setCell_same w1 p 4 _ _ (.slice A6 (k + 1) C6) hpb
  have ho9 := owns_other (i := 4) hown1 (fun e => (hnew p e).1 rfl) (.slice A6 (k + 1) C6)
  have hk9 := ((hKa.mono (G := fun x => x = p ∨ (Value.slice A5 k C5).ownBlock = some x) (fun _ _ h => h.elim)).trans hKg (fun _ _ h => .inr h)).setCell (p := ⟨p, 4, none⟩) (.inl (.inl rfl)) (.slice A6 (k + 1) C6)
  have hn9 := fun g hg => (hnew g hg).2
  refine ⟨rfl, ?_⟩
  subst hkk hA5 hC5 hys
  exact BG.push (j := 4) (.slice a len cap) (by omega) hp hL hNp hN hb9 ho9 hn9 hk9

theorem infoB_Places : (Tryz.prog.info? 40).map (fun i => (i.zero, i.size, i.bytes)) = some (some (.slice none 0 0), 1, 24) := by kernel_rfl
set_option maxRecDepth 100000 in
set_option maxHeartbeats 1000000 in
theorem put_Places (N p : Nat) (L : Nat → List Value) (a : Option Addr) (len cap : Nat) (w : World) (hk : (L 12).length ≤ 1000000) (hN : N ≤ w.heap.size) (h : BG w N p L) :
    Calls Tryz.prog 65 #[.pointer (some ⟨p, 0, none⟩), .slice a len cap] w fun e w' => e = .returned (.tuple #[]) ∧ BG w' N p (addL L 12 [.slice a len cap]) ∧ Kept (fun k => N ≤ k) w w' := by
  obtain ⟨i0, hi, hq0, hq1, hq2⟩ := info_parts infoB_Places
  obtain ⟨A, C, hp, hL, hNp⟩ := h
  have ho : w.ownsRow 0 40 1 (.slice (A 12) (L 12).length (C 12)) (L 12).length (L 12) := (hL 12 (by omega)).1
  have hpl : p < w.heap.size := block_lt hp
  have c5 : w.cell? ⟨p, 12, none⟩ = some (.slice (A 12) (L 12).length (C 12)) := hp.cell 12
  have f5 : w.frozen? ⟨p, 12, none⟩ = false := frozen_of_row _ _ _ _ _ hp
  have hne : ∀ g, (Value.slice (A 12) (L 12).length (C 12)).ownBlock = some g → g ≠ p := fun g hg e => by subst e; exact owns_tyne ho hp (by decide) hg
  generalize hA5 : A 12 = A5 at *
  generalize hC5 : C 12 = C5 at *
  generalize hys : L 12 = ys at *
  generalize hkk : ys.length = k at *
  have k5 := cell_alloc_l (W := w) (.cells #[.slice a len cap] 40) c5
  have m5 := frozen_alloc_l (W := w) (.cells #[.slice a len cap] 40) c5 f5
  have hoA := owns_thru ho (below_alloc w (.cells #[.slice a len cap] 40))
  have hn1 := cell_one_new w (.slice a len cap) 40
  have HP := hide (And.intro hp (And.intro hL hNp))
  have HE := hide (And.intro hA5 (And.intro hC5 (And.intro hys hkk)))
  have HNE := hide hne
  clear hp ho hne hL hA5 hC5 hys hkk hNp
  go_enter Tryz.func65, Tryz.ntmps65
  go_wp2_with (at_builtin; go_must (refine wpList_append_foot _ rfl (.tmp 8) (.tmp 10) 71 rfl 40 i0 (.slice none 0 0) 24 Tryz.underlying71 hi hq0 hq1 hq2 rfl 0 _ k ys rfl hoA (some ⟨w.heap.size, 0, none⟩) 1 1 [.slice a len cap] rfl rfl (fun e => by cases e) (fun ad e => by cases e; exact hn1) (by simp [Value.oneCell']) (by unfold maxLen; omega) (by omega) (by omega) ?_); intro A6 C6 w1 hown1 hg1; have hc1 := (hg1.kept (F := fun x => x ≠ p) HNE.out).cell k5 (fun h => h rfl); have hf1 := (hg1.kept (F := fun x => x ≠ p) HNE.out).unfrozen k5 (fun h => h rfl) m5)
  obtain ⟨hp, hL, hNp⟩ := HP.out
  obtain ⟨hA5, hC5, hys, hkk⟩ := HE.out
  have hKa : Kept (fun _ => False) w (w.alloc (.cells #[.slice a len cap] 40)) := Kept.of_below (below_alloc w _)
  have hKg := hg1.kept (F := fun x => (Value.slice A5 k C5).ownBlock = some x) (fun _ h => h)
  have hKn := hg1.kept (F := fun x => x ≠ p) HNE.out
  have hfo := hg1.foot (F := fun x => (Value.slice A5 k C5).ownBlock = some x) (fun _ h => h)
  have hpb : BagV w1 p _ := (hp.kept hKa (fun h => h)).kept hKn (fun h => h rfl)
  have hnew : ∀ g, (Value.slice A6 (k + 1) C6).ownBlock = some g → g ≠ p ∧ ((Value.slice A5 k C5).ownBlock = some g ∨ w.heap.size ≤ g) := fun g hg => by
    rcases hfo g hg with h | h
    · exact ⟨HNE.out g h, .inl h⟩
    · have := hKa.size
      exact ⟨by omega, .inr (by omega)⟩
  go_end0
  have hb9 := heap_setCell_same w1 p 12 _ _ (.slice A6 (k + 1) C6) hpb
  have ho9 := owns_other (i := 12) hown1 (fun e => (hnew p e).1 rfl) (.slice A6 (k + 1) C6)
  have hk9 := ((hKa.mono (G := fun x => x = p ∨ (Value.slice A5 k C5).ownBlock = some x) (fun _ _ h => h.elim)).trans hKg (fun _ _ h => .inr h)).setCell (p := ⟨p, 12, none⟩) (.inl (.inl rfl)) (.slice A6 (k + 1) C6)
  have hn9 := fun g hg => (hnew g hg).2
  refine ⟨rfl, ?_⟩
  subst hkk hA5 hC5 hys
  exact BG.push (j := 12) (.slice a len cap) (by omega) hp hL hNp hN hb9 ho9 hn9 hk9

theorem infoB_Postings : (Tryz.prog.info? 27).map (fun i => (i.zero, i.size, i.bytes)) = some (some (.slice none 0 0), 1, 24) := by kernel_rfl
def lenOf : Value → Nat
  | .slice _ n _ => n
  | _ => 0
def adOf : Value → Option Addr
  | .slice a _ _ => a
  | _ => none
def cpOf : Value → Nat
  | .slice _ _ c => c
  | _ => 0
/-- Rows of one kind, each of the call's own, that lie apart. -/
def RowsOf (e : TypeId) (sz : Nat) (W : World) (ys : List Value) : Prop :=
  (∀ y ∈ ys, ∃ xs, lenOf y ≤ 1000000 ∧ W.ownsRow 0 e sz y (lenOf y) xs) ∧ ys.Pairwise (fun x y => ∀ g, x.ownBlock = some g → y.ownBlock ≠ some g)
def ownOf (ys : List Value) (g : Nat) : Prop := ∃ y ∈ ys, y.ownBlock = some g
theorem RowsOf.kept {e : TypeId} {sz : Nat} {W W' : World} {ys : List Value} {F : Nat → Prop} (h : RowsOf e sz W ys) (hk : Kept F W W') (hF : ∀ g, ownOf ys g → ¬ F g) : RowsOf e sz W' ys :=
  ⟨fun y hy => by
    obtain ⟨xs, h1, h2⟩ := h.1 y hy
    exact ⟨xs, h1, owns_keptS h2 hk (fun g hg => hF g ⟨y, hy, hg⟩)⟩, h.2⟩
theorem RowsOf.nil (e : TypeId) (sz : Nat) (W : World) : RowsOf e sz W [] := ⟨fun y hy => by (cases hy), List.Pairwise.nil⟩
theorem RowsOf.slice {e : TypeId} {sz : Nat} {W : World} {ys : List Value} (h : RowsOf e sz W ys) {y : Value} (hy : y ∈ ys) : y = .slice (adOf y) (lenOf y) (cpOf y) := by
  obtain ⟨xs, _, h2⟩ := h.1 y hy
  obtain ⟨A, C, e⟩ := owns_slice h2
  rw [e]
  rfl

set_option maxHeartbeats 1000000 in
theorem flatL_Texts (A : Option Addr) (C : Nat) (ys : List Value) (W : World) (hn : ys.length ≤ 100000) (ho : W.ownsRow 0 29 1 (.slice A ys.length C) ys.length ys) (hr : RowsOf 9 1 W ys) :
    Calls Tryz.prog 43 #[.slice A ys.length C] W fun e w' => e = .returned (.bool true) ∧ Kept (ownOf ys) W w' := by
  have ho' := ho
  obtain ⟨_, ⟨hv, hz⟩ | ⟨g, cap, cur, hv, _⟩⟩ := ho'
  · have hv' : Value.slice A ys.length C = .slice none 0 0 := hv
    rw [hv']
    exact (nil_Texts W).mono (fun e w' hh => ⟨hh.1, (Kept.of_below (F := fun _ => False) hh.2).mono (fun _ _ h => h.elim)⟩)
  · cases hv
    have hcl := ho.cells (g := g) rfl
    have hget : ∀ r (h : r < ys.length), ys.getD r undef = ys[r] := fun r h => by simp [List.getD_eq_getElem?_getD, h]
    have hsl : ∀ r, r < ys.length → Value.slice (adOf (ys.getD r undef)) (lenOf (ys.getD r undef)) (cpOf (ys.getD r undef)) = ys.getD r undef := fun r h => by
      rw [hget r h]
      exact (hr.slice (List.getElem_mem h)).symm
    have hX : ∀ r, ∃ xs, r < ys.length → lenOf (ys.getD r undef) ≤ 1000000 ∧ W.ownsRow 0 9 1 (ys.getD r undef) (lenOf (ys.getD r undef)) xs := fun r => by
      by_cases h : r < ys.length
      · obtain ⟨xs, h1, h2⟩ := hr.1 ys[r] (List.getElem_mem h)
        exact ⟨xs, fun _ => by rw [hget r h]; exact ⟨h1, h2⟩⟩
      · exact ⟨[], fun hh => absurd hh h⟩
    obtain ⟨X, hX⟩ := Classical.axiomOfChoice hX
    have hap : Apt ys.length g (fun r => adOf (ys.getD r undef)) (fun r => lenOf (ys.getD r undef)) (fun r => cpOf (ys.getD r undef)) := by
      refine ⟨fun r s k h1 h2 e1 e2 => ?_, fun r k h1 e1 e2 => ?_⟩
      · unfold fv at e1 e2
        rw [hsl r h1, hget r h1] at e1
        rw [hsl s h2, hget s h2] at e2
        by_cases e : r = s
        · exact e
        · exfalso
          rcases Nat.lt_or_gt_of_ne e with hh | hh
          · exact List.pairwise_iff_getElem.1 hr.2 r s h1 h2 hh k e1 e2
          · exact List.pairwise_iff_getElem.1 hr.2 s r h2 h1 hh k e2 e1
      · subst e2
        unfold fv at e1
        rw [hsl r h1] at e1
        exact owns_apart ho (hX r h1).2 (by decide) k rfl e1
    refine (TextFlat.flat_any g 0 ys.length C (fun r => adOf (ys.getD r undef)) (fun r => lenOf (ys.getD r undef)) (fun r => cpOf (ys.getD r undef)) X W hn (fun r hr' => by have := (hX r hr').1; omega) hap (fun r hr' => ?_) (fun r hr' => ?_)).mono ?_
    · unfold fv
      rw [hsl r hr']
      have := hcl r (ys.getD r undef) (by rw [hget r hr']; exact List.getElem?_eq_getElem hr')
      rwa [add_none' _ rfl] at this
    · unfold fv
      rw [hsl r hr']
      exact (hX r hr').2
    · rintro e w' ⟨he, hst⟩
      refine ⟨he, hst.1.mono (fun k _ hk => ?_)⟩
      obtain ⟨r, hr', e⟩ := hk
      unfold fv at e
      rw [hsl r hr', hget r hr'] at e
      exact ⟨_, List.getElem_mem hr', e⟩

set_option maxHeartbeats 1000000 in
theorem flatL_Places (A : Option Addr) (C : Nat) (ys : List Value) (W : World) (hn : ys.length ≤ 100000) (ho : W.ownsRow 0 40 1 (.slice A ys.length C) ys.length ys) (hr : RowsOf 44 2 W ys) :
    Calls Tryz.prog 51 #[.slice A ys.length C] W fun e w' => e = .returned (.bool true) ∧ Kept (ownOf ys) W w' := by
  have ho' := ho
  obtain ⟨_, ⟨hv, hz⟩ | ⟨g, cap, cur, hv, _⟩⟩ := ho'
  · have hv' : Value.slice A ys.length C = .slice none 0 0 := hv
    rw [hv']
    exact (nil_Places W).mono (fun e w' hh => ⟨hh.1, (Kept.of_below (F := fun _ => False) hh.2).mono (fun _ _ h => h.elim)⟩)
  · cases hv
    have hcl := ho.cells (g := g) rfl
    have hget : ∀ r (h : r < ys.length), ys.getD r undef = ys[r] := fun r h => by simp [List.getD_eq_getElem?_getD, h]
    have hsl : ∀ r, r < ys.length → Value.slice (adOf (ys.getD r undef)) (lenOf (ys.getD r undef)) (cpOf (ys.getD r undef)) = ys.getD r undef := fun r h => by
      rw [hget r h]
      exact (hr.slice (List.getElem_mem h)).symm
    have hX : ∀ r, ∃ xs, r < ys.length → lenOf (ys.getD r undef) ≤ 1000000 ∧ W.ownsRow 0 44 2 (ys.getD r undef) (lenOf (ys.getD r undef)) xs := fun r => by
      by_cases h : r < ys.length
      · obtain ⟨xs, h1, h2⟩ := hr.1 ys[r] (List.getElem_mem h)
        exact ⟨xs, fun _ => by rw [hget r h]; exact ⟨h1, h2⟩⟩
      · exact ⟨[], fun hh => absurd hh h⟩
    obtain ⟨X, hX⟩ := Classical.axiomOfChoice hX
    have hap : Apt ys.length g (fun r => adOf (ys.getD r undef)) (fun r => lenOf (ys.getD r undef)) (fun r => cpOf (ys.getD r undef)) := by
      refine ⟨fun r s k h1 h2 e1 e2 => ?_, fun r k h1 e1 e2 => ?_⟩
      · unfold fv at e1 e2
        rw [hsl r h1, hget r h1] at e1
        rw [hsl s h2, hget s h2] at e2
        by_cases e : r = s
        · exact e
        · exfalso
          rcases Nat.lt_or_gt_of_ne e with hh | hh
          · exact List.pairwise_iff_getElem.1 hr.2 r s h1 h2 hh k e1 e2
          · exact List.pairwise_iff_getElem.1 hr.2 s r h2 h1 hh k e2 e1
      · subst e2
        unfold fv at e1
        rw [hsl r h1] at e1
        exact owns_apart ho (hX r h1).2 (by decide) k rfl e1
    refine (PlaceFlat.flat_any g 0 ys.length C (fun r => adOf (ys.getD r undef)) (fun r => lenOf (ys.getD r undef)) (fun r => cpOf (ys.getD r undef)) X W hn (fun r hr' => by have := (hX r hr').1; omega) hap (fun r hr' => ?_) (fun r hr' => ?_)).mono ?_
    · unfold fv
      rw [hsl r hr']
      have := hcl r (ys.getD r undef) (by rw [hget r hr']; exact List.getElem?_eq_getElem hr')
      rwa [add_none' _ rfl] at this
    · unfold fv
      rw [hsl r hr']
      exact (hX r hr').2
    · rintro e w' ⟨he, hst⟩
      refine ⟨he, hst.1.mono (fun k _ hk => ?_)⟩
      obtain ⟨r, hr', e⟩ := hk
      unfold fv at e
      rw [hsl r hr', hget r hr'] at e
      exact ⟨_, List.getElem_mem hr', e⟩

set_option maxHeartbeats 1000000 in
theorem flatL_Postings (A : Option Addr) (C : Nat) (ys : List Value) (W : World) (hn : ys.length ≤ 100000) (ho : W.ownsRow 0 27 1 (.slice A ys.length C) ys.length ys) (hr : RowsOf 42 2 W ys) :
    Calls Tryz.prog 52 #[.slice A ys.length C] W fun e w' => e = .returned (.bool true) ∧ Kept (ownOf ys) W w' := by
  have ho' := ho
  obtain ⟨_, ⟨hv, hz⟩ | ⟨g, cap, cur, hv, _⟩⟩ := ho'
  · have hv' : Value.slice A ys.length C = .slice none 0 0 := hv
    rw [hv']
    exact (nil_Postings W).mono (fun e w' hh => ⟨hh.1, (Kept.of_below (F := fun _ => False) hh.2).mono (fun _ _ h => h.elim)⟩)
  · cases hv
    have hcl := ho.cells (g := g) rfl
    have hget : ∀ r (h : r < ys.length), ys.getD r undef = ys[r] := fun r h => by simp [List.getD_eq_getElem?_getD, h]
    have hsl : ∀ r, r < ys.length → Value.slice (adOf (ys.getD r undef)) (lenOf (ys.getD r undef)) (cpOf (ys.getD r undef)) = ys.getD r undef := fun r h => by
      rw [hget r h]
      exact (hr.slice (List.getElem_mem h)).symm
    have hX : ∀ r, ∃ xs, r < ys.length → lenOf (ys.getD r undef) ≤ 1000000 ∧ W.ownsRow 0 42 2 (ys.getD r undef) (lenOf (ys.getD r undef)) xs := fun r => by
      by_cases h : r < ys.length
      · obtain ⟨xs, h1, h2⟩ := hr.1 ys[r] (List.getElem_mem h)
        exact ⟨xs, fun _ => by rw [hget r h]; exact ⟨h1, h2⟩⟩
      · exact ⟨[], fun hh => absurd hh h⟩
    obtain ⟨X, hX⟩ := Classical.axiomOfChoice hX
    have hap : Apt ys.length g (fun r => adOf (ys.getD r undef)) (fun r => lenOf (ys.getD r undef)) (fun r => cpOf (ys.getD r undef)) := by
      refine ⟨fun r s k h1 h2 e1 e2 => ?_, fun r k h1 e1 e2 => ?_⟩
      · unfold fv at e1 e2
        rw [hsl r h1, hget r h1] at e1
        rw [hsl s h2, hget s h2] at e2
        by_cases e : r = s
        · exact e
        · exfalso
          rcases Nat.lt_or_gt_of_ne e with hh | hh
          · exact List.pairwise_iff_getElem.1 hr.2 r s h1 h2 hh k e1 e2
          · exact List.pairwise_iff_getElem.1 hr.2 s r h2 h1 hh k e2 e1
      · subst e2
        unfold fv at e1
        rw [hsl r h1] at e1
        exact owns_apart ho (hX r h1).2 (by decide) k rfl e1
    refine (PostingFlat.flat_any g 0 ys.length C (fun r => adOf (ys.getD r undef)) (fun r => lenOf (ys.getD r undef)) (fun r => cpOf (ys.getD r undef)) X W hn (fun r hr' => by have := (hX r hr').1; omega) hap (fun r hr' => ?_) (fun r hr' => ?_)).mono ?_
    · unfold fv
      rw [hsl r hr']
      have := hcl r (ys.getD r undef) (by rw [hget r hr']; exact List.getElem?_eq_getElem hr')
      rwa [add_none' _ rfl] at this
    · unfold fv
      rw [hsl r hr']
      exact (hX r hr').2
    · rintro e w' ⟨he, hst⟩
      refine ⟨he, hst.1.mono (fun k _ hk => ?_)⟩
      obtain ⟨r, hr', e⟩ := hk
      unfold fv at e
      rw [hsl r hr', hget r hr'] at e
      exact ⟨_, List.getElem_mem hr', e⟩

/-- What may change, by how many kinds have been looked at. -/
def FKG (L : Nat → List Value) (j k : Nat) : Prop := (4 < j ∧ ownOf (L 4) k) ∨ (12 < j ∧ ownOf (L 12) k) ∨ (13 < j ∧ ownOf (L 13) k)
theorem FKG.up {L : Nat → List Value} {j i k : Nat} (h : FKG L j k) (hij : j ≤ i) : FKG L i k := by
  rcases h with ⟨h1, h2⟩ | ⟨h1, h2⟩ | ⟨h1, h2⟩
  · exact .inl ⟨by omega, h2⟩
  · exact .inr (.inl ⟨by omega, h2⟩)
  · exact .inr (.inr (⟨by omega, h2⟩))
theorem FKG.step {L : Nat → List Value} {j : Nat} {w W w' : World} (h : Kept (FKG L j) w W) (hb : Below W.heap.size W w') : Kept (FKG L (j + 1)) w w' :=
  (h.mono (fun _ _ e => e.up (by omega))).trans (Kept.of_below (F := fun _ => False) hb) (fun _ _ e => e.elim)
set_option maxRecDepth 100000 in
set_option maxHeartbeats 2000000 in
theorem apart_bg (N p : Nat) (L : Nat → List Value) (w : World) (h : BG w N p L) (h0 : ∀ i, i < 21 → i ≠ 4 → i ≠ 12 → i ≠ 13 → L i = []) (h4 : RowsOf 9 1 w (L 4)) (l4 : (L 4).length ≤ 100000) (h12 : RowsOf 44 2 w (L 12)) (l12 : (L 12).length ≤ 100000) (h13 : RowsOf 42 2 w (L 13)) (l13 : (L 13).length ≤ 100000) :
    Calls Tryz.prog 27 #[.pointer (some ⟨p, 0, none⟩)] w fun e w' => e = .returned (.bool true) ∧ Kept (FKG L 21) w w' := by
  obtain ⟨A, C, hb, hL, hNp⟩ := h
  have hel : ∀ (e : TypeId) (sz i : Nat), i < 21 → RowsOf e sz w (L i) → ∀ g, ownOf (L i) g → ∃ cur fr, w.heap[g]? = some (.cells cur e fr) := fun e sz i _ hr g hg => by
    obtain ⟨y, hy, hgy⟩ := hg
    obtain ⟨xs, _, ho⟩ := hr.1 y hy
    obtain ⟨_, ⟨hv, _⟩ | ⟨g', cap, cur, hv, _, hg', _⟩⟩ := ho
    · rw [hv] at hgy; cases hgy
    · rw [hv] at hgy; cases hgy; exact ⟨_, _, hg'⟩
  have e4 := hel _ _ 4 (by omega) h4
  have e12 := hel _ _ 12 (by omega) h12
  have e13 := hel _ _ 13 (by omega) h13
  have hpF : ∀ j, ¬ FKG L j p := fun j hh => by
    rcases hh with ⟨h1, h2⟩ | ⟨h1, h2⟩ | ⟨h1, h2⟩
    · obtain ⟨cur, fr, hc⟩ := e4 p h2
      have hbb := hb
      unfold BagV at hbb
      rw [hbb] at hc
      simp at hc
    · obtain ⟨cur, fr, hc⟩ := e12 p h2
      have hbb := hb
      unfold BagV at hbb
      rw [hbb] at hc
      simp at hc
    · obtain ⟨cur, fr, hc⟩ := e13 p h2
      have hbb := hb
      unfold BagV at hbb
      rw [hbb] at hc
      simp at hc
  have hbF : ∀ i, i < 21 → ∀ j k, FKG L j k → (Value.slice (A i) (L i).length (C i)).ownBlock ≠ some k := fun i hi j k hh e => by
    obtain ⟨_, ⟨hv, _⟩ | ⟨g', cap, cur, hv, _, hg', _⟩⟩ := (hL i hi).1
    · rw [hv] at e; cases e
    rw [hv] at e
    cases e
    rcases hh with ⟨h1, h2⟩ | ⟨h1, h2⟩ | ⟨h1, h2⟩
    · obtain ⟨cur2, fr, hc⟩ := e4 _ h2
      rw [hg'] at hc
      have hne : ∀ i, i < 21 → bty i ≠ 9 := by decide
      have := hne i hi
      simp at hc
      exact this hc.2.1
    · obtain ⟨cur2, fr, hc⟩ := e12 _ h2
      rw [hg'] at hc
      have hne : ∀ i, i < 21 → bty i ≠ 44 := by decide
      have := hne i hi
      simp at hc
      exact this hc.2.1
    · obtain ⟨cur2, fr, hc⟩ := e13 _ h2
      rw [hg'] at hc
      have hne : ∀ i, i < 21 → bty i ≠ 42 := by decide
      have := hne i hi
      simp at hc
      exact this hc.2.1
  have nil := fun (i : Nat) {f : Nat} {W : World} (hi : i < 21) (hz : L i = []) (hI : Kept (FKG L i) w W) (hc : Calls Tryz.prog f #[.slice none 0 0] W fun e w' => e = .returned (.bool true) ∧ Below W.heap.size W w') =>
    (show Calls Tryz.prog f #[.slice (A i) (L i).length (C i)] W fun e w' => e = .returned (.bool true) ∧ Kept (FKG L (i + 1)) w w' by
      obtain ⟨ea, ec⟩ := (hL i hi).2.2 hz
      rw [ea, ec, hz]
      exact hc.mono (R' := fun e w' => e = .returned (.bool true) ∧ Kept (FKG L (i + 1)) w w') (fun e w' hh => ⟨hh.1, FKG.step hI hh.2⟩))
  refine bagApart_gen p _ (fun j W => Kept (FKG L j) w W) w (Kept.refl _ _) (fun j W hW => hb.kept hW (hpF j)) (fun W h => nil 0 (by omega) (h0 0 (by omega) (by omega) (by omega) (by omega)) h (nil_Limbs W)) (fun W h => nil 1 (by omega) (h0 1 (by omega) (by omega) (by omega) (by omega)) h (nil_Words W)) (fun W h => nil 2 (by omega) (h0 2 (by omega) (by omega) (by omega) (by omega)) h (nil_Ints W)) (fun W h => nil 3 (by omega) (h0 3 (by omega) (by omega) (by omega) (by omega)) h (nil_Longs W)) ?f4 (fun W h => nil 5 (by omega) (h0 5 (by omega) (by omega) (by omega) (by omega)) h (nilB_Bytes W)) (fun W h => nil 6 (by omega) (h0 6 (by omega) (by omega) (by omega) (by omega)) h (nil_Truths W)) (fun W h => nil 7 (by omega) (h0 7 (by omega) (by omega) (by omega) (by omega)) h (nil_Nodes W)) (fun W h => nil 8 (by omega) (h0 8 (by omega) (by omega) (by omega) (by omega)) h (nil_Insts W)) (fun W h => nil 9 (by omega) (h0 9 (by omega) (by omega) (by omega) (by omega)) h (nil_Queries W)) (fun W h => nil 10 (by omega) (h0 10 (by omega) (by omega) (by omega) (by omega)) h (nil_Files W)) (fun W h => nil 11 (by omega) (h0 11 (by omega) (by omega) (by omega) (by omega)) h (nil_Docs W)) ?f12 ?f13 (fun W h => nil 14 (by omega) (h0 14 (by omega) (by omega) (by omega) (by omega)) h (nil_ShardRefs W)) (fun W h => nil 15 (by omega) (h0 15 (by omega) (by omega) (by omega) (by omega)) h (nil_Manifests W)) (fun W h => nil 16 (by omega) (h0 16 (by omega) (by omega) (by omega) (by omega)) h (nil_Asks W)) (fun W h => nil 17 (by omega) (h0 17 (by omega) (by omega) (by omega) (by omega)) h (nil_Hits W)) (fun W h => nil 18 (by omega) (h0 18 (by omega) (by omega) (by omega) (by omega)) h (nil_Answers W)) (fun W h => nil 19 (by omega) (h0 19 (by omega) (by omega) (by omega) (by omega)) h (nil_Parts W)) (fun W h => nil 20 (by omega) (h0 20 (by omega) (by omega) (by omega) (by omega)) h (nil_Changes W))
  case f4 =>
    intro W hW
    have hoW : W.ownsRow 0 29 1 (.slice (A 4) (L 4).length (C 4)) (L 4).length (L 4) := owns_kept (hL 4 (by omega)).1 hW (fun g hg hf => hbF 4 (by omega) _ g hf hg)
    have hrW : RowsOf 9 1 W (L 4) := h4.kept hW (fun g hg hf => by
      obtain ⟨cur, fr, hc⟩ := e4 g hg
      rcases hf with ⟨h1, h2⟩ | ⟨h1, h2⟩ | ⟨h1, h2⟩
      · omega
      · omega
      · omega
      )
    refine (flatL_Texts (A 4) (C 4) (L 4) W l4 hoW hrW).mono ?_
    rintro e w' ⟨he, hk⟩
    exact ⟨he, (hW.mono (fun _ _ e => e.up (by omega))).trans hk (fun g _ h2 => .inl ⟨by omega, h2⟩)⟩
  case f12 =>
    intro W hW
    have hoW : W.ownsRow 0 40 1 (.slice (A 12) (L 12).length (C 12)) (L 12).length (L 12) := owns_kept (hL 12 (by omega)).1 hW (fun g hg hf => hbF 12 (by omega) _ g hf hg)
    have hrW : RowsOf 44 2 W (L 12) := h12.kept hW (fun g hg hf => by
      obtain ⟨cur, fr, hc⟩ := e12 g hg
      rcases hf with ⟨h1, h2⟩ | ⟨h1, h2⟩ | ⟨h1, h2⟩
      · obtain ⟨cur2, fr2, hc2⟩ := e4 g h2
        rw [hc] at hc2
        simp at hc2
      · omega
      · omega
      )
    refine (flatL_Places (A 12) (C 12) (L 12) W l12 hoW hrW).mono ?_
    rintro e w' ⟨he, hk⟩
    exact ⟨he, (hW.mono (fun _ _ e => e.up (by omega))).trans hk (fun g _ h2 => .inr (.inl ⟨by omega, h2⟩))⟩
  case f13 =>
    intro W hW
    have hoW : W.ownsRow 0 27 1 (.slice (A 13) (L 13).length (C 13)) (L 13).length (L 13) := owns_kept (hL 13 (by omega)).1 hW (fun g hg hf => hbF 13 (by omega) _ g hf hg)
    have hrW : RowsOf 42 2 W (L 13) := h13.kept hW (fun g hg hf => by
      obtain ⟨cur, fr, hc⟩ := e13 g hg
      rcases hf with ⟨h1, h2⟩ | ⟨h1, h2⟩ | ⟨h1, h2⟩
      · obtain ⟨cur2, fr2, hc2⟩ := e4 g h2
        rw [hc] at hc2
        simp at hc2
      · obtain ⟨cur2, fr2, hc2⟩ := e12 g h2
        rw [hc] at hc2
        simp at hc2
      · omega
      )
    refine (flatL_Postings (A 13) (C 13) (L 13) W l13 hoW hrW).mono ?_
    rintro e w' ⟨he, hk⟩
    exact ⟨he, (hW.mono (fun _ _ e => e.up (by omega))).trans hk (fun g _ h2 => .inr (.inr (⟨by omega, h2⟩)))⟩
end Go.Proofs.YtpdlapnliiengaaGreat
