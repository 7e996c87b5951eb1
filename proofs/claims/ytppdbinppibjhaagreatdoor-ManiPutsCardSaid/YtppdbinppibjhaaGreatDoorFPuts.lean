/-
  frame.Put: the regions that draw their order (written by tools/gen-fput.py).
-/
import Derived.Test.YtppdbinppibjhaaGreatDoorFLaidR
import Derived.Test.YtppdbinppibjhaaGreatDoorRegionsA
import Derived.Test.YtppdbinppibjhaaGreatDoorFLaids
import Derived.Laws.MakeOwn
set_option maxHeartbeats 4000000
set_option maxRecDepth 100000
set_option linter.unusedVariables false
set_option linter.unusedSimpArgs false
namespace Go.Proofs.YtppdbinppibjhaaGreatDoor
open Go.RowKit
theorem owns_none {w : World} {B n C : Nat} {xs : List Value} {e : TypeId} (h : w.ownsRow B e 1 (.slice none n C) n xs) : n = 0 ∧ C = 0 := by
 obtain ⟨_, ⟨h1, h2⟩ | ⟨g, cap, cur, h1, _⟩⟩ := h
 ·cases h1; exact ⟨rfl, rfl⟩
 ·cases h1
abbrev fputA_ops0 : Oper := ⟨some 12, .move (.tmp 4), 3, "frame.go:22", #[], none⟩
abbrev fputA_ops1 : Oper := ⟨some 13, .makeSlice 28 (.const (.int .i64 0)) (.tmp 12), 28, "frame.go:22", #[⟨0, .data⟩], none⟩
abbrev fputA_ops2 : Oper := ⟨some 14, .move (.tmp 4), 3, "frame.go:22", #[], none⟩
abbrev fputA_ops3 : Oper := ⟨some 15, .convert 3 52 (.tmp 14), 52, "frame.go:22", #[⟨2, .data⟩], none⟩
abbrev fputA_ops4 : Oper := ⟨some 16, .call ⟨.value (.func 69), #[.tmp 15], #[52]⟩, 28, "frame.go:22", #[⟨3, .data⟩], none⟩
abbrev fputA_ops5 : Oper := ⟨some 17, .call ⟨.builtin .append, #[.tmp 13, .tmp 16], #[28, 28]⟩, 28, "frame.go:22", #[⟨1, .data⟩, ⟨4, .data⟩, ⟨4, .chain⟩], none⟩
abbrev fputA_ops6 : Oper := ⟨some 5, .alloc 28, 0, "frame.go:22", #[], none⟩
abbrev fputA_ops7 : Oper := ⟨none, .store 28 (.tmp 5) (.tmp 17), 0, "frame.go:22", #[⟨6, .data⟩, ⟨5, .data⟩, ⟨5, .chain⟩, ⟨0, .phase⟩, ⟨1, .phase⟩, ⟨2, .phase⟩, ⟨3, .phase⟩, ⟨4, .phase⟩, ⟨5, .phase⟩, ⟨6, .phase⟩], none⟩
def fputA_ops : Array Oper := #[fputA_ops0, fputA_ops1, fputA_ops2, fputA_ops3, fputA_ops4, fputA_ops5, fputA_ops6, fputA_ops7]
def fputA_slot : Nat → Nat
 | 0 => 12
 | 1 => 13
 | 2 => 14
 | 3 => 15
 | 4 => 16
 | 5 => 17
 | 6 => 5
 | j + 7 => 1033 + j
theorem fputA_inj (i j : Nat) (hi : i < 7) (hj : j < 7) (h : fputA_slot i = fputA_slot j) : i = j := by
 have key : ∀ i j : Fin 7, fputA_slot i.val = fputA_slot j.val → i = j := by decide
 exact Fin.mk.inj (key ⟨i, hi⟩ ⟨j, hj⟩ h)
def fputA_pre : Nat → Bool
 | 0 => true
 | 1 => true
 | 2 => true
 | 3 => true
 | 4 => true
 | _ => false
def putA_val (z B0 : Nat) : Bool → Nat → Value → World → Prop
 | false, 0, v, w => v = .int .i64 (z : Nat)
 | true, 0, v, w => True
 | false, 1, v, w => ∃ TA TC, v = .slice TA (0) TC ∧ w.ownsRow B0 5 1 (.slice TA (0) TC) (0) ([])
 | true, 1, v, w => True
 | false, 2, v, w => v = .int .i64 (z : Nat)
 | true, 2, v, w => True
 | false, 3, v, w => v = .int .u32 (z : Nat)
 | true, 3, v, w => True
 | false, 4, v, w => ∃ TA TC, v = .slice TA (4) TC ∧ w.ownsRow B0 5 1 (.slice TA (4) TC) (4) (lc (fixB z))
 | true, 4, v, w => True
 | false, 5, v, w => False
 | true, 5, v, w => ∃ TA TC, v = .slice TA (4) TC ∧ w.ownsRow B0 5 1 (.slice TA (4) TC) (4) (lc (fixB z))
 | false, 6, v, w => ∃ b, v = .pointer (some ⟨b, 0, none⟩) ∧ B0 ≤ b ∧ w.heap[b]? = some (.cells #[.slice none 0 0] 28 (0, 0))
 | true, 6, v, w => ∃ b, v = .pointer (some ⟨b, 0, none⟩) ∧ B0 ≤ b ∧ w.heap[b]? = some (.cells #[.slice none 0 0] 28 (0, 0))
 | _, _, _, _ => True
theorem putA_below (z B0 : Nat) (b : Bool) (w w' : World) (hb : Below w.heap.size w w') : ∀ j v, putA_val z B0 b j v w → putA_val z B0 b j v w' := by
 intro j v h
 match b, j, h with
 | false, 0, h => exact h
 | true, 0, h => exact h
 | false, 1, h => obtain ⟨TA, TC, h1, h2⟩ := h; exact ⟨TA, TC, h1, owns_thru h2 hb⟩
 | true, 1, h => exact h
 | false, 2, h => exact h
 | true, 2, h => exact h
 | false, 3, h => exact h
 | true, 3, h => exact h
 | false, 4, h => obtain ⟨TA, TC, h1, h2⟩ := h; exact ⟨TA, TC, h1, owns_thru h2 hb⟩
 | true, 4, h => exact h
 | false, 5, h => exact h
 | true, 5, h => obtain ⟨TA, TC, h1, h2⟩ := h; exact ⟨TA, TC, h1, owns_thru h2 hb⟩
 | false, 6, h => obtain ⟨b, h1, h2, h3⟩ := h; exact ⟨b, h1, h2, (hb.block _ (block_lt h3)).trans h3⟩
 | true, 6, h => obtain ⟨b, h1, h2, h3⟩ := h; exact ⟨b, h1, h2, (hb.block _ (block_lt h3)).trans h3⟩
 | false, _ + 7, h => exact h
 | true, _ + 7, h => exact h
abbrev fputA_mem (s : Nat) : Prop := s ∈ [12, 13, 14, 15, 16, 17, 5]
theorem putA (z B0 : Nat) (Q : Exit → Act → World → Prop) (t0 : Array Value) (df : List Deferred) (w0 : World) (ht : t0.size = 33)
  (hs4 : t0.getD 4 undef = .int .i64 (z : Nat))
  (hz : z < 4294967296) (hB0 : B0 = w0.heap.size)
  (hQ : ∀ (vs : Nat → Value) (w : World) b TA TC, Kept (fun _ => False) w0 w → vs 17 = .slice TA 4 TC → w.ownsRow B0 5 1 (.slice TA 4 TC) 4 (lc (fixB z)) → vs 5 = .pointer (some ⟨b, 0, none⟩) → B0 ≤ b → w.heap[b]? = some (.cells #[.slice none 0 0] 28 (0, 0)) → Q .normal { tmps := [12, 13, 14, 15, 16, 17, 5].foldl (fun y d => y.setIfInBounds d (vs d)) t0, defers := df } (w.setCell ⟨b, 0, none⟩ (.slice TA 4 TC))) :
  (Code.region 4 fputA_ops true).wp Tryz.prog Q { tmps := t0, defers := df } w0 := by
 have hsl : ∀ j, j < 7 → fputA_mem (fputA_slot j) := by
  intro j hj
  match j, hj with
  | 0, _ => exact (by decide : fputA_mem 12)
  | 1, _ => exact (by decide : fputA_mem 13)
  | 2, _ => exact (by decide : fputA_mem 14)
  | 3, _ => exact (by decide : fputA_mem 15)
  | 4, _ => exact (by decide : fputA_mem 16)
  | 5, _ => exact (by decide : fputA_mem 17)
  | 6, _ => exact (by decide : fputA_mem 5)
  | k + 7, hj => omega
 refine wp_region_pivot 7 5 (by kernel_rfl) ?_ (by decide) fputA_pre fputA_slot (putA_val z B0) (Kept (fun _ => False) w0) t0 df w0 ?_ (fputA_inj) ?_ ?_ rfl (putA_below z B0) ?_ ?_ ?_ ?_
 ·refine .inr ⟨rfl, fun listed o hup ho hd => ?_⟩
  have e : o = fputA_ops7 := (Option.some.inj ho).symm; unfold fputA_ops7 at e
  subst e
  have l6 : listed.getD 6 false = true := hd ⟨6, .data⟩ (by simp) rfl
  have l5 : listed.getD 5 false = true := hd ⟨5, .data⟩ (by simp) rfl
  have l0 : listed.getD 0 false = true := hd ⟨0, .phase⟩ (by simp) rfl
  have l1 : listed.getD 1 false = true := hd ⟨1, .phase⟩ (by simp) rfl
  have l2 : listed.getD 2 false = true := hd ⟨2, .phase⟩ (by simp) rfl
  have l3 : listed.getD 3 false = true := hd ⟨3, .phase⟩ (by simp) rfl
  have l4 : listed.getD 4 false = true := hd ⟨4, .phase⟩ (by simp) rfl
  intro j hj
  match j, hj with
  | 0, _ | 1, _ | 2, _ | 3, _ | 4, _ | 5, _ | 6, _ => assumption
  | k + 7, hj => omega
 ·intro j o ho hj
  rw [ht]
  match j, ho, hj with
  | 0, ho, _ | 1, ho, _ | 2, ho, _ | 3, ho, _ | 4, ho, _ | 5, ho, _ | 6, ho, _ => cases ho; exact ⟨rfl, by decide⟩
  | k + 7, _, hj => omega
 ·intro j o ho
  have hj : j < 8 := (Array.getElem?_eq_some_iff.1 ho).1
  match j, ho with
  | 0, ho | 1, ho | 2, ho | 3, ho | 4, ho | 5, ho | 6, ho | 7, ho => cases ho; decide
  | k + 8, _ => omega
 ·intro listed o hup ho hd
  have e : o = fputA_ops5 := (Option.some.inj ho).symm; unfold fputA_ops5 at e
  subst e
  have l1 : listed.getD 1 false = true := hd ⟨1, .data⟩ (by simp) rfl
  have l4 : listed.getD 4 false = true := hd ⟨4, .data⟩ (by simp) rfl
  have l3 : listed.getD 3 false = true := hup 4 ⟨some 16, .call ⟨.value (.func 69), #[.tmp 15], #[52]⟩, 28, "frame.go:22", #[⟨3, .data⟩], none⟩ rfl l4 ⟨3, .data⟩ (by simp) rfl
  have l2 : listed.getD 2 false = true := hup 3 ⟨some 15, .convert 3 52 (.tmp 14), 52, "frame.go:22", #[⟨2, .data⟩], none⟩ rfl l3 ⟨2, .data⟩ (by simp) rfl
  have l0 : listed.getD 0 false = true := hup 1 ⟨some 13, .makeSlice 28 (.const (.int .i64 0)) (.tmp 12), 28, "frame.go:22", #[⟨0, .data⟩], none⟩ rfl l1 ⟨0, .data⟩ (by simp) rfl
  intro j hj hp
  match j, hj, hp with
  | 0, _, hp | 1, _, hp | 2, _, hp | 3, _, hp | 4, _, hp => assumption
  | 5, _, hp => cases hp
  | 6, _, hp => cases hp
  | k + 7, hj, _ => omega
 ·intro w w' hb hg
  exact hg.trans (Kept.of_below (F := fun _ => False) hb) (fun _ _ h => h)
 ·intro b j o ho hj hjp hpre x w hB hGw hdef hsz hs hdeps
  have hs' : ∀ s, ¬ fputA_mem s → x.tmps.getD s undef = t0.getD s undef := fun s hn => hs s (fun j hj e => hn (by rw [e]; exact hsl j hj))
  have u4 := (hs' 4 (by decide)).trans hs4
  clear hs hs' hsl hsz ht hQ hs4
  simp only [Array.getD_eq_getD_getElem?] at u4
  match b, j, ho, hj, hjp, hpre with
  | false, 0, ho, _, _, _ =>
    have e : o = fputA_ops0 := (Option.some.inj ho).symm; unfold fputA_ops0 at e
    subst e
    have hB := hB rfl
    clear hdeps
    refine wpOp_step ho (fun K hK => ?_)
    clear ho
    go_simp
    exact hK _ _ ⟨_, act_putD x hdef _ _, rfl, Below.refl _ _⟩
  | true, 0, _, _, _, hpre => exact absurd (hpre rfl) (by decide)
  | false, 1, ho, _, _, _ =>
    have e : o = fputA_ops1 := (Option.some.inj ho).symm; unfold fputA_ops1 at e
    subst e
    obtain q0 := hdeps ⟨0, .data⟩ (by simp) rfl
    have q0 : x.tmps.getD 12 undef = .int .i64 (z : Nat) := q0
    have hB := hB rfl
    simp only [Array.getD_eq_getD_getElem?] at q0
    clear hdeps
    obtain ⟨i0, hi, hq0, hq1, hq2⟩ := info_parts info_u8
    obtain ⟨w', hmk, hmo, hg⟩ := run_make_own (P := Tryz.prog) w B0 28 5 i0 (.int .u8 0) 1 Tryz.underlying28 hi hq0 hq1 .i64 .i64 z (by rw [hq2]; omega) (by unfold maxLen; omega) (by subst hB0; exact hB.size)
    have hb := below_grown hg
    clear hi hq0 hq1 hq2
    refine wpOp_step ho (fun K hK => ?_)
    clear ho
    go_simp
    exact hK _ _ ⟨_, act_putD x hdef _ _, ⟨_, _, rfl, hmo⟩, hb⟩
  | true, 1, _, _, _, hpre => exact absurd (hpre rfl) (by decide)
  | false, 2, ho, _, _, _ =>
    have e : o = fputA_ops2 := (Option.some.inj ho).symm; unfold fputA_ops2 at e
    subst e
    have hB := hB rfl
    clear hdeps
    refine wpOp_step ho (fun K hK => ?_)
    clear ho
    go_simp
    exact hK _ _ ⟨_, act_putD x hdef _ _, rfl, Below.refl _ _⟩
  | true, 2, _, _, _, hpre => exact absurd (hpre rfl) (by decide)
  | false, 3, ho, _, _, _ =>
    have e : o = fputA_ops3 := (Option.some.inj ho).symm; unfold fputA_ops3 at e
    subst e
    obtain q2 := hdeps ⟨2, .data⟩ (by simp) rfl
    have q2 : x.tmps.getD 14 undef = .int .i64 (z : Nat) := q2
    have hB := hB rfl
    simp only [Array.getD_eq_getD_getElem?] at q2
    clear hdeps
    refine wpOp_step ho (fun K hK => ?_)
    clear ho
    go_simp
    rw [show IntKind.u32.wrap (z : Int) = (z : Int) from by rw [IntKind.wrap_u32]; omega]
    exact hK _ _ ⟨_, act_putD x hdef _ _, rfl, Below.refl _ _⟩
  | true, 3, _, _, _, hpre => exact absurd (hpre rfl) (by decide)
  | false, 4, ho, _, _, _ =>
    have e : o = fputA_ops4 := (Option.some.inj ho).symm; unfold fputA_ops4 at e
    subst e
    obtain q3 := hdeps ⟨3, .data⟩ (by simp) rfl
    have q3 : x.tmps.getD 15 undef = .int .u32 (z : Nat) := q3
    have hB := hB rfl
    simp only [Array.getD_eq_getD_getElem?] at q3
    clear hdeps
    refine wpOp_step ho (fun K hK => ?_)
    clear ho
    go_simp
    refine (fbytesOf_any z w hz).mono ?_
    rintro e w' ⟨v, rfl, ho, hb⟩
    obtain ⟨TA, TC, rfl⟩ := owns_slice ho
    exact hK _ _ ⟨_, act_putD x hdef _ _, ⟨TA, TC, rfl, owns_lower ho (by subst hB0; exact hB.size)⟩, hb⟩
  | true, 4, _, _, _, hpre => exact absurd (hpre rfl) (by decide)
  | _, 5, _, _, hjp, _ => exact absurd rfl hjp
  | false, 6, ho, _, _, _ =>
    have e : o = fputA_ops6 := (Option.some.inj ho).symm; unfold fputA_ops6 at e
    subst e
    have hB := hB rfl
    clear hdeps
    refine wpOp_step ho (fun K hK => ?_)
    clear ho
    go_simp
    exact hK _ _ ⟨_, act_putD x hdef _ _, ⟨_, rfl, by subst hB0; first | exact hB.size | exact hGw.size, heap_alloc_new _ _⟩, below_alloc _ _⟩
  | true, 6, ho, _, _, _ =>
    have e : o = fputA_ops6 := (Option.some.inj ho).symm; unfold fputA_ops6 at e
    subst e
    have hGw := hGw rfl
    clear hdeps
    refine wpOp_step ho (fun K hK => ?_)
    clear ho
    go_simp
    exact hK _ _ ⟨_, act_putD x hdef _ _, ⟨_, rfl, by subst hB0; first | exact hB.size | exact hGw.size, heap_alloc_new _ _⟩, below_alloc _ _⟩
  | _, k + 7, _, hj, _, _ => omega
 ·intro o ho x w hB hdef hsz hs hdeps
  have hs' : ∀ s, ¬ fputA_mem s → x.tmps.getD s undef = t0.getD s undef := fun s hn => hs s (fun j hj e => hn (by rw [e]; exact hsl j hj))
  have u4 := (hs' 4 (by decide)).trans hs4
  clear hs hs' hsl hsz ht hQ hs4
  simp only [Array.getD_eq_getD_getElem?] at u4
  have e : o = fputA_ops5 := (Option.some.inj ho).symm; unfold fputA_ops5 at e
  subst e
  obtain ⟨TA1, TC1, q1, p1⟩ := hdeps ⟨1, .data⟩ (by simp) rfl
  have q1 : x.tmps.getD 13 undef = .slice TA1 (0) TC1 := q1
  obtain ⟨TA4, TC4, q4, p4⟩ := hdeps ⟨4, .data⟩ (by simp) rfl
  have q4 : x.tmps.getD 16 undef = .slice TA4 (4) TC4 := q4
  clear hdeps
  obtain ⟨i0, hi, hq0, hq1, hq2⟩ := info_parts info_u8
  refine wpOp_step ho (fun K hK => step_append_foot w rfl (.tmp 13) (.tmp 16) 28 rfl 5 i0 (.int .u8 0) 1 Tryz.underlying28 hi hq0 hq1 hq2 rfl B0 (.slice TA1 0 TC1) 0 [] q1 p1 TA4 4 TC4 (lc (fixB z)) q4 rfl (fun e => by subst e; exact owns_none p4) (owns_news p4 rfl) (lc_one _) (by unfold maxLen; omega) (by omega) (by subst hB0; exact hB.size) ?_)
  intro A' C' w' ho' hg
  rw [Nat.zero_add, List.nil_append] at ho'
  rw [Nat.zero_add] at hg
  refine hK _ _ ⟨_, rfl, ⟨A', C', rfl, ho'⟩, (Kept.of_below (F := fun _ => False) hB).trans (hg.kept (F := fun k => (Value.slice TA1 0 TC1).ownBlock = some k) (fun _ h => h)) (fun k hk h => by have := (owns_cells p1 k h).2.1; subst hB0; omega), ?_⟩
  intro i u h
  match i, h with
  | 0, h | 1, h | 2, h | 3, h | 4, h => exact trivial
  | 5, h => exact h.elim
  | 6, h => obtain ⟨b, h1, h2, h3⟩ := h; exact ⟨b, h1, h2, (hg.kept (F := fun k => (Value.slice TA1 0 TC1).ownBlock = some k) (fun _ h => h)).heap h3 (fun e => owns_tyne p1 h3 (by decide) e)⟩
  | k + 7, h => exact h
 ·intro x w hG hdef hsz hs hv
  have hx := frame_sets x.tmps t0 hsz [12, 13, 14, 15, 16, 17, 5] (fun s hn => hs s (fun j hj e => hn (by rw [e]; exact hsl j hj)))
  refine ⟨fun e => absurd e (by decide), fun _ => ?_⟩
  obtain ⟨TA5, TC5, q5, p5⟩ := hv 5 (by decide)
  obtain ⟨b6, q6, r6, p6⟩ := hv 6 (by decide)
  have hq := hQ (fun d => x.tmps.getD d undef) w b6 TA5 TC5 hG q5 p5 q6 r6 p6
  obtain ⟨c0, f0⟩ := cells1 p6
  have q5' : x.tmps.getD 17 undef = .slice TA5 4 TC5 := q5
  have q6' : x.tmps.getD 5 undef = .pointer (some ⟨b6, 0, none⟩) := q6
  obtain ⟨T, Df⟩ := x
  dsimp only at hx hdef hq q5' q6'
  subst hdef
  refine wpOp_step (o := fputA_ops[7]) rfl (fun K hK => ?_)
  simp only [Array.getD_eq_getD_getElem?] at q5' q6'
  clear hQ hs hv q5 q6 p5 p6 hsz ht
  simp only [fputA_ops]
  rw [← hx] at hq
  clear hx
  go_simp
  exact hK _ _ hq
abbrev fputZ_ops0 : Oper := ⟨some 27, .load 28 (.tmp 5), 28, "frame.go:26", #[], none⟩
abbrev fputZ_ops1 : Oper := ⟨some 28, .load 28 (.tmp 5), 28, "frame.go:26", #[], none⟩
abbrev fputZ_ops2 : Oper := ⟨some 29, .buildSlice 36 1 #[(0, .tmp 28)], 36, "frame.go:26", #[⟨1, .data⟩], none⟩
abbrev fputZ_ops3 : Oper := ⟨some 30, .call ⟨.value (.func 71), #[.tmp 29], #[36]⟩, 52, "frame.go:26", #[⟨2, .data⟩], none⟩
abbrev fputZ_ops4 : Oper := ⟨some 31, .call ⟨.value (.func 69), #[.tmp 30], #[52]⟩, 28, "frame.go:26", #[⟨3, .data⟩, ⟨3, .chain⟩], none⟩
abbrev fputZ_ops5 : Oper := ⟨some 32, .call ⟨.builtin .append, #[.tmp 27, .tmp 31], #[28, 28]⟩, 28, "frame.go:26", #[⟨0, .data⟩, ⟨4, .data⟩, ⟨4, .chain⟩], none⟩
abbrev fputZ_ops6 : Oper := ⟨some 2, .assign (.tmp 32), 28, "frame.go:26", #[⟨5, .data⟩, ⟨5, .chain⟩, ⟨0, .phase⟩, ⟨1, .phase⟩, ⟨2, .phase⟩, ⟨3, .phase⟩, ⟨4, .phase⟩, ⟨5, .phase⟩], none⟩
abbrev fputZ_ops7 : Oper := ⟨some 3, .assign (.const (.int .i64 0)), 29, "frame.go:26", #[⟨6, .chain⟩, ⟨0, .phase⟩, ⟨1, .phase⟩, ⟨2, .phase⟩, ⟨3, .phase⟩, ⟨4, .phase⟩, ⟨5, .phase⟩, ⟨6, .phase⟩], none⟩
def fputZ_ops : Array Oper := #[fputZ_ops0, fputZ_ops1, fputZ_ops2, fputZ_ops3, fputZ_ops4, fputZ_ops5, fputZ_ops6, fputZ_ops7]
def fputZ_slot : Nat → Nat
 | 0 => 27
 | 1 => 28
 | 2 => 29
 | 3 => 30
 | 4 => 31
 | 5 => 32
 | 6 => 2
 | 7 => 3
 | j + 8 => 1033 + j
theorem fputZ_inj (i j : Nat) (hi : i < 8) (hj : j < 8) (h : fputZ_slot i = fputZ_slot j) : i = j := by
 have key : ∀ i j : Fin 8, fputZ_slot i.val = fputZ_slot j.val → i = j := by decide
 exact Fin.mk.inj (key ⟨i, hi⟩ ⟨j, hj⟩ h)
def fputZ_pre : Nat → Bool
 | 0 => true
 | 1 => true
 | 2 => true
 | 3 => true
 | 4 => true
 | _ => false
def putZ_val (n FC B0 Bf : Nat) (FA : Option Addr) (L : List Nat) : Bool → Nat → Value → World → Prop
 | false, 0, v, w => v = .slice FA n FC
 | true, 0, v, w => True
 | false, 1, v, w => v = .slice FA n FC
 | true, 1, v, w => True
 | false, 2, v, w => ∃ g, v = .slice (some ⟨g, 0, none⟩) 1 1 ∧ w.heap[g]? = some (.cells #[.slice FA n FC] 28 (0, 0))
 | true, 2, v, w => True
 | false, 3, v, w => v = .int .u32 (crcL L : Nat)
 | true, 3, v, w => True
 | false, 4, v, w => ∃ TA TC, v = .slice TA (4) TC ∧ w.ownsRow B0 5 1 (.slice TA (4) TC) (4) (lc (fixB (crcL L)))
 | true, 4, v, w => True
 | false, 5, v, w => False
 | true, 5, v, w => ∃ TA TC, v = .slice TA (n + 4) TC ∧ w.ownsRow Bf 5 1 (.slice TA (n + 4) TC) (n + 4) (lc L ++ lc (fixB (crcL L)))
 | false, 6, v, w => False
 | true, 6, v, w => ∃ TA TC, v = .slice TA (n + 4) TC ∧ w.ownsRow Bf 5 1 (.slice TA (n + 4) TC) (n + 4) (lc L ++ lc (fixB (crcL L)))
 | false, 7, v, w => False
 | true, 7, v, w => v = .int .i64 0
 | _, _, _, _ => True
theorem putZ_below (n FC B0 Bf : Nat) (FA : Option Addr) (L : List Nat) (b : Bool) (w w' : World) (hb : Below w.heap.size w w') : ∀ j v, putZ_val n FC B0 Bf FA L b j v w → putZ_val n FC B0 Bf FA L b j v w' := by
 intro j v h
 match b, j, h with
 | false, 0, h => exact h
 | true, 0, h => exact h
 | false, 1, h => exact h
 | true, 1, h => exact h
 | false, 2, h => obtain ⟨g, h1, h2⟩ := h; exact ⟨g, h1, (hb.block _ (block_lt h2)).trans h2⟩
 | true, 2, h => exact h
 | false, 3, h => exact h
 | true, 3, h => exact h
 | false, 4, h => obtain ⟨TA, TC, h1, h2⟩ := h; exact ⟨TA, TC, h1, owns_thru h2 hb⟩
 | true, 4, h => exact h
 | false, 5, h => exact h
 | true, 5, h => obtain ⟨TA, TC, h1, h2⟩ := h; exact ⟨TA, TC, h1, owns_thru h2 hb⟩
 | false, 6, h => exact h
 | true, 6, h => obtain ⟨TA, TC, h1, h2⟩ := h; exact ⟨TA, TC, h1, owns_thru h2 hb⟩
 | false, 7, h => exact h
 | true, 7, h => exact h
 | false, _ + 8, h => exact h
 | true, _ + 8, h => exact h
abbrev fputZ_mem (s : Nat) : Prop := s ∈ [27, 28, 29, 30, 31, 32, 2, 3]
theorem putZ (n FC B0 Bf : Nat) (FA : Option Addr) (L : List Nat) (bx : Nat) (Q : Exit → Act → World → Prop) (t0 : Array Value) (df : List Deferred) (w0 : World) (ht : t0.size = 33)
  (hs5 : t0.getD 5 undef = .pointer (some ⟨bx, 0, none⟩))
  (hbx : w0.heap[bx]? = some (.cells #[.slice FA n FC] 28 (0, 0))) (hL : L.length = n) (hn : n ≤ 1000000) (hlt : ∀ b ∈ L, b < 256) (hown : w0.ownsRow Bf 5 1 (.slice FA n FC) n (lc L)) (hBf : Bf ≤ w0.heap.size) (hB0 : B0 = w0.heap.size)
  (hQ : ∀ (vs : Nat → Value) (w : World) TA TC, Kept (fun k => (Value.slice FA n FC).ownBlock = some k) w0 w → vs 2 = .slice TA (n + 4) TC → w.ownsRow Bf 5 1 (.slice TA (n + 4) TC) (n + 4) (lc L ++ lc (fixB (crcL L))) → vs 3 = .int .i64 0 → Q .normal { tmps := [27, 28, 29, 30, 31, 32, 2, 3].foldl (fun y d => y.setIfInBounds d (vs d)) t0, defers := df } w) :
  (Code.region 9 fputZ_ops true).wp Tryz.prog Q { tmps := t0, defers := df } w0 := by
 have hsl : ∀ j, j < 8 → fputZ_mem (fputZ_slot j) := by
  intro j hj
  match j, hj with
  | 0, _ => exact (by decide : fputZ_mem 27)
  | 1, _ => exact (by decide : fputZ_mem 28)
  | 2, _ => exact (by decide : fputZ_mem 29)
  | 3, _ => exact (by decide : fputZ_mem 30)
  | 4, _ => exact (by decide : fputZ_mem 31)
  | 5, _ => exact (by decide : fputZ_mem 32)
  | 6, _ => exact (by decide : fputZ_mem 2)
  | 7, _ => exact (by decide : fputZ_mem 3)
  | k + 8, hj => omega
 refine wp_region_pivot 8 5 (by kernel_rfl) ?_ (by decide) fputZ_pre fputZ_slot (putZ_val n FC B0 Bf FA L) (Kept (fun k => (Value.slice FA n FC).ownBlock = some k) w0) t0 df w0 ?_ (fputZ_inj) ?_ ?_ rfl (putZ_below n FC B0 Bf FA L) ?_ ?_ ?_ ?_
 ·exact .inl rfl
 ·intro j o ho hj
  rw [ht]
  match j, ho, hj with
  | 0, ho, _ | 1, ho, _ | 2, ho, _ | 3, ho, _ | 4, ho, _ | 5, ho, _ | 6, ho, _ | 7, ho, _ => cases ho; exact ⟨rfl, by decide⟩
  | k + 8, _, hj => omega
 ·intro j o ho
  have hj : j < 8 := (Array.getElem?_eq_some_iff.1 ho).1
  match j, ho with
  | 0, ho | 1, ho | 2, ho | 3, ho | 4, ho | 5, ho | 6, ho | 7, ho => cases ho; decide
  | k + 8, _ => omega
 ·intro listed o hup ho hd
  have e : o = fputZ_ops5 := (Option.some.inj ho).symm; unfold fputZ_ops5 at e
  subst e
  have l0 : listed.getD 0 false = true := hd ⟨0, .data⟩ (by simp) rfl
  have l4 : listed.getD 4 false = true := hd ⟨4, .data⟩ (by simp) rfl
  have l3 : listed.getD 3 false = true := hup 4 ⟨some 31, .call ⟨.value (.func 69), #[.tmp 30], #[52]⟩, 28, "frame.go:26", #[⟨3, .data⟩, ⟨3, .chain⟩], none⟩ rfl l4 ⟨3, .data⟩ (by simp) rfl
  have l2 : listed.getD 2 false = true := hup 3 ⟨some 30, .call ⟨.value (.func 71), #[.tmp 29], #[36]⟩, 52, "frame.go:26", #[⟨2, .data⟩], none⟩ rfl l3 ⟨2, .data⟩ (by simp) rfl
  have l1 : listed.getD 1 false = true := hup 2 ⟨some 29, .buildSlice 36 1 #[(0, .tmp 28)], 36, "frame.go:26", #[⟨1, .data⟩], none⟩ rfl l2 ⟨1, .data⟩ (by simp) rfl
  intro j hj hp
  match j, hj, hp with
  | 0, _, hp | 1, _, hp | 2, _, hp | 3, _, hp | 4, _, hp => assumption
  | 5, _, hp | 6, _, hp | 7, _, hp => cases hp
  | k + 8, hj, _ => omega
 ·intro w w' hb hg
  exact hg.trans (Kept.of_below (F := fun _ => False) hb) (fun _ _ h => h.elim)
 ·intro b j o ho hj hjp hpre x w hB hGw hdef hsz hs hdeps
  have hs' : ∀ s, ¬ fputZ_mem s → x.tmps.getD s undef = t0.getD s undef := fun s hn => hs s (fun j hj e => hn (by rw [e]; exact hsl j hj))
  have u5 := (hs' 5 (by decide)).trans hs5
  clear hs hs' hsl hsz ht hQ hs5
  simp only [Array.getD_eq_getD_getElem?] at u5
  match b, j, ho, hj, hjp, hpre with
  | false, 0, ho, _, _, _ =>
    have e : o = fputZ_ops0 := (Option.some.inj ho).symm; unfold fputZ_ops0 at e
    subst e
    have hB := hB rfl
    clear hdeps
    have c0 : w.cell? ⟨bx, 0, none⟩ = some (.slice FA n FC) := cell_of_row _ bx 0 _ _ _ ((hB.block _ (block_lt hbx)).trans hbx)
    refine wpOp_step ho (fun K hK => ?_)
    clear ho
    go_simp
    exact hK _ _ ⟨_, act_putD x hdef _ _, rfl, Below.refl _ _⟩
  | true, 0, _, _, _, hpre => exact absurd (hpre rfl) (by decide)
  | false, 1, ho, _, _, _ =>
    have e : o = fputZ_ops1 := (Option.some.inj ho).symm; unfold fputZ_ops1 at e
    subst e
    have hB := hB rfl
    clear hdeps
    have c0 : w.cell? ⟨bx, 0, none⟩ = some (.slice FA n FC) := cell_of_row _ bx 0 _ _ _ ((hB.block _ (block_lt hbx)).trans hbx)
    refine wpOp_step ho (fun K hK => ?_)
    clear ho
    go_simp
    exact hK _ _ ⟨_, act_putD x hdef _ _, rfl, Below.refl _ _⟩
  | true, 1, _, _, _, hpre => exact absurd (hpre rfl) (by decide)
  | false, 2, ho, _, _, _ =>
    have e : o = fputZ_ops2 := (Option.some.inj ho).symm; unfold fputZ_ops2 at e
    subst e
    obtain q1 := hdeps ⟨1, .data⟩ (by simp) rfl
    have q1 : x.tmps.getD 28 undef = .slice FA n FC := q1
    have hB := hB rfl
    simp only [Array.getD_eq_getD_getElem?] at q1
    clear hdeps
    refine wpOp_step ho (fun K hK => ?_)
    clear ho
    go_simp
    exact hK _ _ ⟨_, act_putD x hdef _ _, ⟨_, rfl, heap_alloc_new _ _⟩, below_alloc _ _⟩
  | true, 2, _, _, _, hpre => exact absurd (hpre rfl) (by decide)
  | false, 3, ho, _, _, _ =>
    have e : o = fputZ_ops3 := (Option.some.inj ho).symm; unfold fputZ_ops3 at e
    subst e
    obtain ⟨g2, q2, p2⟩ := hdeps ⟨2, .data⟩ (by simp) rfl
    have q2 : x.tmps.getD 29 undef = .slice (some ⟨g2, 0, none⟩) 1 1 := q2
    have hB := hB rfl
    simp only [Array.getD_eq_getD_getElem?] at q2
    clear hdeps
    obtain ⟨_, A1, C1, hvs, hAC, hCm, _, _, hbl, _⟩ := owns_bl hown hlt
    cases hvs
    have hsm := sum_one g2 FA n FC (fun i => L.getD i 0) w (by omega) hCm (cell_of_row _ g2 0 _ _ _ p2) (by have := hbl.below hB; unfold BL at this; rw [hL] at this; exact this)
    rw [show sumN (fun i => L.getD i 0) n = crcL L from by unfold crcL; rw [hL]] at hsm
    clear hbl
    refine wpOp_step ho (fun K hK => ?_)
    clear ho
    go_simp
    refine hsm.mono ?_
    rintro e w' ⟨rfl, hb⟩
    exact hK _ _ ⟨_, act_putD x hdef _ _, rfl, hb⟩
  | true, 3, _, _, _, hpre => exact absurd (hpre rfl) (by decide)
  | false, 4, ho, _, _, _ =>
    have e : o = fputZ_ops4 := (Option.some.inj ho).symm; unfold fputZ_ops4 at e
    subst e
    obtain q3 := hdeps ⟨3, .data⟩ (by simp) rfl
    have q3 : x.tmps.getD 30 undef = .int .u32 (crcL L : Nat) := q3
    have hB := hB rfl
    simp only [Array.getD_eq_getD_getElem?] at q3
    clear hdeps
    refine wpOp_step ho (fun K hK => ?_)
    clear ho
    go_simp
    refine (fbytesOf_any (crcL L) w (crcL_lt L)).mono ?_
    rintro e w' ⟨v, rfl, ho, hb⟩
    obtain ⟨TA, TC, rfl⟩ := owns_slice ho
    exact hK _ _ ⟨_, act_putD x hdef _ _, ⟨TA, TC, rfl, owns_lower ho (by subst hB0; exact hB.size)⟩, hb⟩
  | true, 4, _, _, _, hpre => exact absurd (hpre rfl) (by decide)
  | _, 5, _, _, hjp, _ => exact absurd rfl hjp
  | false, 6, ho, _, _, _ =>
    have e : o = fputZ_ops6 := (Option.some.inj ho).symm; unfold fputZ_ops6 at e
    subst e
    exact (hdeps ⟨5, .data⟩ (by simp) rfl : False).elim
  | true, 6, ho, _, _, _ =>
    have e : o = fputZ_ops6 := (Option.some.inj ho).symm; unfold fputZ_ops6 at e
    subst e
    obtain ⟨TA5, TC5, q5, p5⟩ := hdeps ⟨5, .data⟩ (by simp) rfl
    have q5 : x.tmps.getD 32 undef = .slice TA5 (n + 4) TC5 := q5
    have hGw := hGw rfl
    simp only [Array.getD_eq_getD_getElem?] at q5
    clear hdeps
    refine wpOp_step ho (fun K hK => ?_)
    clear ho
    go_simp
    exact hK _ _ ⟨_, act_putD x hdef _ _, ⟨_, _, rfl, p5⟩, Below.refl _ _⟩
  | false, 7, ho, _, _, _ =>
    have e : o = fputZ_ops7 := (Option.some.inj ho).symm; unfold fputZ_ops7 at e
    subst e
    exact (hdeps ⟨6, .chain⟩ (by simp) rfl : False).elim
  | true, 7, ho, _, _, _ =>
    have e : o = fputZ_ops7 := (Option.some.inj ho).symm; unfold fputZ_ops7 at e
    subst e
    have hGw := hGw rfl
    clear hdeps
    refine wpOp_step ho (fun K hK => ?_)
    clear ho
    go_simp
    exact hK _ _ ⟨_, act_putD x hdef _ _, rfl, Below.refl _ _⟩
  | _, k + 8, _, hj, _, _ => omega
 ·intro o ho x w hB hdef hsz hs hdeps
  have hs' : ∀ s, ¬ fputZ_mem s → x.tmps.getD s undef = t0.getD s undef := fun s hn => hs s (fun j hj e => hn (by rw [e]; exact hsl j hj))
  have u5 := (hs' 5 (by decide)).trans hs5
  clear hs hs' hsl hsz ht hQ hs5
  simp only [Array.getD_eq_getD_getElem?] at u5
  have e : o = fputZ_ops5 := (Option.some.inj ho).symm; unfold fputZ_ops5 at e
  subst e
  obtain q0 := hdeps ⟨0, .data⟩ (by simp) rfl
  have q0 : x.tmps.getD 27 undef = .slice FA n FC := q0
  obtain ⟨TA4, TC4, q4, p4⟩ := hdeps ⟨4, .data⟩ (by simp) rfl
  have q4 : x.tmps.getD 31 undef = .slice TA4 (4) TC4 := q4
  clear hdeps
  obtain ⟨i0, hi, hq0, hq1, hq2⟩ := info_parts info_u8
  refine wpOp_step ho (fun K hK => step_append_foot w rfl (.tmp 27) (.tmp 31) 28 rfl 5 i0 (.int .u8 0) 1 Tryz.underlying28 hi hq0 hq1 hq2 rfl Bf (.slice FA n FC) n (lc L) q0 (owns_thru hown hB) TA4 4 TC4 (lc (fixB (crcL L))) q4 rfl (fun e => by subst e; exact owns_none p4) (owns_news p4 rfl) (lc_one _) (by unfold maxLen; omega) (by omega) (Nat.le_trans hBf hB.size) ?_)
  intro A' C' w' ho' hg
  refine hK _ _ ⟨_, rfl, ⟨A', C', rfl, ho'⟩, (Kept.of_below (F := fun k => (Value.slice FA n FC).ownBlock = some k) hB).trans (hg.kept (F := fun k => (Value.slice FA n FC).ownBlock = some k) (fun _ h => h)) (fun k hk h => h), ?_⟩
  intro i u h
  match i, h with
  | 0, h | 1, h | 2, h | 3, h | 4, h => exact trivial
  | 5, h | 6, h | 7, h => exact h.elim
  | k + 8, h => exact h
 ·intro x w hG hdef hsz hs hv
  have hx := frame_sets x.tmps t0 hsz [27, 28, 29, 30, 31, 32, 2, 3] (fun s hn => hs s (fun j hj e => hn (by rw [e]; exact hsl j hj)))
  refine ⟨fun _ => ?_, fun e => absurd e (by decide)⟩
  obtain ⟨TA6, TC6, q6, p6⟩ := hv 6 (by decide)
  have q7 := hv 7 (by decide)
  have hq := hQ (fun d => x.tmps.getD d undef) w TA6 TC6 hG q6 p6 q7
  obtain ⟨T, Df⟩ := x
  dsimp only at hx hdef hq
  subst hdef
  rw [← hx] at hq
  exact hq
open Go.RowKit Go.Shelf
attribute [local go_sem] Oper.semAt_some
theorem pts_ok {w : World} {a : Option Addr} {n k : Nat} {P : Nat → Prt} (hP : Prts w a n P) (hs : sizeB (pts P n) ≤ 1000000) (hk : k ≤ n) : ∀ p ∈ pts P k, okPart p := by
 intro p hp
 simp only [pts, List.mem_map, List.mem_range] at hp
 obtain ⟨i, hi, rfl⟩ := hp
 obtain ⟨_, _, _, _, hok⟩ := hP.cells i (by omega)
 have := bodyB_one P (show i < n by omega)
 unfold sizeB at hs
 exact ⟨hok.T, hok.bB.lt, by show (P i).B.length ≤ maxNum; unfold maxNum; omega⟩
def ahd (sz : Nat) (P : Nat → Prt) (k : Nat) : List Nat := fixB sz ++ bodyB (pts P k)
theorem ahd_len (sz : Nat) (P : Nat → Prt) (k : Nat) : (ahd sz P k).length = 4 + (bodyB (pts P k)).length := by simp [ahd, fixB_len]
theorem ahd_succ (sz : Nat) (P : Nat → Prt) (k : Nat) : ahd sz P (k + 1) = ahd sz P k ++ headP (P k).T (P k).B.length ++ (P k).B := by
 unfold ahd
 rw [pts_succ, bodyB_snoc]
 simp [partB, pt]
def FI (w : World) (bx sz : Nat) (P : Nat → Prt) (pre : List LV) (W : World) : Prop :=
 ∃ A C, W.heap[bx]? = some (.cells #[.slice A (ahd sz P pre.length).length C] 28 (0, 0)) ∧ W.ownsRow w.heap.size 5 1 (.slice A (ahd sz P pre.length).length C) (ahd sz P pre.length).length (lc (ahd sz P pre.length)) ∧ Below w.heap.size w W
def FM (w : World) (bx sz n : Nat) (P : Nat → Prt) (pre : List LV) (x : LV) (W : World) : Prop :=
 pre.length < n ∧ ∃ A C M, W.heap[bx]? = some (.cells #[.slice A (ahd sz P pre.length).length C] 28 (0, 0)) ∧ W.ownsRow w.heap.size 5 1 (.slice A (ahd sz P pre.length).length C) (ahd sz P pre.length).length (lc (ahd sz P pre.length)) ∧ Below w.heap.size w W ∧
  (∀ g, (Value.slice A (ahd sz P pre.length).length C).ownBlock = some g → g < M) ∧ W.ownsRow M 5 1 x.1 (headP (P pre.length).T (P pre.length).B.length).length (lc (headP (P pre.length).T (P pre.length).B.length)) ∧
  x.2 = .slice (P pre.length).pB (P pre.length).B.length (P pre.length).cB
def FE (w : World) (bx sz n : Nat) (P : Nat → Prt) (xs : List LV) (W : World) : Prop := xs.length = n ∧ FI w bx sz P xs W
theorem FI.own {w : World} {bx sz B : Nat} {P : Nat → Prt} (hB : w.heap.size ≤ B) : OwnFrom B (FI w bx sz P) := by
 rintro pre X Y row ⟨A, C, h1, h2, h3⟩ hg hr
 have ck := CellsKept.of_grown hg (fun r e => (hr r e).2)
 exact ⟨A, C, ck _ _ _ _ h1, ck.own h2, h3.grown hg h3.size (fun r e => by have := (hr r e).1; omega)⟩
theorem FM.own {w : World} {bx sz n B : Nat} {P : Nat → Prt} {x : LV} (hB : w.heap.size ≤ B) : OwnFrom B (fun pre => FM w bx sz n P pre x) := by
 rintro pre X Y row ⟨h0, A, C, M, h1, h2, h3, h4, h5, h6⟩ hg hr
 have ck := CellsKept.of_grown hg (fun r e => (hr r e).2)
 exact ⟨h0, A, C, M, ck _ _ _ _ h1, ck.own h2, h3.grown hg h3.size (fun r e => by have := (hr r e).1; omega), h4, ck.own h5, h6⟩
theorem FI.below {w A B : World} {bx sz : Nat} {P : Nat → Prt} {pre : List LV} (h : FI w bx sz P pre A) (hb : Below A.heap.size A B) : FI w bx sz P pre B := by
 obtain ⟨a, c, h1, h2, h3⟩ := h
 exact ⟨a, c, (hb.block _ (block_lt h1)).trans h1, owns_thru h2 hb, h3.trans (hb.mono h3.size)⟩
theorem FI.mid {w A B : World} {bx sz n : Nat} {P : Nat → Prt} {pre : List LV} {x : LV} (h : FI w bx sz P pre A) (hg : GLaid n P pre A x B) : FM w bx sz n P pre x B := by
 obtain ⟨a, c, h1, h2, h3⟩ := h
 obtain ⟨g1, g2, g3, g4, g5⟩ := hg
 exact ⟨g1, a, c, A.heap.size, (g2.block _ (block_lt h1)).trans h1, owns_thru h2 g2, h3.trans (g2.mono h3.size), fun g hv => (owns_cells h2 g hv).1, g3, g4⟩
theorem fput_in (N : Nat) (hN : 10 ≤ N) (a : Option Addr) (n cap : Nat) (P : Nat → Prt) (w : World) (hP : Prts w a n P) (hn : n ≤ 140737488355328) (hs : sizeB (pts P n) ≤ 1000000) :
  CallsIn Fence.wide N Tryz.prog 36 #[.slice a n cap] w fun e w' => ∃ v, e = .returned (.tuple #[v, .int .i64 0]) ∧ w'.ownsRow w.heap.size 5 1 v (sizeB (pts P n)) (lc (fileB (pts P n))) ∧ Below w.heap.size w w' := by
 have hsz := sizeOf_in (N - 1) (by omega) a n cap P w hP hn hs
 have hLs : ∀ i, i < n → (P i).B.length ≤ 1000000 := fun i hi => by have := bodyB_one P hi; unfold sizeB at hs; omega
 have hok := fun k => pts_ok (k := k) hP hs
 obtain ⟨sz, hzz⟩ : ∃ sz, sizeB (pts P n) = sz := ⟨_, rfl⟩
 have hszb : (bodyB (pts P n)).length + 8 = sz := hzz
 rw [hzz] at hsz hs ⊢
 refine callsIn_of_wp_marks Tryz.func36 rfl trivial ?_ rfl
 simp only [Tryz.ntmps36, List.size_toArray, List.length_cons, List.length_nil, Nat.reduceAdd, Nat.reduceSub, Array.replicate_succ, Array.replicate_zero, List.push_toArray, List.append_toArray, List.nil_append, List.cons_append]
 have HP := hide hP
 have HOK := hide hok
 have HLS := hide hLs
 have HZ := hide (And.intro hzz hszb)
 clear hP hok hLs hzz hszb
 gi_wp2
 refine ⟨trivial, fun _ => by omega, hsz.mono ?_⟩
 rintro e w1 ⟨rfl, hB1⟩
 have hz0 : (0 : Int) ≤ (sz : Int) := by omega
 have hz1 : (sz : Int) ≤ 1000000 := by omega
 clear hsz
 gi_wp2
 refine wpIn_wide.2 (putA sz w1.heap.size _ _ _ _ rfl rfl (by omega) rfl ?_)
 intro vs w2 bx TA TC hK2 h17 hown h5 hbx hbc
 simp only [List.foldl_cons, List.foldl_nil, List.setIfInBounds_toArray, List.set_cons_succ, List.set_cons_zero]
 rw [h17, h5]
 generalize vs 12 = y12
 generalize vs 13 = y13
 generalize vs 14 = y14
 generalize vs 15 = y15
 generalize vs 16 = y16
 clear h17 h5
 obtain ⟨W2, hW2⟩ : ∃ W2, w2.setCell ⟨bx, 0, none⟩ (.slice TA 4 TC) = W2 := ⟨_, rfl⟩
 have hK2' : Kept (fun k => k = bx) w2 W2 := by rw [← hW2]; exact (Kept.refl (fun k => k = bx) w2).setCell (.inl rfl) _
 have hb2 : W2.heap[bx]? = some (.cells #[.slice TA 4 TC] 28 (0, 0)) := by rw [← hW2]; exact heap_setCell_same w2 bx 0 _ _ _ hbc
 have ho2 : W2.ownsRow w1.heap.size 5 1 (.slice TA 4 TC) 4 (lc (fixB sz)) := owns_kept hown hK2' (fun g hg e => by subst e; exact owns_tyne hown hbc (by decide) hg)
 have hBw : Below w.heap.size w W2 := ((Kept.of_below (F := fun k => w.heap.size ≤ k) hB1).trans (hK2.trans hK2' (fun k hk e => by omega)) (fun k hk h => h.elim)).below (fun _ h => h) (Nat.le_refl _)
 have hI0 : FI w bx sz P [] W2 := ⟨TA, TC, by simpa [ahd, pts, bodyB, fixB_len] using hb2, owns_lower (by simpa [ahd, pts, bodyB, fixB_len] using ho2) hB1.size, hBw⟩
 have hbxw : w.heap.size ≤ bx := Nat.le_trans hB1.size hbx
 have HI0 := hide hI0
 have HBW := hide hBw
 rw [hW2]
 clear hI0 hb2 ho2 hK2' hK2 hown hbc hW2
 gi_wp2
 refine ⟨trivial, fun _ => by omega, (laid_in Fence.wide (N - 1) trivial rfl a n cap W2).mono ?_⟩
 rintro e w3 ⟨rfl, rfl⟩
 obtain ⟨W3, hW3⟩ : ∃ W3, W2.alloc (.cells #[.slice a n cap] 41) = W3 := ⟨_, rfl⟩
 rw [hW3]
 have hB3 : Below W2.heap.size W2 W3 := by rw [← hW3]; exact below_alloc _ _
 have hs3 : W3.heap.size = W2.heap.size + 1 := by rw [← hW3]; simp
 have hbs : W3.cell? ⟨W2.heap.size, 0, none⟩ = some (.slice a n cap) := by rw [← hW3]; exact (cell_new_l W2 _ _).1
 have hBw3 : Below w.heap.size w W3 := HBW.out.trans (hB3.mono HBW.out.size)
 have hI3 := HI0.out.below hB3
 have hstop := laid_stops (N - 1) (by omega) W2.heap.size n cap a P w W3 HP.out HLS.out hn hBw3 hbs
 have HS3 := hide hs3
 clear hbs hs3 hW3
 gi_wp2
 refine wpIn_rangeFunc_G rfl (by omega) (gf := 123) (lb := #[.pointer (some ⟨W2.heap.size, 0, none⟩)]) rfl trivial (enters_of Tryz.func123 (by kernel_rfl) rfl)
  hstop (fun _ _ _ _ h => (Kept.of_below (F := fun _ => False) h.2.1).keepsOthers) (fun _ _ _ h => (Kept.of_below (F := fun _ => False) h.2).keepsOthers) (fun _ _ _ h => (Kept.of_below (F := fun _ => False) h).keepsOthers) belowK_t (fun W l o o' h1 h2 h3 => (Below.refl w.heap.size W).grown (grownBy_putObj' W l o') (by have := (Array.getElem?_eq_some_iff.1 h2).1; have := hBw3.size; omega) (fun k e => by cases e; have := hBw3.size; omega)) (Below.refl _ _) (fun _ => rfl)
  (FI w bx sz P) (fun _ _ _ => False) (FM w bx sz n P) (FE w bx sz n P) (fun _ _ _ => False) (FI.own hBw3.size) (fun _ _ _ _ _ h _ _ => h) ?eo (fun _ _ _ _ _ h _ _ => h)
  (fun _ _ _ _ h1 h2 => h1.mid h2) (fun _ _ _ h1 h2 => ⟨h2.1, h1.below h2.2⟩) (fun _ _ _ _ h _ => h) hI3
  (fun pre x a' W => a' = { tmps := #[.slice a n cap, undef, .slice none 0 0, .int .i64 0, .int .i64 sz, .pointer (some ⟨bx, 0, none⟩), x.1, x.2, .slice a n cap, .int .i64 sz, .int .i64 sz, .bool (decide (67108864 < (sz : Int))), y12, y13, y14, y15, y16, .slice TA 4 TC, .slice a n cap, .func (.func 123) #[] #[.pointer (some ⟨W2.heap.size, 0, none⟩)], x.1, x.2, undef, undef, undef, undef, undef, undef, undef, undef, undef, undef, undef], defers := [] } ∧
   FM w bx sz n P pre x W) ?m2 ?assign ?body ?done (fun _ _ _ _ _ h _ => h.elim)
 case eo =>
  rintro xs X Y row ⟨h1, h2⟩ hg hr
  exact ⟨h1, FI.own hBw3.size xs X Y row h2 hg hr⟩
 case m2 =>
  rintro x a' pre X Y row ⟨h1, h2⟩ hg hr
  exact ⟨h1, FM.own (x := x) hBw3.size pre X Y row h2 hg hr⟩
 case assign =>
  intro l pre x W K hM hK
  have HK := hide (hK _ W (KeepsOthers.refl _) (Below.refl _ _) ⟨rfl, hM⟩)
  obtain ⟨x1, x2⟩ := x
  obtain ⟨_, A1, C1, M, _, _, _, _, h5, h6⟩ := hM
  obtain ⟨A2, C2, e2⟩ := owns_slice h5
  clear hK hstop h5 hI3
  simp only at e2 h6
  subst e2 h6
  simp only [encL]
  gi_wp2
  exact HK.out
 case body =>
  rintro l pre ⟨x1, x2⟩ a' W ⟨rfl, hkn, FA, FC, M, h1, h2, h3, h4, h5, h6⟩
  obtain ⟨HA, HC, hx1⟩ := owns_slice h5
  simp only at hx1 h5 h6
  subst hx1 h6
  obtain ⟨i0, hi, hq0, hq1, hq2⟩ := info_parts info_u8
  obtain ⟨d0, df0⟩ := cells1 h1
  have hw1 := Nat.le_trans HBW.out.size (Nat.le_refl _)
  obtain ⟨_, _, _, _, hpk⟩ := HP.out.cells pre.length hkn
  have hpW := hpk.kept (Kept.of_below (F := fun k => w.heap.size ≤ k) ⟨h3.os, h3.tape, h3.output, h3.size, h3.block⟩) (fun k hk h => by omega)
  have hsc := ahd_succ sz P pre.length
  have hlen := ahd_len sz P pre.length
  have hlen1 := ahd_len sz P (pre.length + 1)
  have hmono := bodyB_mono P (show pre.length + 1 ≤ n by omega)
  have hh6 : (ahd sz P (pre.length + 1)).length ≤ 1000000 := by rw [hlen1]; have := HZ.out.2; omega
  have hsl : (ahd sz P (pre.length + 1)).length = (ahd sz P pre.length).length + (headP (P pre.length).T (P pre.length).B.length).length + (P pre.length).B.length := by rw [hsc]; simp only [List.length_append]
  have hnk1 : HA = none → (headP (P pre.length).T (P pre.length).B.length).length = 0 ∧ HC = 0 := fun e => by subst e; exact owns_none h5
  have hnk2 : (P pre.length).pB = none → (P pre.length).B.length = 0 ∧ (P pre.length).cB = 0 := fun e => by have := hpk.nB e; have := hpk.lB; omega
  have hnews1 := owns_news h5 rfl
  have hone1 := lc_one (headP (P pre.length).T (P pre.length).B.length)
  have hone2 := lc_one (P pre.length).B
  have hll1 := lc_length (headP (P pre.length).T (P pre.length).B.length)
  have hll2 := lc_length (P pre.length).B
  have HD := hide (And.intro h1 (And.intro h2 (And.intro h3 (And.intro h4 (And.intro h5 hpW)))))
  have HSC := hide hsc
  have hat := hpk.atB
  have HSL := hide (And.intro hsl (And.intro hlen hlen1))
  have hsum : (ahd sz P pre.length).length + (headP (P pre.length).T (P pre.length).B.length).length + (P pre.length).B.length ≤ 1000000 := by omega
  have hsum0 : (ahd sz P pre.length).length + (headP (P pre.length).T (P pre.length).B.length).length ≤ 1000000 := by omega
  have hbase : w.heap.size ≤ W.heap.size := h3.size
  clear h1 h4 h5 hpW hsc hlen hlen1 hmono hh6 hsl hstop hI3
  gi_wp2_with (gi_at_builtin; first
   | (refine listIn_append _ rfl (.tmp 22) (.tmp 23) 28 rfl 5 i0 (.int .u8 0) 1 Tryz.underlying28 hi hq0 hq1 hq2 rfl w.heap.size (.slice FA (ahd sz P pre.length).length FC) (ahd sz P pre.length).length (lc (ahd sz P pre.length)) rfl h2 HA (headP (P pre.length).T (P pre.length).B.length).length HC (lc (headP (P pre.length).T (P pre.length).B.length)) rfl hll1 hnk1 hnews1 hone1 (by unfold maxLen; omega) (by omega) hbase ?_; intro A1 C1 wa hown1 hg1
      have hnews2 := (HD.out.2.2.2.2.2.bB.kept0 (hg1.kept (F := fun k => w.heap.size ≤ k) (fun g hg => (owns_cells h2 g hg).2.1)) (fun g o s e h0 hw => by have := hat g o s e h0; omega)).news
      have hbase1 : w.heap.size ≤ wa.heap.size := Nat.le_trans hbase (hg1.kept (F := fun k => w.heap.size ≤ k) (fun g hg => (owns_cells h2 g hg).2.1)).size)
   | (refine listIn_append _ rfl (.tmp 24) (.tmp 25) 28 rfl 5 i0 (.int .u8 0) 1 Tryz.underlying28 hi hq0 hq1 hq2 rfl w.heap.size (.slice A1 ((ahd sz P pre.length).length + (headP (P pre.length).T (P pre.length).B.length).length) C1) ((ahd sz P pre.length).length + (headP (P pre.length).T (P pre.length).B.length).length) (lc (ahd sz P pre.length) ++ lc (headP (P pre.length).T (P pre.length).B.length)) rfl hown1 (P pre.length).pB (P pre.length).B.length (P pre.length).cB (lc (P pre.length).B) rfl hll2 hnk2 hnews2 hone2 (by unfold maxLen; omega) (by omega) hbase1 ?_; intro A2 C2 wb hown2 hg2
      have e0 := (hg2.kept (F := fun k => k ≠ bx) (fun g hgb e => by subst e; exact owns_tyne hown1 ((hg1.kept (F := fun k => k ≠ g) (fun g' hgb' e' => by subst e'; exact owns_tyne h2 HD.out.1 (by decide) hgb')).heap HD.out.1 (fun h => h rfl)) (by decide) hgb)).heap ((hg1.kept (F := fun k => k ≠ bx) (fun g hgb e => by subst e; exact owns_tyne h2 HD.out.1 (by decide) hgb)).heap HD.out.1 (fun h => h rfl)) (fun h => h rfl)
      obtain ⟨c0, cf0⟩ := cells1 e0))
  have hKa : Kept (fun k => w.heap.size ≤ k) W wb := (hg1.kept (F := fun k => w.heap.size ≤ k) (fun g hg => (owns_cells h2 g hg).2.1)).trans (hg2.kept (F := fun k => w.heap.size ≤ k) (fun g hg => (owns_cells hown1 g hg).2.1)) (fun _ _ h => h)
  have hKb : Kept (fun k => w.heap.size ≤ k) W (wb.setCell ⟨bx, 0, none⟩ (.slice A2 ((ahd sz P pre.length).length + (headP (P pre.length).T (P pre.length).B.length).length + (P pre.length).B.length) C2)) := hKa.setCell (.inl hbxw) _
  have hKc : Kept (fun k => k = bx) wb (wb.setCell ⟨bx, 0, none⟩ (.slice A2 ((ahd sz P pre.length).length + (headP (P pre.length).T (P pre.length).B.length).length + (P pre.length).B.length) C2)) := (Kept.refl (fun k => k = bx) wb).setCell (.inl rfl) _
  have hbel : Below w.heap.size W (wb.setCell ⟨bx, 0, none⟩ (.slice A2 ((ahd sz P pre.length).length + (headP (P pre.length).T (P pre.length).B.length).length + (P pre.length).B.length) C2)) := hKb.below (fun _ h => h) hbase
  refine ⟨hKb.keepsOthers, hbel, ⟨A2, C2, ?_, ?_, h3.trans hbel⟩⟩
  ·rw [List.length_append, List.length_cons, List.length_nil, HSL.out.1]
   exact heap_setCell_same _ bx 0 _ _ _ e0
  ·rw [List.length_append, List.length_cons, List.length_nil, HSL.out.1, HSC.out, lc_append, lc_append]
   exact owns_kept hown2 hKc (fun g hgb e => by subst e; exact owns_tyne hown2 e0 (by decide) hgb)
 case done =>
  rintro D xs X hD ⟨hl, FA, FC, h1, h2, h3⟩ hKD
  have hM : Marks w.heap.size [{ target := .collected D, args := #[] }] X := ⟨⟨D, rfl, by have := hBw3.size; omega, hKD, fun _ h => by cases h⟩, trivial⟩
  rw [hl] at h1 h2
  have hlt : ∀ b ∈ ahd sz P n, b < 256 := by
   intro b hb
   rcases List.mem_append.1 hb with hb | hb
   ·simp only [fixB, List.mem_cons, List.not_mem_nil, or_false] at hb; omega
   ·exact bodyB_lt (HOK.out n (Nat.le_refl _)) b hb
  have hll : (ahd sz P n).length + 4 = sz := by rw [ahd_len]; have := HZ.out.2; omega
  have hfile : ahd sz P n ++ fixB (crcL (ahd sz P n)) = fileB (pts P n) := by
   have : ahd sz P n = aheadB (pts P n) := by unfold ahd aheadB; rw [HZ.out.1]
   unfold fileB
   rw [this]
  have hend : ∀ (tmps : Array Value) (X' : World) TA' TC', Kept (fun k => (Value.slice FA (ahd sz P n).length FC).ownBlock = some k) X X' → tmps.getD 2 undef = .slice TA' ((ahd sz P n).length + 4) TC' → X'.ownsRow w.heap.size 5 1 (.slice TA' ((ahd sz P n).length + 4) TC') ((ahd sz P n).length + 4) (lc (ahd sz P n) ++ lc (fixB (crcL (ahd sz P n)))) → tmps.getD 3 undef = .int .i64 0 →
    LeavesInM Fence.wide N Tryz.prog Tryz.f36 tmps (fun e w' => ∃ v, e = .returned (.tuple #[v, .int .i64 0]) ∧ w'.ownsRow w.heap.size 5 1 v sz (lc (fileB (pts P n))) ∧ Below w.heap.size w w') [{ target := .collected D, args := #[] }] .returning X' := by
   intro tmps X' TA' TC' hkx e2 ho e3
   refine leaves_marks _ _ (hM.others hkx.keepsOthers) (fun w' ht => ⟨_, results_tmp2 rfl _ _ _, .slice TA' sz TC', ?_, ?_, ?_⟩)
   ·rw [e2, e3, hll]
   ·rw [← lc_append, hfile, hll] at ho
    exact ht.cells.own ho
   ·exact (((Kept.of_below (F := fun k => w.heap.size ≤ k) ⟨h3.os, h3.tape, h3.output, h3.size, h3.block⟩).trans hkx (fun k hk h => (owns_cells h2 k h).2.1)).turned ht).below (fun _ h => h) (Nat.le_refl _)
  clear hstop hI3
  gi_wp2
  refine wpIn_wide.2 (putZ (ahd sz P n).length FC X.heap.size w.heap.size FA (ahd sz P n) bx _ _ _ _ rfl rfl h1 rfl (by omega) hlt h2 h3.size rfl ?_)
  intro vs w9 TA' TC' hk9 hv2 ho9 hv3
  simp only [List.foldl_cons, List.foldl_nil, List.setIfInBounds_toArray, List.set_cons_succ, List.set_cons_zero]
  rw [hv2, hv3]
  generalize vs 27 = y27
  generalize vs 28 = y28
  generalize vs 29 = y29
  generalize vs 30 = y30
  generalize vs 31 = y31
  generalize vs 32 = y32
  have HE := hide (hend · w9 TA' TC' hk9 · ho9 ·)
  clear hend hk9 ho9 hv2 hv3 h1 h2 h3 hM
  gi_wp2
  exact HE.out _ rfl rfl
theorem fput_any (a : Option Addr) (n cap : Nat) (P : Nat → Prt) (w : World) (hP : Prts w a n P) (hn : n ≤ 140737488355328) (hs : sizeB (pts P n) ≤ 1000000) :
  Calls Tryz.prog 36 #[.slice a n cap] w fun e w' => ∃ v, e = .returned (.tuple #[v, .int .i64 0]) ∧ w'.ownsRow w.heap.size 5 1 v (sizeB (pts P n)) (lc (fileB (pts P n))) ∧ Below w.heap.size w w' :=
 callsIn_wide.1 (fput_in 10 (by omega) a n cap P w hP hn hs)
end Go.Proofs.YtppdbinppibjhaaGreatDoor
