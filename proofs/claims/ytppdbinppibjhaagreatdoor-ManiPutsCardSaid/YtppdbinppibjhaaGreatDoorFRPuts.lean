/-
  The reference's Put: the regions that draw their order (written by tools/gen-refput.py).
-/
import Derived.Test.YtppdbinppibjhaaGreatDoorSoloR
import Derived.Test.YtppdbinppibjhaaGreatDoorSolo
import Derived.Test.YtppdbinppibjhaaGreatDoorFPuts
import Derived.Test.YtppdbinppibjhaaGreatDoorWrRef
set_option maxHeartbeats 4000000
set_option maxRecDepth 100000
set_option linter.unusedVariables false
set_option linter.unusedSimpArgs false
namespace Go.Proofs.YtppdbinppibjhaaGreatDoor
open Go.RowKit
abbrev refPA_ops0 : Oper := ⟨some 16, .move (.tmp 4), 55, "ref.go:20", #[], none⟩
abbrev refPA_ops1 : Oper := ⟨some 17, .move (.tmp 4), 55, "ref.go:20", #[], none⟩
abbrev refPA_ops2 : Oper := ⟨some 18, .nilCheck (.tmp 17), 0, "ref.go:20", #[⟨1, .data⟩], none⟩
abbrev refPA_ops3 : Oper := ⟨some 19, .fieldAddr 57 (.tmp 18) 0, 0, "ref.go:20", #[⟨2, .data⟩], none⟩
abbrev refPA_ops4 : Oper := ⟨some 20, .load 28 (.tmp 19), 28, "ref.go:20", #[⟨3, .data⟩], none⟩
abbrev refPA_ops5 : Oper := ⟨some 21, .move (.tmp 0), 41, "ref.go:20", #[], none⟩
abbrev refPA_ops6 : Oper := ⟨some 22, .move (.tmp 5), 3, "ref.go:20", #[], none⟩
abbrev refPA_ops7 : Oper := ⟨some 23, .indexAddr 41 (.tmp 21) (.tmp 22), 0, "ref.go:20", #[⟨5, .data⟩, ⟨6, .data⟩], none⟩
abbrev refPA_ops8 : Oper := ⟨some 24, .fieldAddr 40 (.tmp 23) 0, 0, "ref.go:20", #[⟨7, .data⟩], none⟩
abbrev refPA_ops9 : Oper := ⟨some 25, .load 5 (.tmp 24), 5, "ref.go:20", #[⟨8, .data⟩], none⟩
abbrev refPA_ops10 : Oper := ⟨some 26, .buildSlice 28 1 #[(0, .tmp 25)], 28, "ref.go:20", #[⟨9, .data⟩], none⟩
abbrev refPA_ops11 : Oper := ⟨some 27, .call ⟨.builtin .append, #[.tmp 20, .tmp 26], #[28, 28]⟩, 28, "ref.go:20", #[⟨4, .data⟩, ⟨10, .data⟩], none⟩
abbrev refPA_ops12 : Oper := ⟨some 28, .nilCheck (.tmp 16), 0, "ref.go:20", #[⟨0, .data⟩, ⟨0, .phase⟩, ⟨1, .phase⟩, ⟨2, .phase⟩, ⟨3, .phase⟩, ⟨4, .phase⟩, ⟨5, .phase⟩, ⟨6, .phase⟩, ⟨7, .phase⟩, ⟨8, .phase⟩, ⟨9, .phase⟩, ⟨10, .phase⟩, ⟨11, .phase⟩], none⟩
abbrev refPA_ops13 : Oper := ⟨some 29, .fieldAddr 57 (.tmp 28) 0, 0, "ref.go:20", #[⟨12, .data⟩, ⟨0, .phase⟩, ⟨1, .phase⟩, ⟨2, .phase⟩, ⟨3, .phase⟩, ⟨4, .phase⟩, ⟨5, .phase⟩, ⟨6, .phase⟩, ⟨7, .phase⟩, ⟨8, .phase⟩, ⟨9, .phase⟩, ⟨10, .phase⟩, ⟨11, .phase⟩], none⟩
abbrev refPA_ops14 : Oper := ⟨none, .store 28 (.tmp 29) (.tmp 27), 0, "ref.go:20", #[⟨13, .data⟩, ⟨11, .data⟩, ⟨11, .chain⟩, ⟨0, .phase⟩, ⟨1, .phase⟩, ⟨2, .phase⟩, ⟨3, .phase⟩, ⟨4, .phase⟩, ⟨5, .phase⟩, ⟨6, .phase⟩, ⟨7, .phase⟩, ⟨8, .phase⟩, ⟨9, .phase⟩, ⟨10, .phase⟩, ⟨11, .phase⟩], none⟩
def refPA_ops : Array Oper := #[refPA_ops0, refPA_ops1, refPA_ops2, refPA_ops3, refPA_ops4, refPA_ops5, refPA_ops6, refPA_ops7, refPA_ops8, refPA_ops9, refPA_ops10, refPA_ops11, refPA_ops12, refPA_ops13, refPA_ops14]
def refPA_slot : Nat → Nat
 | 0 => 16
 | 1 => 17
 | 2 => 18
 | 3 => 19
 | 4 => 20
 | 5 => 21
 | 6 => 22
 | 7 => 23
 | 8 => 24
 | 9 => 25
 | 10 => 26
 | 11 => 27
 | 12 => 28
 | 13 => 29
 | j + 14 => 1074 + j
theorem refPA_inj (i j : Nat) (hi : i < 14) (hj : j < 14) (h : refPA_slot i = refPA_slot j) : i = j := by
 have key : ∀ i j : Fin 14, refPA_slot i.val = refPA_slot j.val → i = j := by decide
 exact Fin.mk.inj (key ⟨i, hi⟩ ⟨j, hj⟩ h)
def refPA_pre : Nat → Bool
 | 1 => true
 | 2 => true
 | 3 => true
 | 4 => true
 | 5 => true
 | 6 => true
 | 7 => true
 | 8 => true
 | 9 => true
 | 10 => true
 | _ => false
def refPutA_val (n k m C p bb off cl T B0 : Nat) (A : Option Addr) (L : List Nat) : Bool → Nat → Value → World → Prop
 | false, 0, v, w => v = .pointer (some ⟨p, 0, none⟩)
 | true, 0, v, w => v = .pointer (some ⟨p, 0, none⟩)
 | false, 1, v, w => v = .pointer (some ⟨p, 0, none⟩)
 | true, 1, v, w => True
 | false, 2, v, w => v = .pointer (some ⟨p, 0, none⟩)
 | true, 2, v, w => True
 | false, 3, v, w => v = .pointer (some ⟨p, 0, none⟩)
 | true, 3, v, w => True
 | false, 4, v, w => v = .slice A m C
 | true, 4, v, w => True
 | false, 5, v, w => v = .slice (some ⟨bb, off, none⟩) n cl
 | true, 5, v, w => True
 | false, 6, v, w => v = .int .i64 (k : Nat)
 | true, 6, v, w => True
 | false, 7, v, w => v = .pointer (some ⟨bb, off + k * 2, none⟩)
 | true, 7, v, w => True
 | false, 8, v, w => v = .pointer (some ⟨bb, off + k * 2, none⟩)
 | true, 8, v, w => True
 | false, 9, v, w => v = .int .u8 (T : Nat)
 | true, 9, v, w => True
 | false, 10, v, w => ∃ g, v = .slice (some ⟨g, 0, none⟩) 1 1 ∧ w.heap[g]? = some (.cells #[.int .u8 (T : Nat)] 5 (0, 0))
 | true, 10, v, w => True
 | false, 11, v, w => False
 | true, 11, v, w => ∃ TA TC, v = .slice TA (m + 1) TC ∧ w.ownsRow 0 5 1 (.slice TA (m + 1) TC) (m + 1) (lc L ++ lc [T]) ∧ ∀ g, (Value.slice TA (m + 1) TC).ownBlock = some g → (fun g => (Value.slice A m C).ownBlock = some g ∨ B0 ≤ g) g
 | false, 12, v, w => False
 | true, 12, v, w => v = .pointer (some ⟨p, 0, none⟩)
 | false, 13, v, w => False
 | true, 13, v, w => v = .pointer (some ⟨p, 0, none⟩)
 | _, _, _, _ => True
theorem refPutA_below (n k m C p bb off cl T B0 : Nat) (A : Option Addr) (L : List Nat) (b : Bool) (w w' : World) (hb : Below w.heap.size w w') : ∀ j v, refPutA_val n k m C p bb off cl T B0 A L b j v w → refPutA_val n k m C p bb off cl T B0 A L b j v w' := by
 intro j v h
 match b, j, h with
 | false, 0, h => exact h
 | true, 0, h => exact h
 | false, 1, h => exact h
 | true, 1, h => exact h
 | false, 2, h => exact h
 | true, 2, h => exact h
 | false, 3, h => exact h
 | true, 3, h => exact h
 | false, 4, h => exact h
 | true, 4, h => exact h
 | false, 5, h => exact h
 | true, 5, h => exact h
 | false, 6, h => exact h
 | true, 6, h => exact h
 | false, 7, h => exact h
 | true, 7, h => exact h
 | false, 8, h => exact h
 | true, 8, h => exact h
 | false, 9, h => exact h
 | true, 9, h => exact h
 | false, 10, h => obtain ⟨g, h1, h2⟩ := h; exact ⟨g, h1, (hb.block _ (block_lt h2)).trans h2⟩
 | true, 10, h => exact h
 | false, 11, h => exact h
 | true, 11, h => obtain ⟨TA, TC, h1, h2, h3⟩ := h; exact ⟨TA, TC, h1, owns_thru h2 hb, h3⟩
 | false, 12, h => exact h
 | true, 12, h => exact h
 | false, 13, h => exact h
 | true, 13, h => exact h
 | false, _ + 14, h => exact h
 | true, _ + 14, h => exact h
abbrev refPA_mem (s : Nat) : Prop := s ∈ [16, 17, 18, 19, 20, 21, 22, 23, 24, 25, 26, 27, 28, 29]
theorem refPutA (n k m C p bb off cl T B0 : Nat) (A : Option Addr) (L : List Nat) (bd : Value) (Q : Exit → Act → World → Prop) (t0 : Array Value) (df : List Deferred) (w0 : World) (ht : t0.size = 74)
  (hs0 : t0.getD 0 undef = .slice (some ⟨bb, off, none⟩) n cl) (hs4 : t0.getD 4 undef = .pointer (some ⟨p, 0, none⟩)) (hs5 : t0.getD 5 undef = .int .i64 (k : Nat))
  (hp : w0.heap[p]? = some (.cells #[.slice A m C, bd] 57 (0, 0))) (hown : w0.ownsRow 0 5 1 (.slice A m C) m (lc L)) (hT : w0.cell? ⟨bb, off + k * 2, none⟩ = some (.int .u8 (T : Nat))) (hkn : k < n) (hm : m ≤ 1000000) (hB0 : B0 ≤ w0.heap.size)
  (hQ : ∀ (vs : Nat → Value) (w : World) TA TC, Kept (fun k => (Value.slice A m C).ownBlock = some k) w0 w → vs 27 = .slice TA (m + 1) TC → w.ownsRow 0 5 1 (.slice TA (m + 1) TC) (m + 1) (lc L ++ lc [T]) → (∀ g, (Value.slice TA (m + 1) TC).ownBlock = some g → (Value.slice A m C).ownBlock = some g ∨ B0 ≤ g) → Q .normal { tmps := [16, 17, 18, 19, 20, 21, 22, 23, 24, 25, 26, 27, 28, 29].foldl (fun y d => y.setIfInBounds d (vs d)) t0, defers := df } (w.setCell ⟨p, 0, none⟩ (.slice TA (m + 1) TC))) :
  (Code.region 5 refPA_ops true).wp Tryz.prog Q { tmps := t0, defers := df } w0 := by
 have hsl : ∀ j, j < 14 → refPA_mem (refPA_slot j) := by
  intro j hj
  match j, hj with
  | 0, _ => exact (by decide : refPA_mem 16)
  | 1, _ => exact (by decide : refPA_mem 17)
  | 2, _ => exact (by decide : refPA_mem 18)
  | 3, _ => exact (by decide : refPA_mem 19)
  | 4, _ => exact (by decide : refPA_mem 20)
  | 5, _ => exact (by decide : refPA_mem 21)
  | 6, _ => exact (by decide : refPA_mem 22)
  | 7, _ => exact (by decide : refPA_mem 23)
  | 8, _ => exact (by decide : refPA_mem 24)
  | 9, _ => exact (by decide : refPA_mem 25)
  | 10, _ => exact (by decide : refPA_mem 26)
  | 11, _ => exact (by decide : refPA_mem 27)
  | 12, _ => exact (by decide : refPA_mem 28)
  | 13, _ => exact (by decide : refPA_mem 29)
  | k + 14, hj => omega
 refine wp_region_pivot 14 11 (by kernel_rfl) ?_ (by decide) refPA_pre refPA_slot (refPutA_val n k m C p bb off cl T B0 A L) (Kept (fun k => (Value.slice A m C).ownBlock = some k) w0) t0 df w0 ?_ (refPA_inj) ?_ ?_ rfl (refPutA_below n k m C p bb off cl T B0 A L) ?_ ?_ ?_ ?_
 ·refine .inr ⟨rfl, fun listed o hup ho hd => ?_⟩
  have e : o = refPA_ops14 := (Option.some.inj ho).symm; unfold refPA_ops14 at e
  subst e
  have l13 : listed.getD 13 false = true := hd ⟨13, .data⟩ (by simp) rfl
  have l11 : listed.getD 11 false = true := hd ⟨11, .data⟩ (by simp) rfl
  have l0 : listed.getD 0 false = true := hd ⟨0, .phase⟩ (by simp) rfl
  have l1 : listed.getD 1 false = true := hd ⟨1, .phase⟩ (by simp) rfl
  have l2 : listed.getD 2 false = true := hd ⟨2, .phase⟩ (by simp) rfl
  have l3 : listed.getD 3 false = true := hd ⟨3, .phase⟩ (by simp) rfl
  have l4 : listed.getD 4 false = true := hd ⟨4, .phase⟩ (by simp) rfl
  have l5 : listed.getD 5 false = true := hd ⟨5, .phase⟩ (by simp) rfl
  have l6 : listed.getD 6 false = true := hd ⟨6, .phase⟩ (by simp) rfl
  have l7 : listed.getD 7 false = true := hd ⟨7, .phase⟩ (by simp) rfl
  have l8 : listed.getD 8 false = true := hd ⟨8, .phase⟩ (by simp) rfl
  have l9 : listed.getD 9 false = true := hd ⟨9, .phase⟩ (by simp) rfl
  have l10 : listed.getD 10 false = true := hd ⟨10, .phase⟩ (by simp) rfl
  have l12 : listed.getD 12 false = true := hup 13 ⟨some 29, .fieldAddr 57 (.tmp 28) 0, 0, "ref.go:20", #[⟨12, .data⟩, ⟨0, .phase⟩, ⟨1, .phase⟩, ⟨2, .phase⟩, ⟨3, .phase⟩, ⟨4, .phase⟩, ⟨5, .phase⟩, ⟨6, .phase⟩, ⟨7, .phase⟩, ⟨8, .phase⟩, ⟨9, .phase⟩, ⟨10, .phase⟩, ⟨11, .phase⟩], none⟩ rfl l13 ⟨12, .data⟩ (by simp) rfl
  intro j hj
  match j, hj with
  | 0, _ | 1, _ | 2, _ | 3, _ | 4, _ | 5, _ | 6, _ | 7, _ | 8, _ | 9, _ | 10, _ | 11, _ | 12, _ | 13, _ => assumption
  | k + 14, hj => omega
 ·intro j o ho hj
  rw [ht]
  match j, ho, hj with
  | 0, ho, _ | 1, ho, _ | 2, ho, _ | 3, ho, _ | 4, ho, _ | 5, ho, _ | 6, ho, _ | 7, ho, _ | 8, ho, _ | 9, ho, _ | 10, ho, _ | 11, ho, _ | 12, ho, _ | 13, ho, _ => cases ho; exact ⟨rfl, by decide⟩
  | k + 14, _, hj => omega
 ·intro j o ho
  have hj : j < 15 := (Array.getElem?_eq_some_iff.1 ho).1
  match j, ho with
  | 0, ho | 1, ho | 2, ho | 3, ho | 4, ho | 5, ho | 6, ho | 7, ho | 8, ho | 9, ho | 10, ho | 11, ho | 12, ho | 13, ho | 14, ho => cases ho; decide
  | k + 15, _ => omega
 ·intro listed o hup ho hd
  have e : o = refPA_ops11 := (Option.some.inj ho).symm; unfold refPA_ops11 at e
  subst e
  have l4 : listed.getD 4 false = true := hd ⟨4, .data⟩ (by simp) rfl
  have l10 : listed.getD 10 false = true := hd ⟨10, .data⟩ (by simp) rfl
  have l9 : listed.getD 9 false = true := hup 10 ⟨some 26, .buildSlice 28 1 #[(0, .tmp 25)], 28, "ref.go:20", #[⟨9, .data⟩], none⟩ rfl l10 ⟨9, .data⟩ (by simp) rfl
  have l8 : listed.getD 8 false = true := hup 9 ⟨some 25, .load 5 (.tmp 24), 5, "ref.go:20", #[⟨8, .data⟩], none⟩ rfl l9 ⟨8, .data⟩ (by simp) rfl
  have l7 : listed.getD 7 false = true := hup 8 ⟨some 24, .fieldAddr 40 (.tmp 23) 0, 0, "ref.go:20", #[⟨7, .data⟩], none⟩ rfl l8 ⟨7, .data⟩ (by simp) rfl
  have l5 : listed.getD 5 false = true := hup 7 ⟨some 23, .indexAddr 41 (.tmp 21) (.tmp 22), 0, "ref.go:20", #[⟨5, .data⟩, ⟨6, .data⟩], none⟩ rfl l7 ⟨5, .data⟩ (by simp) rfl
  have l6 : listed.getD 6 false = true := hup 7 ⟨some 23, .indexAddr 41 (.tmp 21) (.tmp 22), 0, "ref.go:20", #[⟨5, .data⟩, ⟨6, .data⟩], none⟩ rfl l7 ⟨6, .data⟩ (by simp) rfl
  have l3 : listed.getD 3 false = true := hup 4 ⟨some 20, .load 28 (.tmp 19), 28, "ref.go:20", #[⟨3, .data⟩], none⟩ rfl l4 ⟨3, .data⟩ (by simp) rfl
  have l2 : listed.getD 2 false = true := hup 3 ⟨some 19, .fieldAddr 57 (.tmp 18) 0, 0, "ref.go:20", #[⟨2, .data⟩], none⟩ rfl l3 ⟨2, .data⟩ (by simp) rfl
  have l1 : listed.getD 1 false = true := hup 2 ⟨some 18, .nilCheck (.tmp 17), 0, "ref.go:20", #[⟨1, .data⟩], none⟩ rfl l2 ⟨1, .data⟩ (by simp) rfl
  intro j hj hp
  match j, hj, hp with
  | 0, _, hp => cases hp
  | 1, _, hp | 2, _, hp | 3, _, hp | 4, _, hp | 5, _, hp | 6, _, hp | 7, _, hp | 8, _, hp | 9, _, hp | 10, _, hp => assumption
  | 11, _, hp | 12, _, hp | 13, _, hp => cases hp
  | k + 14, hj, _ => omega
 ·intro w w' hb hg
  exact hg.trans (Kept.of_below (F := fun _ => False) hb) (fun _ _ h => h.elim)
 ·intro b j o ho hj hjp hpre x w hB hGw hdef hsz hs hdeps
  have hs' : ∀ s, ¬ refPA_mem s → x.tmps.getD s undef = t0.getD s undef := fun s hn => hs s (fun j hj e => hn (by rw [e]; exact hsl j hj))
  have u0 := (hs' 0 (by decide)).trans hs0
  have u4 := (hs' 4 (by decide)).trans hs4
  have u5 := (hs' 5 (by decide)).trans hs5
  clear hs hs' hsl hsz ht hQ hs0 hs4 hs5
  simp only [Array.getD_eq_getD_getElem?] at u0 u4 u5
  match b, j, ho, hj, hjp, hpre with
  | false, 0, ho, _, _, _ =>
    have e : o = refPA_ops0 := (Option.some.inj ho).symm; unfold refPA_ops0 at e
    subst e
    have hB := hB rfl
    clear hdeps
    refine wpOp_step ho (fun K hK => ?_)
    clear ho
    go_simp
    exact hK _ _ ⟨_, act_putD x hdef _ _, rfl, Below.refl _ _⟩
  | true, 0, ho, _, _, _ =>
    have e : o = refPA_ops0 := (Option.some.inj ho).symm; unfold refPA_ops0 at e
    subst e
    have hGw := hGw rfl
    clear hdeps
    refine wpOp_step ho (fun K hK => ?_)
    clear ho
    go_simp
    exact hK _ _ ⟨_, act_putD x hdef _ _, rfl, Below.refl _ _⟩
  | false, 1, ho, _, _, _ =>
    have e : o = refPA_ops1 := (Option.some.inj ho).symm; unfold refPA_ops1 at e
    subst e
    have hB := hB rfl
    clear hdeps
    refine wpOp_step ho (fun K hK => ?_)
    clear ho
    go_simp
    exact hK _ _ ⟨_, act_putD x hdef _ _, rfl, Below.refl _ _⟩
  | true, 1, _, _, _, hpre => exact absurd (hpre rfl) (by decide)
  | false, 2, ho, _, _, _ =>
    have e : o = refPA_ops2 := (Option.some.inj ho).symm; unfold refPA_ops2 at e
    subst e
    obtain q1 := hdeps ⟨1, .data⟩ (by simp) rfl
    have q1 : x.tmps.getD 17 undef = .pointer (some ⟨p, 0, none⟩) := q1
    have hB := hB rfl
    simp only [Array.getD_eq_getD_getElem?] at q1
    clear hdeps
    refine wpOp_step ho (fun K hK => ?_)
    clear ho
    go_simp
    exact hK _ _ ⟨_, act_putD x hdef _ _, rfl, Below.refl _ _⟩
  | true, 2, _, _, _, hpre => exact absurd (hpre rfl) (by decide)
  | false, 3, ho, _, _, _ =>
    have e : o = refPA_ops3 := (Option.some.inj ho).symm; unfold refPA_ops3 at e
    subst e
    obtain q2 := hdeps ⟨2, .data⟩ (by simp) rfl
    have q2 : x.tmps.getD 18 undef = .pointer (some ⟨p, 0, none⟩) := q2
    have hB := hB rfl
    simp only [Array.getD_eq_getD_getElem?] at q2
    clear hdeps
    refine wpOp_step ho (fun K hK => ?_)
    clear ho
    go_simp
    exact hK _ _ ⟨_, act_putD x hdef _ _, rfl, Below.refl _ _⟩
  | true, 3, _, _, _, hpre => exact absurd (hpre rfl) (by decide)
  | false, 4, ho, _, _, _ =>
    have e : o = refPA_ops4 := (Option.some.inj ho).symm; unfold refPA_ops4 at e
    subst e
    obtain q3 := hdeps ⟨3, .data⟩ (by simp) rfl
    have q3 : x.tmps.getD 19 undef = .pointer (some ⟨p, 0, none⟩) := q3
    have hB := hB rfl
    simp only [Array.getD_eq_getD_getElem?] at q3
    clear hdeps
    have cw : w.cell? ⟨p, 0, none⟩ = some (.slice A m C) := cell_of_row _ p 0 _ _ _ ((hB.block _ (block_lt hp)).trans hp)
    refine wpOp_step ho (fun K hK => ?_)
    clear ho
    go_simp
    exact hK _ _ ⟨_, act_putD x hdef _ _, rfl, Below.refl _ _⟩
  | true, 4, _, _, _, hpre => exact absurd (hpre rfl) (by decide)
  | false, 5, ho, _, _, _ =>
    have e : o = refPA_ops5 := (Option.some.inj ho).symm; unfold refPA_ops5 at e
    subst e
    have hB := hB rfl
    clear hdeps
    refine wpOp_step ho (fun K hK => ?_)
    clear ho
    go_simp
    exact hK _ _ ⟨_, act_putD x hdef _ _, rfl, Below.refl _ _⟩
  | true, 5, _, _, _, hpre => exact absurd (hpre rfl) (by decide)
  | false, 6, ho, _, _, _ =>
    have e : o = refPA_ops6 := (Option.some.inj ho).symm; unfold refPA_ops6 at e
    subst e
    have hB := hB rfl
    clear hdeps
    refine wpOp_step ho (fun K hK => ?_)
    clear ho
    go_simp
    exact hK _ _ ⟨_, act_putD x hdef _ _, rfl, Below.refl _ _⟩
  | true, 6, _, _, _, hpre => exact absurd (hpre rfl) (by decide)
  | false, 7, ho, _, _, _ =>
    have e : o = refPA_ops7 := (Option.some.inj ho).symm; unfold refPA_ops7 at e
    subst e
    obtain q5 := hdeps ⟨5, .data⟩ (by simp) rfl
    have q5 : x.tmps.getD 21 undef = .slice (some ⟨bb, off, none⟩) n cl := q5
    obtain q6 := hdeps ⟨6, .data⟩ (by simp) rfl
    have q6 : x.tmps.getD 22 undef = .int .i64 (k : Nat) := q6
    have hB := hB rfl
    simp only [Array.getD_eq_getD_getElem?] at q5 q6
    clear hdeps
    have kz : (k : Int) < (n : Int) := by omega
    have kz0 : (0 : Int) ≤ (k : Int) := by omega
    refine wpOp_step ho (fun K hK => ?_)
    clear ho
    go_simp
    exact hK _ _ ⟨_, act_putD x hdef _ _, rfl, Below.refl _ _⟩
  | true, 7, _, _, _, hpre => exact absurd (hpre rfl) (by decide)
  | false, 8, ho, _, _, _ =>
    have e : o = refPA_ops8 := (Option.some.inj ho).symm; unfold refPA_ops8 at e
    subst e
    obtain q7 := hdeps ⟨7, .data⟩ (by simp) rfl
    have q7 : x.tmps.getD 23 undef = .pointer (some ⟨bb, off + k * 2, none⟩) := q7
    have hB := hB rfl
    simp only [Array.getD_eq_getD_getElem?] at q7
    clear hdeps
    refine wpOp_step ho (fun K hK => ?_)
    clear ho
    go_simp
    exact hK _ _ ⟨_, act_putD x hdef _ _, rfl, Below.refl _ _⟩
  | true, 8, _, _, _, hpre => exact absurd (hpre rfl) (by decide)
  | false, 9, ho, _, _, _ =>
    have e : o = refPA_ops9 := (Option.some.inj ho).symm; unfold refPA_ops9 at e
    subst e
    obtain q8 := hdeps ⟨8, .data⟩ (by simp) rfl
    have q8 : x.tmps.getD 24 undef = .pointer (some ⟨bb, off + k * 2, none⟩) := q8
    have hB := hB rfl
    simp only [Array.getD_eq_getD_getElem?] at q8
    clear hdeps
    have ct := cell_thru hT hB
    refine wpOp_step ho (fun K hK => ?_)
    clear ho
    go_simp
    exact hK _ _ ⟨_, act_putD x hdef _ _, rfl, Below.refl _ _⟩
  | true, 9, _, _, _, hpre => exact absurd (hpre rfl) (by decide)
  | false, 10, ho, _, _, _ =>
    have e : o = refPA_ops10 := (Option.some.inj ho).symm; unfold refPA_ops10 at e
    subst e
    obtain q9 := hdeps ⟨9, .data⟩ (by simp) rfl
    have q9 : x.tmps.getD 25 undef = .int .u8 (T : Nat) := q9
    have hB := hB rfl
    simp only [Array.getD_eq_getD_getElem?] at q9
    clear hdeps
    refine wpOp_step ho (fun K hK => ?_)
    clear ho
    go_simp
    exact hK _ _ ⟨_, act_putD x hdef _ _, ⟨_, rfl, heap_alloc_new _ _⟩, below_alloc _ _⟩
  | true, 10, _, _, _, hpre => exact absurd (hpre rfl) (by decide)
  | _, 11, _, _, hjp, _ => exact absurd rfl hjp
  | false, 12, ho, _, _, _ =>
    have e : o = refPA_ops12 := (Option.some.inj ho).symm; unfold refPA_ops12 at e
    subst e
    exact (hdeps ⟨11, .phase⟩ (by simp) rfl : False).elim
  | true, 12, ho, _, _, _ =>
    have e : o = refPA_ops12 := (Option.some.inj ho).symm; unfold refPA_ops12 at e
    subst e
    obtain q0 := hdeps ⟨0, .data⟩ (by simp) rfl
    have q0 : x.tmps.getD 16 undef = .pointer (some ⟨p, 0, none⟩) := q0
    have hGw := hGw rfl
    simp only [Array.getD_eq_getD_getElem?] at q0
    clear hdeps
    refine wpOp_step ho (fun K hK => ?_)
    clear ho
    go_simp
    exact hK _ _ ⟨_, act_putD x hdef _ _, rfl, Below.refl _ _⟩
  | false, 13, ho, _, _, _ =>
    have e : o = refPA_ops13 := (Option.some.inj ho).symm; unfold refPA_ops13 at e
    subst e
    exact (hdeps ⟨12, .data⟩ (by simp) rfl : False).elim
  | true, 13, ho, _, _, _ =>
    have e : o = refPA_ops13 := (Option.some.inj ho).symm; unfold refPA_ops13 at e
    subst e
    have q12 : x.tmps.getD 28 undef = .pointer (some ⟨p, 0, none⟩) := hdeps ⟨12, .data⟩ (by simp) rfl
    have hGw := hGw rfl
    simp only [Array.getD_eq_getD_getElem?] at q12
    clear hdeps
    refine wpOp_step ho (fun K hK => ?_)
    clear ho
    go_simp
    exact hK _ _ ⟨_, act_putD x hdef _ _, rfl, Below.refl _ _⟩
  | _, k + 14, _, hj, _, _ => omega
 ·intro o ho x w hB hdef hsz hs hdeps
  have hs' : ∀ s, ¬ refPA_mem s → x.tmps.getD s undef = t0.getD s undef := fun s hn => hs s (fun j hj e => hn (by rw [e]; exact hsl j hj))
  have u0 := (hs' 0 (by decide)).trans hs0
  have u4 := (hs' 4 (by decide)).trans hs4
  have u5 := (hs' 5 (by decide)).trans hs5
  clear hs hs' hsl hsz ht hQ hs0 hs4 hs5
  simp only [Array.getD_eq_getD_getElem?] at u0 u4 u5
  have e : o = refPA_ops11 := (Option.some.inj ho).symm; unfold refPA_ops11 at e
  subst e
  obtain q4 := hdeps ⟨4, .data⟩ (by simp) rfl
  have q4 : x.tmps.getD 20 undef = .slice A m C := q4
  obtain ⟨g10, q10, p10⟩ := hdeps ⟨10, .data⟩ (by simp) rfl
  have q10 : x.tmps.getD 26 undef = .slice (some ⟨g10, 0, none⟩) 1 1 := q10
  clear hdeps
  obtain ⟨i0, hi, hq0, hq1, hq2⟩ := info_parts info_u8
  have hno := owns_thru hown hB
  refine wpOp_step ho (fun K hK => step_append_foot w rfl (.tmp 20) (.tmp 26) 28 rfl 5 i0 (.int .u8 0) 1 Tryz.underlying28 hi hq0 hq1 hq2 rfl 0 (.slice A m C) m (lc L) q4 hno (some ⟨g10, 0, none⟩) 1 1 (lc [T]) q10 rfl (fun e => by cases e) (owns_news (one_owns p10) rfl) (lc_one _) (by unfold maxLen; omega) (by omega) (Nat.zero_le _) ?_)
  intro A' C' w' ho' hg
  refine hK _ _ ⟨_, rfl, ⟨A', C', rfl, ho', fun g hgb => ?_⟩, (Kept.of_below (F := fun k => (Value.slice A m C).ownBlock = some k) hB).trans (hg.kept (F := fun k => (Value.slice A m C).ownBlock = some k) (fun _ h => h)) (fun k hk h => h), ?_⟩
  ·rcases hg.foot (F := fun k => (Value.slice A m C).ownBlock = some k) (fun _ h => h) g hgb with h | h
   ·exact .inl h
   ·exact .inr (by have := hB.size; omega)
  ·intro i u h
   match i, h with
   | 0, h => exact h
   | 1, h | 2, h | 3, h | 4, h | 5, h | 6, h | 7, h | 8, h | 9, h | 10, h => exact trivial
   | 11, h | 12, h | 13, h => exact h.elim
   | k + 14, h => exact h
 ·intro x w hG hdef hsz hs hv
  have hx := frame_sets x.tmps t0 hsz [16, 17, 18, 19, 20, 21, 22, 23, 24, 25, 26, 27, 28, 29] (fun s hn => hs s (fun j hj e => hn (by rw [e]; exact hsl j hj)))
  refine ⟨fun e => absurd e (by decide), fun _ => ?_⟩
  obtain ⟨TA, TC, qa, pa, sa⟩ := hv 11 (by decide)
  have qp := hv 13 (by decide)
  have hq := hQ (fun d => x.tmps.getD d undef) w TA TC hG qa pa sa
  have hpw : ∃ b1, w.heap[p]? = some (.cells #[.slice A m C, b1] 57 (0, 0)) := ⟨_, hG.heap hp (fun e => owns_tyne hown hp (by decide) e)⟩
  obtain ⟨b1, hpw⟩ := hpw
  obtain ⟨c0, _, f0, _⟩ := cells2 hpw
  have qa' : x.tmps.getD 27 undef = .slice TA (m + 1) TC := qa
  have qp' : x.tmps.getD 29 undef = .pointer (some ⟨p, 0, none⟩) := qp
  obtain ⟨T0, Df⟩ := x
  dsimp only at hx hdef hq qa' qp'
  subst hdef
  refine wpOp_step (o := refPA_ops[14]) rfl (fun K hK => ?_)
  simp only [Array.getD_eq_getD_getElem?] at qa' qp'
  clear hQ hs hv qa qp pa hsz ht hpw
  simp only [refPA_ops]
  rw [← hx] at hq
  clear hx
  go_simp
  exact hK _ _ hq
abbrev refPB_ops0 : Oper := ⟨some 51, .move (.tmp 7), 55, "ref.go:29", #[], none⟩
abbrev refPB_ops1 : Oper := ⟨some 52, .move (.tmp 7), 55, "ref.go:29", #[], none⟩
abbrev refPB_ops2 : Oper := ⟨some 53, .nilCheck (.tmp 52), 0, "ref.go:29", #[⟨1, .data⟩], none⟩
abbrev refPB_ops3 : Oper := ⟨some 54, .fieldAddr 57 (.tmp 53) 0, 0, "ref.go:29", #[⟨2, .data⟩], none⟩
abbrev refPB_ops4 : Oper := ⟨some 55, .load 28 (.tmp 54), 28, "ref.go:29", #[⟨3, .data⟩], none⟩
abbrev refPB_ops5 : Oper := ⟨some 56, .move (.tmp 4), 55, "ref.go:29", #[], none⟩
abbrev refPB_ops6 : Oper := ⟨some 57, .nilCheck (.tmp 56), 0, "ref.go:29", #[⟨5, .data⟩], none⟩
abbrev refPB_ops7 : Oper := ⟨some 58, .fieldAddr 57 (.tmp 57) 0, 0, "ref.go:29", #[⟨6, .data⟩], none⟩
abbrev refPB_ops8 : Oper := ⟨some 59, .load 28 (.tmp 58), 28, "ref.go:29", #[⟨7, .data⟩], none⟩
abbrev refPB_ops9 : Oper := ⟨some 60, .call ⟨.builtin .append, #[.tmp 55, .tmp 59], #[28, 28]⟩, 28, "ref.go:29", #[⟨4, .data⟩, ⟨8, .data⟩], none⟩
abbrev refPB_ops10 : Oper := ⟨some 61, .nilCheck (.tmp 51), 0, "ref.go:29", #[⟨0, .data⟩, ⟨0, .phase⟩, ⟨1, .phase⟩, ⟨2, .phase⟩, ⟨3, .phase⟩, ⟨4, .phase⟩, ⟨5, .phase⟩, ⟨6, .phase⟩, ⟨7, .phase⟩, ⟨8, .phase⟩, ⟨9, .phase⟩], none⟩
abbrev refPB_ops11 : Oper := ⟨some 62, .fieldAddr 57 (.tmp 61) 0, 0, "ref.go:29", #[⟨10, .data⟩, ⟨0, .phase⟩, ⟨1, .phase⟩, ⟨2, .phase⟩, ⟨3, .phase⟩, ⟨4, .phase⟩, ⟨5, .phase⟩, ⟨6, .phase⟩, ⟨7, .phase⟩, ⟨8, .phase⟩, ⟨9, .phase⟩], none⟩
abbrev refPB_ops12 : Oper := ⟨none, .store 28 (.tmp 62) (.tmp 60), 0, "ref.go:29", #[⟨11, .data⟩, ⟨9, .data⟩, ⟨9, .chain⟩, ⟨0, .phase⟩, ⟨1, .phase⟩, ⟨2, .phase⟩, ⟨3, .phase⟩, ⟨4, .phase⟩, ⟨5, .phase⟩, ⟨6, .phase⟩, ⟨7, .phase⟩, ⟨8, .phase⟩, ⟨9, .phase⟩], none⟩
def refPB_ops : Array Oper := #[refPB_ops0, refPB_ops1, refPB_ops2, refPB_ops3, refPB_ops4, refPB_ops5, refPB_ops6, refPB_ops7, refPB_ops8, refPB_ops9, refPB_ops10, refPB_ops11, refPB_ops12]
def refPB_slot : Nat → Nat
 | 0 => 51
 | 1 => 52
 | 2 => 53
 | 3 => 54
 | 4 => 55
 | 5 => 56
 | 6 => 57
 | 7 => 58
 | 8 => 59
 | 9 => 60
 | 10 => 61
 | 11 => 62
 | j + 12 => 1074 + j
theorem refPB_inj (i j : Nat) (hi : i < 12) (hj : j < 12) (h : refPB_slot i = refPB_slot j) : i = j := by
 have key : ∀ i j : Fin 12, refPB_slot i.val = refPB_slot j.val → i = j := by decide
 exact Fin.mk.inj (key ⟨i, hi⟩ ⟨j, hj⟩ h)
def refPB_pre : Nat → Bool
 | 1 => true
 | 2 => true
 | 3 => true
 | 4 => true
 | 5 => true
 | 6 => true
 | 7 => true
 | 8 => true
 | _ => false
def refPutB_val (m C m2 C2 p q B0 : Nat) (A A2 : Option Addr) (L M : List Nat) : Bool → Nat → Value → World → Prop
 | false, 0, v, w => v = .pointer (some ⟨p, 0, none⟩)
 | true, 0, v, w => v = .pointer (some ⟨p, 0, none⟩)
 | false, 1, v, w => v = .pointer (some ⟨p, 0, none⟩)
 | true, 1, v, w => True
 | false, 2, v, w => v = .pointer (some ⟨p, 0, none⟩)
 | true, 2, v, w => True
 | false, 3, v, w => v = .pointer (some ⟨p, 0, none⟩)
 | true, 3, v, w => True
 | false, 4, v, w => v = .slice A m C
 | true, 4, v, w => True
 | false, 5, v, w => v = .pointer (some ⟨q, 0, none⟩)
 | true, 5, v, w => True
 | false, 6, v, w => v = .pointer (some ⟨q, 0, none⟩)
 | true, 6, v, w => True
 | false, 7, v, w => v = .pointer (some ⟨q, 0, none⟩)
 | true, 7, v, w => True
 | false, 8, v, w => v = .slice A2 m2 C2
 | true, 8, v, w => True
 | false, 9, v, w => False
 | true, 9, v, w => ∃ TA TC, v = .slice TA (m + m2) TC ∧ w.ownsRow 0 5 1 (.slice TA (m + m2) TC) (m + m2) (lc L ++ lc M) ∧ ∀ g, (Value.slice TA (m + m2) TC).ownBlock = some g → (fun g => (Value.slice A m C).ownBlock = some g ∨ B0 ≤ g) g
 | false, 10, v, w => False
 | true, 10, v, w => v = .pointer (some ⟨p, 0, none⟩)
 | false, 11, v, w => False
 | true, 11, v, w => v = .pointer (some ⟨p, 0, none⟩)
 | _, _, _, _ => True
theorem refPutB_below (m C m2 C2 p q B0 : Nat) (A A2 : Option Addr) (L M : List Nat) (b : Bool) (w w' : World) (hb : Below w.heap.size w w') : ∀ j v, refPutB_val m C m2 C2 p q B0 A A2 L M b j v w → refPutB_val m C m2 C2 p q B0 A A2 L M b j v w' := by
 intro j v h
 match b, j, h with
 | false, 0, h => exact h
 | true, 0, h => exact h
 | false, 1, h => exact h
 | true, 1, h => exact h
 | false, 2, h => exact h
 | true, 2, h => exact h
 | false, 3, h => exact h
 | true, 3, h => exact h
 | false, 4, h => exact h
 | true, 4, h => exact h
 | false, 5, h => exact h
 | true, 5, h => exact h
 | false, 6, h => exact h
 | true, 6, h => exact h
 | false, 7, h => exact h
 | true, 7, h => exact h
 | false, 8, h => exact h
 | true, 8, h => exact h
 | false, 9, h => exact h
 | true, 9, h => obtain ⟨TA, TC, h1, h2, h3⟩ := h; exact ⟨TA, TC, h1, owns_thru h2 hb, h3⟩
 | false, 10, h => exact h
 | true, 10, h => exact h
 | false, 11, h => exact h
 | true, 11, h => exact h
 | false, _ + 12, h => exact h
 | true, _ + 12, h => exact h
abbrev refPB_mem (s : Nat) : Prop := s ∈ [51, 52, 53, 54, 55, 56, 57, 58, 59, 60, 61, 62]
theorem refPutB (m C m2 C2 p q B0 : Nat) (A A2 : Option Addr) (L M : List Nat) (bd bd2 : Value) (Q : Exit → Act → World → Prop) (t0 : Array Value) (df : List Deferred) (w0 : World) (ht : t0.size = 74)
  (hs4 : t0.getD 4 undef = .pointer (some ⟨q, 0, none⟩)) (hs7 : t0.getD 7 undef = .pointer (some ⟨p, 0, none⟩))
  (hp : w0.heap[p]? = some (.cells #[.slice A m C, bd] 57 (0, 0))) (hqq : w0.heap[q]? = some (.cells #[.slice A2 m2 C2, bd2] 57 (0, 0))) (hown : w0.ownsRow 0 5 1 (.slice A m C) m (lc L)) (hown2 : w0.ownsRow 0 5 1 (.slice A2 m2 C2) m2 (lc M)) (hM : M.length = m2) (hm : m + m2 ≤ 1000000) (hB0 : B0 ≤ w0.heap.size)
  (hQ : ∀ (vs : Nat → Value) (w : World) TA TC, Kept (fun k => (Value.slice A m C).ownBlock = some k) w0 w → vs 60 = .slice TA (m + m2) TC → w.ownsRow 0 5 1 (.slice TA (m + m2) TC) (m + m2) (lc L ++ lc M) → (∀ g, (Value.slice TA (m + m2) TC).ownBlock = some g → (Value.slice A m C).ownBlock = some g ∨ B0 ≤ g) → Q .normal { tmps := [51, 52, 53, 54, 55, 56, 57, 58, 59, 60, 61, 62].foldl (fun y d => y.setIfInBounds d (vs d)) t0, defers := df } (w.setCell ⟨p, 0, none⟩ (.slice TA (m + m2) TC))) :
  (Code.region 12 refPB_ops true).wp Tryz.prog Q { tmps := t0, defers := df } w0 := by
 have hsl : ∀ j, j < 12 → refPB_mem (refPB_slot j) := by
  intro j hj
  match j, hj with
  | 0, _ => exact (by decide : refPB_mem 51)
  | 1, _ => exact (by decide : refPB_mem 52)
  | 2, _ => exact (by decide : refPB_mem 53)
  | 3, _ => exact (by decide : refPB_mem 54)
  | 4, _ => exact (by decide : refPB_mem 55)
  | 5, _ => exact (by decide : refPB_mem 56)
  | 6, _ => exact (by decide : refPB_mem 57)
  | 7, _ => exact (by decide : refPB_mem 58)
  | 8, _ => exact (by decide : refPB_mem 59)
  | 9, _ => exact (by decide : refPB_mem 60)
  | 10, _ => exact (by decide : refPB_mem 61)
  | 11, _ => exact (by decide : refPB_mem 62)
  | k + 12, hj => omega
 refine wp_region_pivot 12 9 (by kernel_rfl) ?_ (by decide) refPB_pre refPB_slot (refPutB_val m C m2 C2 p q B0 A A2 L M) (Kept (fun k => (Value.slice A m C).ownBlock = some k) w0) t0 df w0 ?_ (refPB_inj) ?_ ?_ rfl (refPutB_below m C m2 C2 p q B0 A A2 L M) ?_ ?_ ?_ ?_
 ·refine .inr ⟨rfl, fun listed o hup ho hd => ?_⟩
  have e : o = refPB_ops12 := (Option.some.inj ho).symm; unfold refPB_ops12 at e
  subst e
  have l11 : listed.getD 11 false = true := hd ⟨11, .data⟩ (by simp) rfl
  have l9 : listed.getD 9 false = true := hd ⟨9, .data⟩ (by simp) rfl
  have l0 : listed.getD 0 false = true := hd ⟨0, .phase⟩ (by simp) rfl
  have l1 : listed.getD 1 false = true := hd ⟨1, .phase⟩ (by simp) rfl
  have l2 : listed.getD 2 false = true := hd ⟨2, .phase⟩ (by simp) rfl
  have l3 : listed.getD 3 false = true := hd ⟨3, .phase⟩ (by simp) rfl
  have l4 : listed.getD 4 false = true := hd ⟨4, .phase⟩ (by simp) rfl
  have l5 : listed.getD 5 false = true := hd ⟨5, .phase⟩ (by simp) rfl
  have l6 : listed.getD 6 false = true := hd ⟨6, .phase⟩ (by simp) rfl
  have l7 : listed.getD 7 false = true := hd ⟨7, .phase⟩ (by simp) rfl
  have l8 : listed.getD 8 false = true := hd ⟨8, .phase⟩ (by simp) rfl
  have l10 : listed.getD 10 false = true := hup 11 ⟨some 62, .fieldAddr 57 (.tmp 61) 0, 0, "ref.go:29", #[⟨10, .data⟩, ⟨0, .phase⟩, ⟨1, .phase⟩, ⟨2, .phase⟩, ⟨3, .phase⟩, ⟨4, .phase⟩, ⟨5, .phase⟩, ⟨6, .phase⟩, ⟨7, .phase⟩, ⟨8, .phase⟩, ⟨9, .phase⟩], none⟩ rfl l11 ⟨10, .data⟩ (by simp) rfl
  intro j hj
  match j, hj with
  | 0, _ | 1, _ | 2, _ | 3, _ | 4, _ | 5, _ | 6, _ | 7, _ | 8, _ | 9, _ | 10, _ | 11, _ => assumption
  | k + 12, hj => omega
 ·intro j o ho hj
  rw [ht]
  match j, ho, hj with
  | 0, ho, _ | 1, ho, _ | 2, ho, _ | 3, ho, _ | 4, ho, _ | 5, ho, _ | 6, ho, _ | 7, ho, _ | 8, ho, _ | 9, ho, _ | 10, ho, _ | 11, ho, _ => cases ho; exact ⟨rfl, by decide⟩
  | k + 12, _, hj => omega
 ·intro j o ho
  have hj : j < 13 := (Array.getElem?_eq_some_iff.1 ho).1
  match j, ho with
  | 0, ho | 1, ho | 2, ho | 3, ho | 4, ho | 5, ho | 6, ho | 7, ho | 8, ho | 9, ho | 10, ho | 11, ho | 12, ho => cases ho; decide
  | k + 13, _ => omega
 ·intro listed o hup ho hd
  have e : o = refPB_ops9 := (Option.some.inj ho).symm; unfold refPB_ops9 at e
  subst e
  have l4 : listed.getD 4 false = true := hd ⟨4, .data⟩ (by simp) rfl
  have l8 : listed.getD 8 false = true := hd ⟨8, .data⟩ (by simp) rfl
  have l7 : listed.getD 7 false = true := hup 8 ⟨some 59, .load 28 (.tmp 58), 28, "ref.go:29", #[⟨7, .data⟩], none⟩ rfl l8 ⟨7, .data⟩ (by simp) rfl
  have l6 : listed.getD 6 false = true := hup 7 ⟨some 58, .fieldAddr 57 (.tmp 57) 0, 0, "ref.go:29", #[⟨6, .data⟩], none⟩ rfl l7 ⟨6, .data⟩ (by simp) rfl
  have l5 : listed.getD 5 false = true := hup 6 ⟨some 57, .nilCheck (.tmp 56), 0, "ref.go:29", #[⟨5, .data⟩], none⟩ rfl l6 ⟨5, .data⟩ (by simp) rfl
  have l3 : listed.getD 3 false = true := hup 4 ⟨some 55, .load 28 (.tmp 54), 28, "ref.go:29", #[⟨3, .data⟩], none⟩ rfl l4 ⟨3, .data⟩ (by simp) rfl
  have l2 : listed.getD 2 false = true := hup 3 ⟨some 54, .fieldAddr 57 (.tmp 53) 0, 0, "ref.go:29", #[⟨2, .data⟩], none⟩ rfl l3 ⟨2, .data⟩ (by simp) rfl
  have l1 : listed.getD 1 false = true := hup 2 ⟨some 53, .nilCheck (.tmp 52), 0, "ref.go:29", #[⟨1, .data⟩], none⟩ rfl l2 ⟨1, .data⟩ (by simp) rfl
  intro j hj hp
  match j, hj, hp with
  | 0, _, hp => cases hp
  | 1, _, hp | 2, _, hp | 3, _, hp | 4, _, hp | 5, _, hp | 6, _, hp | 7, _, hp | 8, _, hp => assumption
  | 9, _, hp | 10, _, hp | 11, _, hp => cases hp
  | k + 12, hj, _ => omega
 ·intro w w' hb hg
  exact hg.trans (Kept.of_below (F := fun _ => False) hb) (fun _ _ h => h.elim)
 ·intro b j o ho hj hjp hpre x w hB hGw hdef hsz hs hdeps
  have hs' : ∀ s, ¬ refPB_mem s → x.tmps.getD s undef = t0.getD s undef := fun s hn => hs s (fun j hj e => hn (by rw [e]; exact hsl j hj))
  have u4 := (hs' 4 (by decide)).trans hs4
  have u7 := (hs' 7 (by decide)).trans hs7
  clear hs hs' hsl hsz ht hQ hs4 hs7
  simp only [Array.getD_eq_getD_getElem?] at u4 u7
  match b, j, ho, hj, hjp, hpre with
  | false, 0, ho, _, _, _ =>
    have e : o = refPB_ops0 := (Option.some.inj ho).symm; unfold refPB_ops0 at e
    subst e
    have hB := hB rfl
    clear hdeps
    refine wpOp_step ho (fun K hK => ?_)
    clear ho
    go_simp
    exact hK _ _ ⟨_, act_putD x hdef _ _, rfl, Below.refl _ _⟩
  | true, 0, ho, _, _, _ =>
    have e : o = refPB_ops0 := (Option.some.inj ho).symm; unfold refPB_ops0 at e
    subst e
    have hGw := hGw rfl
    clear hdeps
    refine wpOp_step ho (fun K hK => ?_)
    clear ho
    go_simp
    exact hK _ _ ⟨_, act_putD x hdef _ _, rfl, Below.refl _ _⟩
  | false, 1, ho, _, _, _ =>
    have e : o = refPB_ops1 := (Option.some.inj ho).symm; unfold refPB_ops1 at e
    subst e
    have hB := hB rfl
    clear hdeps
    refine wpOp_step ho (fun K hK => ?_)
    clear ho
    go_simp
    exact hK _ _ ⟨_, act_putD x hdef _ _, rfl, Below.refl _ _⟩
  | true, 1, _, _, _, hpre => exact absurd (hpre rfl) (by decide)
  | false, 2, ho, _, _, _ =>
    have e : o = refPB_ops2 := (Option.some.inj ho).symm; unfold refPB_ops2 at e
    subst e
    obtain q1 := hdeps ⟨1, .data⟩ (by simp) rfl
    have q1 : x.tmps.getD 52 undef = .pointer (some ⟨p, 0, none⟩) := q1
    have hB := hB rfl
    simp only [Array.getD_eq_getD_getElem?] at q1
    clear hdeps
    refine wpOp_step ho (fun K hK => ?_)
    clear ho
    go_simp
    exact hK _ _ ⟨_, act_putD x hdef _ _, rfl, Below.refl _ _⟩
  | true, 2, _, _, _, hpre => exact absurd (hpre rfl) (by decide)
  | false, 3, ho, _, _, _ =>
    have e : o = refPB_ops3 := (Option.some.inj ho).symm; unfold refPB_ops3 at e
    subst e
    obtain q2 := hdeps ⟨2, .data⟩ (by simp) rfl
    have q2 : x.tmps.getD 53 undef = .pointer (some ⟨p, 0, none⟩) := q2
    have hB := hB rfl
    simp only [Array.getD_eq_getD_getElem?] at q2
    clear hdeps
    refine wpOp_step ho (fun K hK => ?_)
    clear ho
    go_simp
    exact hK _ _ ⟨_, act_putD x hdef _ _, rfl, Below.refl _ _⟩
  | true, 3, _, _, _, hpre => exact absurd (hpre rfl) (by decide)
  | false, 4, ho, _, _, _ =>
    have e : o = refPB_ops4 := (Option.some.inj ho).symm; unfold refPB_ops4 at e
    subst e
    obtain q3 := hdeps ⟨3, .data⟩ (by simp) rfl
    have q3 : x.tmps.getD 54 undef = .pointer (some ⟨p, 0, none⟩) := q3
    have hB := hB rfl
    simp only [Array.getD_eq_getD_getElem?] at q3
    clear hdeps
    have cw : w.cell? ⟨p, 0, none⟩ = some (.slice A m C) := cell_of_row _ p 0 _ _ _ ((hB.block _ (block_lt hp)).trans hp)
    refine wpOp_step ho (fun K hK => ?_)
    clear ho
    go_simp
    exact hK _ _ ⟨_, act_putD x hdef _ _, rfl, Below.refl _ _⟩
  | true, 4, _, _, _, hpre => exact absurd (hpre rfl) (by decide)
  | false, 5, ho, _, _, _ =>
    have e : o = refPB_ops5 := (Option.some.inj ho).symm; unfold refPB_ops5 at e
    subst e
    have hB := hB rfl
    clear hdeps
    refine wpOp_step ho (fun K hK => ?_)
    clear ho
    go_simp
    exact hK _ _ ⟨_, act_putD x hdef _ _, rfl, Below.refl _ _⟩
  | true, 5, _, _, _, hpre => exact absurd (hpre rfl) (by decide)
  | false, 6, ho, _, _, _ =>
    have e : o = refPB_ops6 := (Option.some.inj ho).symm; unfold refPB_ops6 at e
    subst e
    obtain q5 := hdeps ⟨5, .data⟩ (by simp) rfl
    have q5 : x.tmps.getD 56 undef = .pointer (some ⟨q, 0, none⟩) := q5
    have hB := hB rfl
    simp only [Array.getD_eq_getD_getElem?] at q5
    clear hdeps
    refine wpOp_step ho (fun K hK => ?_)
    clear ho
    go_simp
    exact hK _ _ ⟨_, act_putD x hdef _ _, rfl, Below.refl _ _⟩
  | true, 6, _, _, _, hpre => exact absurd (hpre rfl) (by decide)
  | false, 7, ho, _, _, _ =>
    have e : o = refPB_ops7 := (Option.some.inj ho).symm; unfold refPB_ops7 at e
    subst e
    obtain q6 := hdeps ⟨6, .data⟩ (by simp) rfl
    have q6 : x.tmps.getD 57 undef = .pointer (some ⟨q, 0, none⟩) := q6
    have hB := hB rfl
    simp only [Array.getD_eq_getD_getElem?] at q6
    clear hdeps
    refine wpOp_step ho (fun K hK => ?_)
    clear ho
    go_simp
    exact hK _ _ ⟨_, act_putD x hdef _ _, rfl, Below.refl _ _⟩
  | true, 7, _, _, _, hpre => exact absurd (hpre rfl) (by decide)
  | false, 8, ho, _, _, _ =>
    have e : o = refPB_ops8 := (Option.some.inj ho).symm; unfold refPB_ops8 at e
    subst e
    obtain q7 := hdeps ⟨7, .data⟩ (by simp) rfl
    have q7 : x.tmps.getD 58 undef = .pointer (some ⟨q, 0, none⟩) := q7
    have hB := hB rfl
    simp only [Array.getD_eq_getD_getElem?] at q7
    clear hdeps
    have cw : w.cell? ⟨q, 0, none⟩ = some (.slice A2 m2 C2) := cell_of_row _ q 0 _ _ _ ((hB.block _ (block_lt hqq)).trans hqq)
    refine wpOp_step ho (fun K hK => ?_)
    clear ho
    go_simp
    exact hK _ _ ⟨_, act_putD x hdef _ _, rfl, Below.refl _ _⟩
  | true, 8, _, _, _, hpre => exact absurd (hpre rfl) (by decide)
  | _, 9, _, _, hjp, _ => exact absurd rfl hjp
  | false, 10, ho, _, _, _ =>
    have e : o = refPB_ops10 := (Option.some.inj ho).symm; unfold refPB_ops10 at e
    subst e
    exact (hdeps ⟨9, .phase⟩ (by simp) rfl : False).elim
  | true, 10, ho, _, _, _ =>
    have e : o = refPB_ops10 := (Option.some.inj ho).symm; unfold refPB_ops10 at e
    subst e
    obtain q0 := hdeps ⟨0, .data⟩ (by simp) rfl
    have q0 : x.tmps.getD 51 undef = .pointer (some ⟨p, 0, none⟩) := q0
    have hGw := hGw rfl
    simp only [Array.getD_eq_getD_getElem?] at q0
    clear hdeps
    refine wpOp_step ho (fun K hK => ?_)
    clear ho
    go_simp
    exact hK _ _ ⟨_, act_putD x hdef _ _, rfl, Below.refl _ _⟩
  | false, 11, ho, _, _, _ =>
    have e : o = refPB_ops11 := (Option.some.inj ho).symm; unfold refPB_ops11 at e
    subst e
    exact (hdeps ⟨10, .data⟩ (by simp) rfl : False).elim
  | true, 11, ho, _, _, _ =>
    have e : o = refPB_ops11 := (Option.some.inj ho).symm; unfold refPB_ops11 at e
    subst e
    have q10 : x.tmps.getD 61 undef = .pointer (some ⟨p, 0, none⟩) := hdeps ⟨10, .data⟩ (by simp) rfl
    have hGw := hGw rfl
    simp only [Array.getD_eq_getD_getElem?] at q10
    clear hdeps
    refine wpOp_step ho (fun K hK => ?_)
    clear ho
    go_simp
    exact hK _ _ ⟨_, act_putD x hdef _ _, rfl, Below.refl _ _⟩
  | _, k + 12, _, hj, _, _ => omega
 ·intro o ho x w hB hdef hsz hs hdeps
  have hs' : ∀ s, ¬ refPB_mem s → x.tmps.getD s undef = t0.getD s undef := fun s hn => hs s (fun j hj e => hn (by rw [e]; exact hsl j hj))
  have u4 := (hs' 4 (by decide)).trans hs4
  have u7 := (hs' 7 (by decide)).trans hs7
  clear hs hs' hsl hsz ht hQ hs4 hs7
  simp only [Array.getD_eq_getD_getElem?] at u4 u7
  have e : o = refPB_ops9 := (Option.some.inj ho).symm; unfold refPB_ops9 at e
  subst e
  obtain q4 := hdeps ⟨4, .data⟩ (by simp) rfl
  have q4 : x.tmps.getD 55 undef = .slice A m C := q4
  obtain q8 := hdeps ⟨8, .data⟩ (by simp) rfl
  have q8 : x.tmps.getD 59 undef = .slice A2 m2 C2 := q8
  clear hdeps
  obtain ⟨i0, hi, hq0, hq1, hq2⟩ := info_parts info_u8
  have hno := owns_thru hown hB
  have hno2 := owns_thru hown2 hB
  refine wpOp_step ho (fun K hK => step_append_foot w rfl (.tmp 55) (.tmp 59) 28 rfl 5 i0 (.int .u8 0) 1 Tryz.underlying28 hi hq0 hq1 hq2 rfl 0 (.slice A m C) m (lc L) q4 hno A2 m2 C2 (lc M) q8 (by rw [lc_length]; exact hM) (fun e => by subst e; exact owns_none hno2) (owns_news hno2 rfl) (lc_one _) (by unfold maxLen; omega) (by omega) (Nat.zero_le _) ?_)
  intro A' C' w' ho' hg
  refine hK _ _ ⟨_, rfl, ⟨A', C', rfl, ho', fun g hgb => ?_⟩, (Kept.of_below (F := fun k => (Value.slice A m C).ownBlock = some k) hB).trans (hg.kept (F := fun k => (Value.slice A m C).ownBlock = some k) (fun _ h => h)) (fun k hk h => h), ?_⟩
  ·rcases hg.foot (F := fun k => (Value.slice A m C).ownBlock = some k) (fun _ h => h) g hgb with h | h
   ·exact .inl h
   ·exact .inr (by have := hB.size; omega)
  ·intro i u h
   match i, h with
   | 0, h => exact h
   | 1, h | 2, h | 3, h | 4, h | 5, h | 6, h | 7, h | 8, h => exact trivial
   | 9, h | 10, h | 11, h => exact h.elim
   | k + 12, h => exact h
 ·intro x w hG hdef hsz hs hv
  have hx := frame_sets x.tmps t0 hsz [51, 52, 53, 54, 55, 56, 57, 58, 59, 60, 61, 62] (fun s hn => hs s (fun j hj e => hn (by rw [e]; exact hsl j hj)))
  refine ⟨fun e => absurd e (by decide), fun _ => ?_⟩
  obtain ⟨TA, TC, qa, pa, sa⟩ := hv 9 (by decide)
  have qp := hv 11 (by decide)
  have hq := hQ (fun d => x.tmps.getD d undef) w TA TC hG qa pa sa
  have hpw : ∃ b1, w.heap[p]? = some (.cells #[.slice A m C, b1] 57 (0, 0)) := ⟨_, hG.heap hp (fun e => owns_tyne hown hp (by decide) e)⟩
  obtain ⟨b1, hpw⟩ := hpw
  obtain ⟨c0, _, f0, _⟩ := cells2 hpw
  have qa' : x.tmps.getD 60 undef = .slice TA (m + m2) TC := qa
  have qp' : x.tmps.getD 62 undef = .pointer (some ⟨p, 0, none⟩) := qp
  obtain ⟨T0, Df⟩ := x
  dsimp only at hx hdef hq qa' qp'
  subst hdef
  refine wpOp_step (o := refPB_ops[12]) rfl (fun K hK => ?_)
  simp only [Array.getD_eq_getD_getElem?] at qa' qp'
  clear hQ hs hv qa qp pa hsz ht hpw
  simp only [refPB_ops]
  rw [← hx] at hq
  clear hx
  go_simp
  exact hK _ _ hq
open Go.RowKit
theorem RW.tight {w : World} {p N : Nat} {F : Nat → Prop} {xs : List Nat} (h : RW w p F (some xs) N) : RW w p F (some xs) xs.length := by
 obtain ⟨hp, A, C, ys, h0, h1, h2, h3, h4, h5⟩ := h
 have e := h5 xs rfl
 subst e
 exact ⟨hp, A, C, ys, h0, h1, h2, h3, Nat.le_refl _, h5⟩
theorem putText_someF (xs L : List Nat) (h : L.length ≤ maxNum) : putText (some xs) L = some (xs ++ encN L.length ++ L) := by
 have : (0 : Int) ≤ (L.length : Int) ∧ (L.length : Int) ≤ ((maxNum : Nat) : Int) := by omega
 show putRaw (if (0 : Int) ≤ (L.length : Int) ∧ (L.length : Int) ≤ ((maxNum : Nat) : Int) then some (xs ++ encN (L.length : Int).toNat) else none) L = _
 rw [if_pos this]
 simp [putRaw]
def RWB (w : World) (p : Nat) (L : List Nat) (W : World) : Prop := RW W p (fun g => w.heap.size ≤ g ∧ g < W.heap.size) (some L) L.length ∧ Below w.heap.size w W
theorem RWB.open {w W : World} {p : Nat} {L : List Nat} (h : RWB w p L W) : w.heap.size ≤ p ∧ p < W.heap.size ∧ ∃ A C, W.heap[p]? = some (.cells #[.slice A L.length C, .bool false] 57 (0, 0)) ∧ W.ownsRow 0 5 1 (.slice A L.length C) L.length (lc L) ∧ (∀ b ∈ L, b < 256) ∧
  (∀ g, (Value.slice A L.length C).ownBlock = some g → w.heap.size ≤ g ∧ g < W.heap.size) := by
 obtain ⟨⟨hp, A, C, ys, h0, h1, h2, h3, h4, h5⟩, _⟩ := h
 have e := h5 L rfl
 subst e
 exact ⟨hp.1, hp.2, A, C, h0, h1, h2, h3⟩
theorem RWB.made {w W W' : World} {p m C' : Nat} {L M : List Nat} {A' : Option Addr} (h : RWB w p L W) {A : Option Addr} {C : Nat} (h0 : W.heap[p]? = some (.cells #[.slice A L.length C, .bool false] 57 (0, 0))) (hown0 : W.ownsRow 0 5 1 (.slice A L.length C) L.length (lc L)) (hs : ∀ g, (Value.slice A L.length C).ownBlock = some g → w.heap.size ≤ g ∧ g < W.heap.size)
  (hk : Kept (fun k => (Value.slice A L.length C).ownBlock = some k) W W') (hm : m = (L ++ M).length) (hM : ∀ b ∈ M, b < 256) (hL : ∀ b ∈ L, b < 256)
  (ho : W'.ownsRow 0 5 1 (.slice A' m C') m (lc L ++ lc M)) (hf : ∀ g, (Value.slice A' m C').ownBlock = some g → (Value.slice A L.length C).ownBlock = some g ∨ W.heap.size ≤ g) : RWB w p (L ++ M) (W'.setCell ⟨p, 0, none⟩ (.slice A' m C')) := by
 subst hm
 have hp' := hk.heap h0 (fun e => owns_tyne hown0 h0 (by decide) e)
 have hsz := hk.size
 have hKs : Kept (fun k => k = p) W' (W'.setCell ⟨p, 0, none⟩ (.slice A' (L ++ M).length C')) := (Kept.refl (fun k => k = p) W').setCell (.inl rfl) _
 have hs2 := hKs.size
 have hpw := h.open.1
 have hpl := h.open.2.1
 refine ⟨⟨⟨hpw, by omega⟩, A', C', L ++ M, heap_setCell_same _ p 0 _ _ _ hp', ?_, ?_, fun g hg => ?_, Nat.le_refl _, fun xs e => by cases e; rfl⟩, ?_⟩
 ·rw [lc_append]
  exact owns_kept ho hKs (fun g hg e => by subst e; exact owns_tyne ho hp' (by decide) hg)
 ·intro b hb
  rcases List.mem_append.1 hb with hb | hb
  ·exact hL b hb
  ·exact hM b hb
 ·have hlt := (owns_cells ho g hg).1
  rcases hf g hg with e | e
  ·have := hs g e; exact ⟨this.1, by omega⟩
  ·have := h.2.size; exact ⟨by omega, by omega⟩
 ·exact h.2.trans (((hk.mono (G := fun k => w.heap.size ≤ k) (fun k _ e => (hs k e).1)).trans (hKs.mono (G := fun k => w.heap.size ≤ k) (fun k _ e => by omega)) (fun _ _ h => h)).below (fun _ h => h) h.2.size)
theorem RWB.text {w W W' : World} {p N : Nat} {L M : List Nat} (h : RWB w p L W) (hr : RW W' p (Fnew (fun g => w.heap.size ≤ g ∧ g < W.heap.size) W W') (some M) N) (hk : Kept (fun g => w.heap.size ≤ g ∧ g < W.heap.size) W W') : RWB w p M W' := by
 have hs := hk.size
 have hw := h.2.size
 refine ⟨hr.tight.mono (fun _ hk => ?_) (Nat.le_refl _), h.2.trans (hk.below (fun _ hk => hk.1) hw)⟩
 rcases hk with hk | hk
 ·exact ⟨hk.1, by omega⟩
 ·exact ⟨by omega, hk.2⟩
theorem RWB.below {w W W' : World} {p : Nat} {L : List Nat} (h : RWB w p L W) (hb : Below W.heap.size W W') : RWB w p L W' :=
 ⟨(h.1.kept (Kept.of_below (F := fun _ => False) hb) (fun _ _ h => h)).mono (fun _ hk => ⟨hk.1, Nat.lt_of_lt_of_le hk.2 hb.size⟩) (Nat.le_refl _), h.2.trans (hb.mono h.2.size)⟩
theorem RWB.fresh (w W : World) (hb : Below w.heap.size w W) : RWB w W.heap.size [] (W.alloc (.cells #[.slice none 0 0, .bool false] 57)) :=
 ⟨⟨⟨hb.size, by simp⟩, none, 0, [], heap_alloc_new _ _, World.ownsRow_nil _ _ _ _, (by simp), (by intro g h; cases h), Nat.le_refl _, fun xs e => by cases e; rfl⟩, hb.alloc hb.size _⟩
theorem refPut_any (a : Option Addr) (n cap : Nat) (P : Nat → Prt) (w : World) (hP : Prts w a n P) (hn : n ≤ 1000000) (hs : sizeB (pts P n) ≤ 900000) :
  Calls Tryz.prog 20 #[.slice a n cap] w fun e w' => ∃ v, e = .returned (.tuple #[v, .int .i64 0]) ∧ w'.ownsRow w.heap.size 5 1 v (sizeB (pts P n)) (lc (fileB (pts P n))) ∧ Below w.heap.size w w' := by
 have hok := pts_ok (k := n) hP (by omega) (Nat.le_refl _)
 have hLs : ∀ i, i < n → (P i).B.length ≤ 900000 := fun i hi => by have := bodyB_one P hi; unfold sizeB at hs; omega
 have hF0 := RWB.fresh w w (Below.refl _ _)
 have HP := hide (And.intro hP (And.intro hok (And.intro hLs hs)))
 clear hP hok hLs hs
 go_enter Tryz.func20, Tryz.ntmps20
 go_wp2
 go_loopg [5] n (fun q s5 wr => ∃ k : Nat, k + q = n ∧ s5 = .int .i64 k ∧ RWB w w.heap.size (bodyB (pts P k)) wr)
 case atStart => exact ⟨0, by omega, rfl, hF0⟩
 case round =>
  obtain ⟨k, hkq, rfl, hR⟩ := hrel
  clear hF0
  obtain ⟨hp1, hp2, A, C, h0, h1, h2, h3⟩ := hR.open
  obtain ⟨c0, c1, f0, f1⟩ := cells2 h0
  cases gk with
  | zero =>
    obtain rfl : k = n := by omega
    have hsz : (bodyB (pts P k)).length + 8 ≤ 900000 := HP.out.2.2.2
    have HR := hide (And.intro hR (And.intro h0 (And.intro h1 (And.intro h2 h3))))
    have hV0 := RWB.fresh wr wr (Below.refl _ _)
    obtain ⟨W4, hW4⟩ : ∃ W4, wr.alloc (.cells #[.slice none 0 0, .bool false] 57) = W4 := ⟨_, rfl⟩
    rw [hW4] at hV0
    obtain ⟨m, hm⟩ : ∃ m, (bodyB (pts P k)).length = m := ⟨_, rfl⟩
    have HMM := hide hm
    rw [hm] at c0 hsz
    have hfx := refFixed_any wr.heap.size (fun g => wr.heap.size ≤ g ∧ g < W4.heap.size) (some []) _ (m + 8) W4 hV0.1 (fun g hg => hg.2) (by omega) (by simp)
    rw [show putRaw (some []) (fixB (m + 8)) = some (fixB (m + 8)) from rfl] at hfx
    have HV0 := hide hV0
    obtain ⟨sz, hsz8⟩ : ∃ sz, m + 8 = sz := ⟨_, rfl⟩
    have e8 : (m : Int) + 8 = (sz : Int) := by omega
    have hm0 : (0 : Int) ≤ (sz : Int) := by omega
    have hm1 : (sz : Int) ≤ 1000000 := by omega
    rw [hsz8] at hfx
    have HS8 := hide hsz8
    clear hR h0 h1 h2 h3 hp1 hp2 hV0 hm hsz8 hsz
    go_wp2_with fail
    refine hfx.mono ?_
    rintro e w5 ⟨rfl, hr5, hk5⟩
    have hV5 := HV0.out.text hr5 hk5
    obtain ⟨vp1, vp2, A5, C5, v0, v1, v2, v3⟩ := hV5.open
    obtain ⟨_, g0, g1, g2, _⟩ := HR.out
    have hb5 := hV5.2
    have g0' := (hb5.block _ (block_lt g0)).trans g0
    have g1' := owns_thru g1 hb5
    have hmm := HMM.out
    rw [hmm] at g0' g1'
    have hf4 : (fixB sz).length = 4 := rfl
    rw [hf4] at v0 v1
    have H5 := hide (And.intro hV5 (And.intro v2 (And.intro v3 g2)))
    clear hfx hr5 hk5 hV5 v2 v3 g0 g1 g2 hb5 hf4 c0 c1 f0 f1 vp1 vp2
    go_wp2
    refine refPutB 4 C5 m C wr.heap.size w.heap.size w5.heap.size A5 A (fixB sz) (bodyB (pts P k)) (.bool false) (.bool false) _ _ _ _ rfl rfl rfl v0 g0' v1 g1' hmm (by omega) (Nat.le_refl _) ?_
    intro vs w6 TA TC hK6 hv60 ho6 hs6
    simp only [List.foldl_cons, List.foldl_nil, List.setIfInBounds_toArray, List.set_cons_succ, List.set_cons_zero]
    rw [hv60]
    generalize vs 51 = z51
    generalize vs 52 = z52
    generalize vs 53 = z53
    generalize vs 54 = z54
    generalize vs 55 = z55
    generalize vs 56 = z56
    generalize vs 57 = z57
    generalize vs 58 = z58
    generalize vs 59 = z59
    generalize vs 61 = z61
    generalize vs 62 = z62
    have hV6 := H5.out.1.made (M := bodyB (pts P k)) v0 v1 H5.out.2.2.1 hK6 (by rw [List.length_append, hmm]; rfl) H5.out.2.2.2 H5.out.2.1 ho6 hs6
    obtain ⟨W6, hW6⟩ : ∃ W6, w6.setCell ⟨wr.heap.size, 0, none⟩ (.slice TA (4 + m) TC) = W6 := ⟨_, rfl⟩
    rw [hW6] at hV6 ⊢
    have hahead : fixB sz ++ bodyB (pts P k) = aheadB (pts P k) := by unfold aheadB sizeB; rw [hmm, HS8.out]
    rw [hahead] at hV6
    have hal : (aheadB (pts P k)).length = 4 + m := by rw [← hahead, List.length_append, hmm]; rfl
    obtain ⟨_, _, A7, C7, v0, v1, v2, v3⟩ := hV6.open
    rw [hal] at v0 v1
    obtain ⟨d0, d1, i0, i1⟩ := cells2 v0
    obtain ⟨hl7, B7, D7, hv7, _, _, _, _, hbl7, _⟩ := owns_bl v1 v2
    cases hv7
    clear hl7
    have hone := refOne_any A7 (4 + m) C7 (fun i => (aheadB (pts P k)).getD i 0) W6 (by omega) (by have := hbl7; unfold BL at this; rw [hal] at this; exact this)
    rw [show sumN (fun i => (aheadB (pts P k)).getD i 0) (4 + m) = crcL (aheadB (pts P k)) from by unfold crcL; rw [hal]] at hone
    have hfx := refFixed_any wr.heap.size (fun g => wr.heap.size ≤ g ∧ g < W6.heap.size) (some (aheadB (pts P k))) _ (crcL (aheadB (pts P k))) W6 hV6.1 (fun g hg => hg.2) (crcL_lt _) (by omega)
    rw [show putRaw (some (aheadB (pts P k))) (fixB (crcL (aheadB (pts P k)))) = some (fileB (pts P k)) from rfl] at hfx
    have H6 := hide hV6
    clear hV6 v0 v1 v2 v3 hbl7 hK6 hv60 ho6 hs6 hW6 g0' g1' hal hahead hmm
    go_wp2_with fail
    refine hone.mono ?_
    rintro e w6' ⟨rfl, rfl⟩
    clear hone
    go_wp2_with fail
    refine hfx.mono ?_
    rintro e w8 ⟨rfl, hr8, hk8⟩
    have hV8 := H6.out.text hr8 hk8
    obtain ⟨_, _, A9, C9, v0, v1, v2, v3⟩ := hV8.open
    obtain ⟨d0, d1, i0, i1⟩ := cells2 v0
    have hw := HR.out.1.2
    have hfin : Below w.heap.size w w8 := hw.trans (hV8.2.mono hw.size)
    have hown : w8.ownsRow w.heap.size 5 1 (.slice A9 (fileB (pts P k)).length C9) (fileB (pts P k)).length (lc (fileB (pts P k))) := owns_raise v1 (fun g hg => Nat.le_trans hw.size (v3 g hg).1)
    have hfl := fileB_len (pts P k)
    have HF := hide (And.intro hfin (And.intro hown hfl))
    clear hfx hr8 hk8 hV8 v0 v1 v2 v3 hw hfin hown hfl
    go_wp2_with fail
    obtain ⟨hfin, hown, hfl⟩ := HF.out
    exact bodyPost_ret_by (results_tmp2 rfl _ _ _) rfl ⟨_, rfl, by rw [← hfl]; exact hown, hfin⟩
  | succ q =>
    have hkn : k < n := by omega
    have hkz : (k : Int) < (n : Int) := by omega
    have hk0 : (0 : Int) ≤ (k : Int) := by omega
    obtain ⟨b, off, rfl, ⟨e0, e1⟩, hokk⟩ := (HP.out.1.below hR.2).cells k hkn
    have hmono := bodyB_mono P (show k + 1 ≤ n by omega)
    have hpt := bodyB_pts P k
    have hbl : (bodyB (pts P k)).length + 1 ≤ 900000 := by have := HP.out.2.2.2; unfold sizeB at this; simp [headP] at hpt; omega
    have hokw : (P k).Ok w := by
     obtain ⟨_, _, _, _, hh⟩ := HP.out.1.cells k hkn
     exact hh
    have hll := HP.out.2.2.1 k hkn
    have hsucc : bodyB (pts P k) ++ [(P k).T] ++ encN (P k).B.length ++ (P k).B = bodyB (pts P (k + 1)) := by
     rw [pts_succ, bodyB_snoc]; simp [partB, headP, pt]
    have HX := hide (And.intro hR (And.intro h0 (And.intro h1 (And.intro h2 (And.intro h3 (And.intro hokk (And.intro hokw (And.intro e1 hsucc))))))))
    have HS := hide (And.intro hp1 hp2)
    clear hR h1 h2 h3 hokk hokw hmono hpt hsucc e1 hp1 hp2
    obtain ⟨m, hm⟩ : ∃ m, (bodyB (pts P k)).length = m := ⟨_, rfl⟩
    rw [hm] at c0 h0 hbl
    have HMM := hide hm
    have hown : wr.ownsRow 0 5 1 (.slice A m C) m (lc (bodyB (pts P k))) := by have := HX.out.2.2.1; rw [hm] at this; exact this
    clear hm
    go_wp2
    refine refPutA n k m C w.heap.size b off cap (P k).T wr.heap.size A (bodyB (pts P k)) (.bool false) _ _ _ _ rfl rfl rfl rfl h0 hown e0 hkn (by omega) (Nat.le_refl _) ?_
    intro vs w2 TA TC hK2 hv27 ho2 hs2
    simp only [List.foldl_cons, List.foldl_nil, List.setIfInBounds_toArray, List.set_cons_succ, List.set_cons_zero]
    rw [hv27]
    generalize vs 16 = z16
    generalize vs 17 = z17
    generalize vs 18 = z18
    generalize vs 19 = z19
    generalize vs 20 = z20
    generalize vs 21 = z21
    generalize vs 22 = z22
    generalize vs 23 = z23
    generalize vs 24 = z24
    generalize vs 25 = z25
    generalize vs 26 = z26
    generalize vs 28 = z28
    generalize vs 29 = z29
    obtain ⟨hR, h0', h1', h2, h3, hokk, hokw, e1, hsucc⟩ := HX.out
    have hmm := HMM.out
    subst hmm
    have hR2 := hR.made (M := [(P k).T]) h0' h1' h3 hK2 (by simp) (by intro b hb; simp at hb; subst hb; exact hokk.T) h2 ho2 hs2
    have hKK : Kept (fun g => w.heap.size ≤ g) wr (w2.setCell ⟨w.heap.size, 0, none⟩ (.slice TA ((bodyB (pts P k)).length + 1) TC)) := (hK2.mono (G := fun g => w.heap.size ≤ g) (fun g _ e => (h3 g e).1)).setCell (.inl (Nat.le_refl _)) _
    obtain ⟨W2, hW2⟩ : ∃ W2, w2.setCell ⟨w.heap.size, 0, none⟩ (.slice TA ((bodyB (pts P k)).length + 1) TC) = W2 := ⟨_, rfl⟩
    rw [hW2] at hR2 hKK ⊢
    have hbw : b < w.heap.size := by
     obtain ⟨b', off', e, ⟨x0, _⟩, _⟩ := HP.out.1.cells k hkn
     cases e
     exact block_lt_of_cell x0
    have e1' := hKK.cell e1 (by show ¬ w.heap.size ≤ b; omega)
    have hbb : BL W2 (P k).pB (P k).B := hokk.bB.kept0 hKK (fun g o s e h0 hg => by have := hokw.atB g o s e h0; omega)
    have htx := refText_any w.heap.size (fun g => w.heap.size ≤ g ∧ g < W2.heap.size) (some (bodyB (pts P k) ++ [(P k).T])) _ (P k).pB (P k).B.length (P k).cB (P k).B W2 hR2.1 (fun g hg => hg.2) rfl hokk.lB hokk.nB (fun g o s e h0 => by have := hokw.atB g o s e h0; have := hR2.2.size; exact ⟨fun hh => by omega, by omega⟩) (by simp; omega) hbb
    rw [putText_someF _ _ (by unfold maxNum; omega), hsucc] at htx
    have HR2 := hide hR2
    clear hW2 hR hR2 hKK h0 h0' h1' h2 h3 hokk hokw e1 hsucc hown ho2 hs2 hK2 c0 c1 f0 f1 hv27 e0 hbb hbl hll
    go_wp2_with fail
    refine htx.mono ?_
    rintro e w3 ⟨rfl, hr3, hk3⟩
    have hR3 := HR2.out.text hr3 hk3
    have HR3 := hide hR3
    clear htx hr3 hk3 hR3
    go_wp2_with fail
    go_roundg q
    case measure => omega
    case rel => exact ⟨k + 1, by omega, by go_num, HR3.out⟩
end Go.Proofs.YtppdbinppibjhaaGreatDoor
