/-
  A writer of the reference that the call has for itself: numbers, fixed ones, texts, one behind the other.
-/
import Derived.Test.YtppdbinppibjhaaGreatDoorWrRef
import Derived.Test.YtppdbinppibjhaaGreatDoorSolo
set_option linter.unusedVariables false
set_option linter.unusedSimpArgs false
namespace Go.Proofs.YtppdbinppibjhaaGreatDoor
open Go.RowKit
def RSolo (B p : Nat) (S : Option (List Nat)) (N : Nat) (w : World) : Prop := ∃ F, RW w p F S N ∧ (∀ x, F x → B ≤ x ∧ x < w.heap.size) ∧ B ≤ w.heap.size
section
variable {B p N : Nat} {S : Option (List Nat)} {w w' : World}
theorem RSolo.below (h : RSolo B p S N w) (hb : Below w.heap.size w w') : RSolo B p S N w' := by
 obtain ⟨F, h1, h2, h3⟩ := h
 have hs := hb.size
 exact ⟨F, h1.kept (Kept.of_below (F := fun _ => False) hb) (fun _ _ h => h), fun x hx => by have := h2 x hx; omega, by omega⟩
theorem RSolo.mono (h : RSolo B p S N w) {M : Nat} (hN : N ≤ M) : RSolo B p S M w := by
 obtain ⟨F, h1, h2, h3⟩ := h
 exact ⟨F, h1.mono (fun _ h => h) hN, h2, h3⟩
theorem RSolo.step {F : Nat → Prop} {S2 : Option (List Nat)} (h2 : ∀ x, F x → B ≤ x ∧ x < w.heap.size) (h3 : B ≤ w.heap.size) (hw : RW w' p (Fnew F w w') S2 N) (hk : Kept F w w') : RSolo B p S2 N w' ∧ Below B w w' := by
 have hs := hk.size
 refine ⟨⟨_, hw, fun x hx => ?_, by omega⟩, hk.below (fun x hx => (h2 x hx).1) h3⟩
 rcases hx with hx | hx
 ·have := h2 x hx; omega
 ·exact ⟨by omega, hx.2⟩
theorem rsolo_num (x : Int) (h : RSolo B p S N w) (hx : (Lit.int .i64 x).wf = true) (hN : N + 6 ≤ 140737488355328) :
  Calls Tryz.prog 29 #[.pointer (some ⟨p, 0, none⟩), .int .i64 x] w fun e w' => e = .returned (.tuple #[]) ∧ RSolo B p (putNum S x) (N + 6) w' ∧ Below B w w' := by
 obtain ⟨F, h1, h2, h3⟩ := h
 exact (refNumber_any p F S N x w h1 (fun k hk => (h2 k hk).2) hx hN).mono fun e w' ⟨he, hw, hk⟩ => ⟨he, RSolo.step h2 h3 hw hk⟩
theorem RSolo.bytes {xs : List Nat} (h : RSolo B p (some xs) N w) : ∃ A C, w.cell? ⟨p, 0, none⟩ = some (.slice A xs.length C) ∧ BL w A xs ∧ xs.length ≤ C ∧ C ≤ 9223372036854775807 ∧ (A = none → C = 0) ∧ w.ownsRow 0 5 1 (.slice A xs.length C) xs.length (lc xs) := by
 obtain ⟨F, ⟨hp, A, C, ys, h0, h1, h2, h3, h4, h5⟩, _⟩ := h
 obtain rfl := h5 xs rfl
 have h1' := h1
 obtain ⟨_, A', C', e, hAC, hm, hAn, _, hbl, _⟩ := owns_bl h1 h2
 cases e
 exact ⟨A, C, (cells2 h0).1, hbl, by omega, by omega, hAn, h1'⟩
theorem RSolo.fresh (w : World) (p : Nat) (hp : p = w.heap.size) : RSolo w.heap.size p (some []) 0 (w.alloc (.cells #[.slice none 0 0, .bool false] 57)) := by
 subst hp
 exact ⟨fun k => k = w.heap.size, ⟨rfl, none, 0, [], heap_alloc_new _ _, World.ownsRow_nil _ _ _ _, by simp, (fun g h => by cases h), Nat.le_refl _, (fun xs e => by cases e; rfl)⟩, fun x hx => by subst hx; simp, by simp⟩
end
end Go.Proofs.YtppdbinppibjhaaGreatDoor
