/-
  SetAlgebra's sets; rows of three sets.
-/
import Derived.Test.YtmnjicpgdhnimaaDoorSAlg
import Derived.Test.YtmnjicpgdhnimaaDoorSOfBytes
import Derived.Test.YtmnjicpgdhnimaaDoorSRange
namespace Go.Proofs.YtmnjicpgdhnimaaDoor
open Go.RowKit

def UN (A B C : Nat → Bool) (b : Nat) : Bool := A b || B b || C b
def ME (A B C : Nat → Bool) (b : Nat) : Bool := A b && B b && C b
def NO (A : Nat → Bool) (b : Nat) : Bool := !A b
/-- Three sets in a row of the call's own. -/
def three (A B C : Nat → Bool) (i : Nat) : Nat → Bool := if i = 0 then A else if i = 1 then B else C
theorem three_sets (w : World) (g : Nat) (hg : g = w.heap.size) (A B C : Nat → Bool) (fr : Nat × Nat) :
    Sets (w.alloc (.cells #[.int .u64 (wd A 0 : Nat), .int .u64 (wd A 1 : Nat), .int .u64 (wd A 2 : Nat), .int .u64 (wd A 3 : Nat), .int .u64 (wd B 0 : Nat), .int .u64 (wd B 1 : Nat), .int .u64 (wd B 2 : Nat), .int .u64 (wd B 3 : Nat), .int .u64 (wd C 0 : Nat), .int .u64 (wd C 1 : Nat), .int .u64 (wd C 2 : Nat), .int .u64 (wd C 3 : Nat)] 24 fr)) (some ⟨g, 0, none⟩) 3 (three A B C) := by
  subst hg
  refine .inr ⟨_, _, rfl, fun i hi j hj => ?_⟩
  rw [cell_of_row _ _ _ _ _ _ (World.alloc_heap_new w _)]
  match i, hi, j, hj with
  | 0, _, 0, _ => rfl
  | 0, _, 1, _ => rfl
  | 0, _, 2, _ => rfl
  | 0, _, 3, _ => rfl
  | 1, _, 0, _ => rfl
  | 1, _, 1, _ => rfl
  | 1, _, 2, _ => rfl
  | 1, _, 3, _ => rfl
  | 2, _, 0, _ => rfl
  | 2, _, 1, _ => rfl
  | 2, _, 2, _ => rfl
  | 2, _, 3, _ => rfl
theorem alg_un (A B C : Nat → Bool) (b : Nat) : anyS (three A B C) 3 b = UN A B C b := by simp [anyS, three, UN]
theorem alg_me (A B C : Nat → Bool) (b : Nat) : allS (three A B C) 3 b = ME A B C b := by simp [allS, three, ME]
theorem fold_congr {H G : Nat → Bool} (h : ∀ b, b < 256 → H b = G b) (c : Nat) (hc : c < 256) : fold H c = fold G c := by
  rw [fold_eq, fold_eq, h c hc, h (c - 32) (by omega)]
  by_cases h1 : 65 ≤ c ∧ c < 91
  · rw [h (c + 32) (by omega)]
  · simp [h1]
theorem alg_ff (A : Nat → Bool) (b : Nat) (_ : b < 256) : fold (fold A) b = fold A b := fold_fold A b
theorem alg_mf (A : Nat → Bool) (b : Nat) (_ : b < 256) : allS (two (fold A) A) 2 b = A b := by
  have := fold_has A b
  simpa [allS, two] using this
theorem alg_fu (A B : Nat → Bool) (b : Nat) (hb : b < 256) : fold (anyS (two A B) 2) b = anyS (two (fold A) (fold B)) 2 b := by
  rw [fold_congr (H := anyS (two A B) 2) (G := fun b => A b || B b) (fun b _ => by simp [anyS, two]) b hb, fold_or]
  simp [anyS, two]
theorem alg_cnt (A : Nat → Bool) : (bl A 256).length + (bl (NO A) 256).length = 256 := by
  have key : ∀ n, (bl A n).length + (bl (NO A) n).length = n := by
    intro n
    induction n with
    | zero => rfl
    | succ n ih =>
      cases h : A n with
      | true => rw [bl_yes h, bl_no (show NO A n = false by simp [NO, h]), List.length_append]; simp only [List.length_cons, List.length_nil]; omega
      | false => rw [bl_no h, bl_yes (show NO A n = true by simp [NO, h]), List.length_append]; simp only [List.length_cons, List.length_nil]; omega
  exact key 256
end Go.Proofs.YtmnjicpgdhnimaaDoor
