/-
  Parts that are got are parts in a row; how great a file of few parts is.
-/
import Derived.Test.YtppdbinppibjhaaGreatDoorFLaids
import Derived.Test.YtppdbinppibjhaaGreatDoorSameP
set_option linter.unusedVariables false
set_option linter.unusedSimpArgs false
namespace Go.Proofs.YtppdbinppibjhaaGreatDoor
open Go.RowKit
def adrOf : Value → Option Addr
 | .slice a _ _ => a
 | _ => none
def capOf : Value → Nat
 | .slice _ _ c => c
 | _ => 0
def prtOf (x : PV) : Prt := ⟨x.1.1, x.1.2, adrOf x.2, capOf x.2⟩
def prtAt (xs : List PV) (i : Nat) : Prt := match xs[i]? with
 | some x => prtOf x
 | none => ⟨0, [], none, 0⟩
theorem prtAt_lt {xs : List PV} {i : Nat} (h : i < xs.length) : prtAt xs i = prtOf xs[i] := by
 unfold prtAt
 rw [List.getElem?_eq_getElem h]
theorem pcells_get : ∀ (xs : List PV) (i : Nat) (h : i < xs.length), (pcells xs)[i * 2]? = some (.int .u8 (xs[i].1.1 : Nat)) ∧ (pcells xs)[i * 2 + 1]? = some xs[i].2
 | [], i, h => by simp at h
 | x :: r, 0, _ => ⟨rfl, rfl⟩
 | x :: r, i + 1, h => by
   have := pcells_get r i (by simpa using h)
   simp only [pcells, List.getElem_cons_succ]
   rw [show (i + 1) * 2 = i * 2 + 1 + 1 from by omega]
   simpa using this
theorem OwnPV.prts {w : World} {B : Nat} {v : Value} {xs : List PV} (h : OwnPV w B v xs) : ∃ A C, v = .slice A xs.length C ∧ Prts w A xs.length (prtAt xs) ∧ (∀ g off s, A = some ⟨g, off, s⟩ → B ≤ g ∧ off = 0) ∧ (xs.length ≤ C) := by
 obtain ⟨h1, h2, h3⟩ := h
 have h1' := h1
 obtain ⟨hl, ⟨rfl, h0⟩ | ⟨g, cap, cur, rfl, hB, hg, hnc, hcm, hcs, ht⟩⟩ := h1
 ·refine ⟨none, 0, ?_, .inl h0, (fun _ _ _ e => by cases e), by omega⟩
  rw [h0]
 ·have hc := h1'.cells (g := g) rfl
  refine ⟨some ⟨g, 0, none⟩, cap, rfl, .inr ⟨g, 0, rfl, fun i hi => ?_⟩, (fun g' o' s' e => by cases e; exact ⟨hB, rfl⟩), hnc⟩
  obtain ⟨e0, e1⟩ := pcells_get xs i hi
  have c0 := hc _ _ e0
  have c1 := hc _ _ e1
  rw [add_none' _ rfl] at c0 c1
  obtain ⟨ho, hok1, hok2, hok3⟩ := h2 xs[i] (List.getElem_mem hi)
  obtain ⟨_, A, C, hv, hAC, hCm, hAn, hA0, hbl, _⟩ := owns_bl ho hok2
  rw [prtAt_lt hi]
  unfold prtOf
  simp only [hv, adrOf, capOf]
  rw [hv] at c1
  simp only [Nat.zero_add] at c0 c1
  refine ⟨⟨by simpa using c0, by simpa [Nat.add_assoc] using c1⟩, hok1, hAC, hCm, hAn, ?_, hbl⟩
  rcases hA0 with h | ⟨b, h⟩
  ·exact .inl h
  ·exact .inr ⟨b, 0, h⟩
end Go.Proofs.YtppdbinppibjhaaGreatDoor
