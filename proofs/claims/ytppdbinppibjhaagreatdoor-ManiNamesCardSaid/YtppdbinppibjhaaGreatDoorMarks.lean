/-
  Functions that hold a range over a function in a loop: the marks that each such loop leaves among the deferred calls.
-/
import Derived.Test.YtppdbinppibjhaaGreatDoorAppend
namespace Go.Proofs.YtppdbinppibjhaaGreatDoor
open Go.RowKit

/-- Marks that loops over functions have left, whose blocks lie from B on. -/
def Marks (B : Nat) : List Deferred → World → Prop
  | [], _ => True
  | d :: ds, w => (∃ D, d.target = .collected D ∧ B ≤ D ∧ w.heap[D]? = some (.deferred (some [])) ∧ ∀ d' ∈ ds, d'.target ≠ .collected D) ∧ Marks B ds w
theorem Marks.lt {B : Nat} {ds : List Deferred} {w : World} (h : Marks B ds w) : ∀ d ∈ ds, ∃ D, d.target = .collected D ∧ D < w.heap.size := by
  induction ds with
  | nil => intro d hd; cases hd
  | cons d ds ih =>
    obtain ⟨⟨D, h1, _, h3, _⟩, h4⟩ := h
    intro d' hd
    rcases List.mem_cons.1 hd with rfl | hd
    · exact ⟨D, h1, (Array.getElem?_eq_some_iff.1 h3).1⟩
    · exact ih h4 d' hd
theorem Marks.same {B : Nat} {ds : List Deferred} {w w' : World} (h : Marks B ds w) (hs : ∀ D, B ≤ D → w.heap[D]? = some (.deferred (some [])) → (∃ d ∈ ds, d.target = .collected D) → w'.heap[D]? = some (.deferred (some []))) : Marks B ds w' := by
  induction ds with
  | nil => trivial
  | cons d ds ih =>
    obtain ⟨⟨D, h1, h2, h3, h5⟩, h4⟩ := h
    exact ⟨⟨D, h1, h2, hs D h2 h3 ⟨d, List.mem_cons_self, h1⟩, h5⟩, ih h4 (fun D' a b ⟨d', c, e⟩ => hs D' a b ⟨d', List.mem_cons_of_mem _ c, e⟩)⟩
theorem Marks.others {B : Nat} {ds : List Deferred} {w w' : World} (h : Marks B ds w) (hk : KeepsOthers w w') : Marks B ds w' := h.same fun D _ hD _ => hk.same D _ hD rfl
/-- A loop over a function turns none of the marks that were there when it began. -/
theorem Marks.grown {B B0 : Nat} {ds : List Deferred} {w w' : World} {row : Option Nat} (h : Marks B ds w) (hlt : ∀ d ∈ ds, ∀ D, d.target = .collected D → D < B0) (hg : w.grownBy w' row) (hr : ∀ r, row = some r → B0 ≤ r) : Marks B ds w' :=
  h.same fun D _ hD ⟨d, hd, e⟩ => (hg.block D (Array.getElem?_eq_some_iff.1 hD).1 (fun e' => by have := hr D e'.symm; have := hlt d hd D e; omega)).trans hD
theorem Marks.push {B D : Nat} {ds : List Deferred} {w : World} {args : Array Value} (h : Marks B ds w) (hB : B ≤ D) (hD : w.heap[D]? = some (.deferred (some []))) (hlt : ∀ d ∈ ds, ∀ D', d.target = .collected D' → D' < D) : Marks B ({ target := .collected D, args := args } :: ds) w :=
  ⟨⟨D, rfl, hB, hD, fun d' hd e => by have := hlt d' hd D e; omega⟩, h⟩

/-- Only marks have been taken. -/
structure Turned (B : Nat) (w w' : World) : Prop where
  os : w'.os = w.os
  tape : w'.tape = w.tape
  output : w'.output = w.output
  size : w'.heap.size = w.heap.size
  block : ∀ k, k < B → w'.heap[k]? = w.heap[k]?
  cells : CellsKept w w'
theorem Turned.refl (B : Nat) (w : World) : Turned B w w := ⟨rfl, rfl, rfl, rfl, fun _ _ => rfl, fun _ _ _ _ h => h⟩
theorem Turned.trans {B : Nat} {a b c : World} (h : Turned B a b) (k : Turned B b c) : Turned B a c :=
  ⟨k.os.trans h.os, k.tape.trans h.tape, k.output.trans h.output, k.size.trans h.size, fun i hi => (k.block i hi).trans (h.block i hi), fun i x t f hx => k.cells i x t f (h.cells i x t f hx)⟩
theorem Turned.put {B D : Nat} {w : World} (hB : B ≤ D) (hD : w.heap[D]? = some (.deferred (some []))) : Turned B w (w.putObj D (.deferred none)) :=
  ⟨rfl, rfl, rfl, by simp, fun k hk => World.putObj_heap_other (by omega), fun k c t f h => (World.putObj_heap_other (fun e => by subst e; rw [h] at hD; cases hD)).trans h⟩
theorem Kept.turned {F : Nat → Prop} {w0 w w' : World} (h : Kept F w0 w) (ht : Turned w0.heap.size w w') : Kept F w0 w' :=
  ⟨ht.os.trans h.os, ht.tape.trans h.tape, ht.output.trans h.output, by rw [ht.size]; exact h.size, fun k hk hn => (ht.block k hk).trans (h.block k hk hn),
    fun k o ho hc => (ht.block k (Array.getElem?_eq_some_iff.1 ho).1).trans (h.others k o ho hc)⟩

theorem leaves_marks {P : Program} {F : Fence} {n : Nat} {fn : Func} {tmps : Array Value} {R : Ending → World → Prop} {B : Nat} : ∀ (ds : List Deferred) (w : World), Marks B ds w →
    (∀ w', Turned B w w' → ∃ v, (results fn tmps).run P w' = .ok v w' ∧ R (.returned v) w') → LeavesInM F n P fn tmps R ds .returning w
  | [], w, _, h => h w (Turned.refl _ _)
  | d :: ds, w, ⟨⟨D, h1, h2, h3, h4⟩, h5⟩, h => by
    refine ⟨by simp, .inl ⟨D, _, h1, run_takeDeferred h3, ?_⟩⟩
    have ht := Turned.put (B := B) h2 h3
    refine leaves_marks ds _ ?_ (fun w' hw' => h w' (ht.trans hw'))
    exact h5.same fun D' _ hD' ⟨d', hd, e⟩ => (World.putObj_heap_other (fun e' => h4 d' hd (by rw [e, e']))).trans hD'
end Go.Proofs.YtppdbinppibjhaaGreatDoor
