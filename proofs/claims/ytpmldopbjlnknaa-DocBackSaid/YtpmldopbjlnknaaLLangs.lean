/-
  lang.languages (written by tools/gen-llangs.py): a map of 22 texts; the look-up.
-/
import Derived.Test.YtpmldopbjlnknaaLCut
import Derived.MapKept
import Derived.WalkKit
namespace Go.Proofs.Ytpmldopbjlnknaa
open Go.RowKit Go.Shelf

/-- The table: an extension, its language. -/
def tabL : List (List UInt8 × List UInt8) := [([99], [99]), ([104], [99]), ([99, 99], [99, 112, 112]), ([99, 112, 112], [99, 112, 112]), ([104, 112, 112], [99, 112, 112]), ([99, 115, 115], [99, 115, 115]), ([103, 111], [103, 111]), ([104, 116, 109, 108], [104, 116, 109, 108]), ([106, 97, 118, 97], [106, 97, 118, 97]), ([106, 115], [106, 97, 118, 97, 115, 99, 114, 105, 112, 116]), ([109, 106, 115], [106, 97, 118, 97, 115, 99, 114, 105, 112, 116]), ([106, 115, 111, 110], [106, 115, 111, 110]), ([109, 100], [109, 97, 114, 107, 100, 111, 119, 110]), ([112, 121], [112, 121, 116, 104, 111, 110]), ([114, 98], [114, 117, 98, 121]), ([114, 115], [114, 117, 115, 116]), ([115, 104], [115, 104, 101, 108, 108]), ([115, 113, 108], [115, 113, 108]), ([116, 120, 116], [116, 101, 120, 116]), ([116, 115], [116, 121, 112, 101, 115, 99, 114, 105, 112, 116]), ([121, 97, 109, 108], [121, 97, 109, 108]), ([121, 109, 108], [121, 97, 109, 108])]
/-- The language of an extension. -/
def nameL (e : List UInt8) : List UInt8 := ((tabL.find? fun r => r.1 == e).map (·.2)).getD []
/-- The map's entries. -/
def entsFrom : Nat → List (List UInt8 × List UInt8) → List MapEntry
  | _, [] => []
  | k, r :: l => { key := by8 r.1, val := .agg #[by8 r.2], born := k } :: entsFrom (k + 1) l
theorem ents_push : ∀ (l : List (List UInt8 × List UInt8)) (k : Nat) (r : List UInt8 × List UInt8), entsFrom k (l ++ [r]) = entsFrom k l ++ [{ key := by8 r.1, val := .agg #[by8 r.2], born := k + l.length }]
  | [], k, r => by simp [entsFrom]
  | q :: l, k, r => by
    simp only [List.cons_append, entsFrom, ents_push l (k + 1) r, List.length_cons]
    rw [show k + 1 + l.length = k + (l.length + 1) by omega]
/-- The map of the first rows at block g. -/
def MapL (w : World) (g k : Nat) : Prop := w.heap[g]? = some (.map (entsFrom 0 (tabL.take k)).toArray k)
theorem MapL.below {w w' : World} {g k : Nat} (h : MapL w g k) (hb : Below w.heap.size w w') : MapL w' g k := (hb.block g (Array.getElem?_eq_some_iff.1 h).1).trans h
theorem by8_beq (a b : List UInt8) : ((⟨a.toArray⟩ : ByteArray) == ⟨b.toArray⟩) = (a == b) := by
  rw [beq_toListBytes, Lib.toList_data, Lib.toList_data]
theorem findNow_ents (e : List UInt8) : ∀ (l : List (List UInt8 × List UInt8)) (k i : Nat), ∃ j, Instr.findNow .string (by8 e) (entsFrom k l) i = some ((l.find? fun r => r.1 == e).map fun r => (j, .agg #[by8 r.2]))
  | [], k, i => ⟨0, rfl⟩
  | r :: l, k, i => by
    obtain ⟨j, hj⟩ := findNow_ents e l (k + 1) (i + 1)
    by_cases h : (r.1 == e) = true
    · refine ⟨i, ?_⟩
      have h2 : (e == r.1) = true := by rw [beq_iff_eq] at h ⊢; exact h.symm
      simp only [entsFrom, Instr.findNow, by8, Instr.sameNow, by8_beq, h2, List.find?_cons, h, Option.map_some]
    · have h1 : (r.1 == e) = false := by simpa using h
      have h2 : (e == r.1) = false := by rw [beq_eq_false_iff_ne] at h1 ⊢; exact fun x => h1 x.symm
      refine ⟨j, ?_⟩
      have : Instr.findNow .string (by8 e) (entsFrom k (r :: l)) i = Instr.findNow .string (by8 e) (entsFrom (k + 1) l) (i + 1) := by
        simp only [entsFrom, Instr.findNow, by8, Instr.sameNow, by8_beq, h2]
      rw [this, hj, List.find?_cons, h1]
theorem lookup_tab (e : List UInt8) (g : Nat) (w : World) (h : MapL w g 22) :
    (Instr.lookup 89 (.map (some g)) (by8 e) false).run Try.prog w = .ok (.agg #[by8 (nameL e)]) w := by
  obtain ⟨j, hj⟩ := findNow_ents e tabL 0 0
  have hb : w.heap[g]? = some (.map (entsFrom 0 tabL).toArray 22) := h
  have hc : ∀ b, (Instr.checkKey b 10000 9 (by8 e)).run Try.prog w = .ok () w := fun b => MapKept.run_checkKey (k := by8 e) Try.underlying9 (by unfold by8; simp [MapKept.IsKey]) _ 9999
  have hz : (zeroValue 88).run Try.prog w = .ok (.agg #[.string ⟨#[]⟩]) w := by kernel_rfl
  have hf := MapKept.run_findKey (P := Try.prog) (w := w) (l := (entsFrom 0 tabL)) Try.underlying9 hj
  unfold nameL
  cases hq : tabL.find? (fun r => r.1 == e) with
  | none =>
    rw [hq] at hf
    simp [Instr.lookup, run_underlying Try.underlying89, MapKept.run_getObj_map hb, hc, hf, hz, Result.andThen]
    rfl
  | some r =>
    rw [hq] at hf
    simp [Instr.lookup, run_underlying Try.underlying89, MapKept.run_getObj_map hb, hc, hf, Result.andThen]
/-- One more row. -/
theorem insert_run (w : World) (g k : Nat) (r : List UInt8 × List UInt8) (hr : tabL[k]? = some r) (hM : MapL w g k) (hno : ((tabL.take k).find? fun q => q.1 == r.1) = none) :
    ∃ w', (Instr.mapUpdate 89 (.map (some g)) (by8 r.1) (.agg #[by8 r.2])).run Try.prog w = .ok () w' ∧ MapL w' g (k + 1) ∧ ∀ B, B ≤ g → Below B w w' := by
  have hkl : k < tabL.length := (List.getElem?_eq_some_iff.1 hr).1
  have hlt := (Array.getElem?_eq_some_iff.1 hM).1
  obtain ⟨j, hj⟩ := findNow_ents r.1 (tabL.take k) 0 0
  rw [hno] at hj
  have hc : (Instr.checkKey false 10000 9 (by8 r.1)).run Try.prog w = .ok () w := MapKept.run_checkKey (k := by8 r.1) Try.underlying9 (by unfold by8; simp [MapKept.IsKey]) _ 9999
  have hf := MapKept.run_findKey (P := Try.prog) (w := w) (l := (entsFrom 0 (tabL.take k))) Try.underlying9 hj
  have hb : w.heap[g]? = some (.map (entsFrom 0 (tabL.take k)).toArray k) := hM
  refine ⟨{ w with heap := w.heap.setIfInBounds g (.map ((entsFrom 0 (tabL.take k)).toArray.push { key := by8 r.1, val := .agg #[by8 r.2], born := k }) (k + 1)) }, ?_, ?_, ?_⟩
  · simp [Instr.mapUpdate, run_underlying Try.underlying89, MapKept.run_getObj_map hb, hc, hf, MapKept.run_setObj_map _ hb, Result.andThen]
  · have ht : tabL.take (k + 1) = tabL.take k ++ [r] := by rw [List.take_add_one, hr]; rfl
    unfold MapL
    rw [ht, ents_push, List.length_take, Nat.min_eq_left (by omega)]
    simp [hlt]
  · intro B hB
    exact ⟨rfl, rfl, rfl, by simp, fun q hq => by simp [Array.getElem?_setIfInBounds]; intro e; omega⟩
end Go.Proofs.Ytpmldopbjlnknaa
