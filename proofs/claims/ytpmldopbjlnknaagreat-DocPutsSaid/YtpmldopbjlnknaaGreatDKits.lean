/-
  Drawn regions of FilesOf, SameDocs (written by tools/gen-dback.py).
-/
import Derived.Test.YtpmldopbjlnknaaGreatDGets
import Derived.Test.YtpmldopbjlnknaaGreatRegT
set_option linter.unusedVariables false
set_option linter.unusedSimpArgs false
namespace Go.Proofs.YtpmldopbjlnknaaGreat
open Go.RowKit Go.Shelf
section
set_option maxRecDepth 100000
set_option maxHeartbeats 2000000
variable {Fc : Fence} {nC : Nat} {gF oF nF cF i c : Nat} {P : List UInt8} {pB : Option Addr} {B : List Nat} {cB : Nat} {Q : Exit → Act → World → Prop} {df : List Deferred} {w0 : World} {x : Act} {w : World}
end
section
end
section
set_option maxRecDepth 100000
set_option maxHeartbeats 2000000
variable {Fc : Fence} {nC : Nat} {gA oA gB oB n cA cB i : Nat} {d : DT} {Q : Exit → Act → World → Prop} {df : List Deferred} {w0 : World} {x : Act} {w : World}
end
section
end
open Go.RowKit Go.Shelf
theorem docOf_ok (a : Option Addr) (len cap : Nat) (f : Nat → Fil) (w : World) (hlen : len ≤ 140737488355328) (hF : Fils w a len f) (hP : ∀ i, i < len → (f i).P.length ≤ 1000000) (hr : rightF (filesL f len) = true) :
  Calls Tryz.prog 22 #[.slice a len cap] w fun e w' => (∃ v, e = .returned (.tuple #[v, .int .i64 0]) ∧ OwnD w' w.heap.size v ((filesL f len).map docF)) ∧ Below w.heap.size w w' :=
 (docOf_any a len cap f w hlen hF hP).mono fun e w' ⟨h, hb⟩ => by rw [if_pos hr] at h; exact ⟨h, hb⟩
theorem rightDocs_l (a : Option Addr) (cap : Nat) (ds : List DT) (w : World) (hlen : ds.length ≤ 140737488355328) (hD : Docs w a ds) (hP : ∀ d ∈ ds, d.P.length ≤ 1000000) :
  Calls Tryz.prog 10 #[.slice a ds.length cap] w fun e w' => e = .returned (.bool (rightD ds)) ∧ Below w.heap.size w w' := by
 have h := rightDocs_any a ds.length cap (dAt ds) w hlen hD.row (fun i hi => hP _ (dAt_mem hi))
 rwa [← rightD_eq, docsN_at] at h
theorem docPut_ok (a : Option Addr) (cap : Nat) (ds : List DT) (w : World) (hlen : ds.length ≤ 140737488355328) (hD : Docs w a ds) (hP : ∀ d ∈ ds, d.P.length ≤ 1000000) (hS : ∀ d ∈ ds, d.S < 4294967296) (hr : rightD ds = true) :
  Calls Tryz.prog 8 #[.slice a ds.length cap] w fun e w' => (∃ v, e = .returned (.tuple #[v, .int .i64 0]) ∧ w'.ownsRow w.heap.size 5 1 v (tableD ds).length (lc (tableD ds))) ∧ Below w.heap.size w w' := by
 have h := docPut_any a ds.length cap (dAt ds) w hlen hD.row (fun i hi => hP _ (dAt_mem hi)) (fun i hi => hS _ (dAt_mem hi))
 rw [docsN_at] at h
 exact h.mono fun e w' ⟨h, hb⟩ => by rw [if_pos hr] at h; exact ⟨h, hb⟩
theorem docPut_bad (a : Option Addr) (cap : Nat) (ds : List DT) (w : World) (hlen : ds.length ≤ 140737488355328) (hD : Docs w a ds) (hP : ∀ d ∈ ds, d.P.length ≤ 1000000) (hS : ∀ d ∈ ds, d.S < 4294967296) (hr : rightD ds = false) :
  Calls Tryz.prog 8 #[.slice a ds.length cap] w fun e w' => e = .returned (.tuple #[.slice none 0 0, .int .i64 2]) ∧ Below w.heap.size w w' := by
 have h := docPut_any a ds.length cap (dAt ds) w hlen hD.row (fun i hi => hP _ (dAt_mem hi)) (fun i hi => hS _ (dAt_mem hi))
 rw [docsN_at] at h
 exact h.mono fun e w' ⟨h, hb⟩ => by rw [hr, if_neg (by decide)] at h; exact ⟨h, hb⟩
theorem find_l (a : Option Addr) (cap : Nat) (ds : List DT) (p : List UInt8) (w : World) (hlen : ds.length ≤ 140737488355328) (hD : Docs w a ds) :
  Calls Tryz.prog 13 #[.slice a ds.length cap, by8 p] w fun e w' => e = .returned (.int .i64 (findN p 0 (ds.map DT.P))) ∧ Below w.heap.size w w' := by
 have h := callsIn_wide.1 (find_in 40 (by omega) a ds.length cap (dAt ds) p w hlen hD.row)
 have e : pathsN (fun i => (dAt ds i).P) ds.length = ds.map DT.P := by
  conv => rhs; rw [← docsN_at ds]
  unfold pathsN docsN
  rw [List.map_map]
  rfl
 rwa [e] at h
end Go.Proofs.YtpmldopbjlnknaaGreat
