/-
  A region's operation whose guard was itself passed over.
-/
import Derived.Test.YtpmldopbjlnknaaGreatRegT
set_option linter.unusedVariables false
set_option linter.unusedSimpArgs false
namespace Go.Proofs.YtpmldopbjlnknaaGreat
open Go.RowKit
abbrev Stp (F : Fence) (n : Nat) (P : Program) (ops : Array Oper) (Q : Exit → Act → World → Prop) (j d : Nat) (V : Value → World → Prop) (x : Act) (w : World) : Prop := wpOpIn F n P ops Q j (fun a' w' => ∃ v, a' = x.put (some d) v ∧ V v w' ∧ Below w.heap.size w w') x w
theorem yielded_undef {ops : Array Oper} {t : Array Value} {g s : Nat} (he : (ops[g]?.bind fun x => x.dst) = some s) (hq : t[s]?.getD undef = undef) : yielded ops t g = none := by
 unfold yielded
 rw [he]
 simp only [Option.bind_some]
 cases h : t[s]? with
 | none => rfl
 | some v =>
   rw [h] at hq
   have : v = undef := hq
   subst this
   rfl
theorem op_skipped {F : Fence} (hF : Wide F) {n : Nat} {P : Program} {ops : Array Oper} {Q : Exit → Act → World → Prop} {i : Nat} {o : Oper} {K : Act → World → Prop} {a : Act} {w : World} (ho : ops[i]? = some o) {g : Nat} {b : Bool} (hg : o.guard = some (g, b)) {s : Nat}
  (he : (ops[g]?.bind fun x => x.dst) = some s) (hq : a.tmps[s]?.getD undef = undef) (h : K (a.put o.dst undef) w) : wpOpIn F n P ops Q i K a w := by
 refine wpOpIn_stepT hF ho (fun K' hK => ?_)
 have hw : Region.wanted o (yielded ops a.tmps) = false := by
  unfold Region.wanted
  rw [hg]
  simp [yielded_undef he hq]
 rw [hw]
 exact hK _ _ h
end Go.Proofs.YtpmldopbjlnknaaGreat
