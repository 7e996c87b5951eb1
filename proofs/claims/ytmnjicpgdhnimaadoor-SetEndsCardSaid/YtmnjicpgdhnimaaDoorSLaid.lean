/-
  What the listed table gives; a set that comes in.
-/
import Derived.Test.YtmnjicpgdhnimaaDoorRows
import Derived.Test.YtmnjicpgdhnimaaDoorTie
import Derived.Test.YtmnjicpgdhnimaaDoorCards
import Derived.Test.YtmnjicpgdhnimaaDoorSLow
import Derived.WalkKit
import Derived.ProofKit
import Derived.LaidMore
import Derived.OpenShut
import Derived.Stop.Joined
import Derived.SevenTiedAt
namespace Go.Proofs.YtmnjicpgdhnimaaDoor
open Go.ChangeShapes Go.WideShapes Go.ChangeAt Go.RowKit

def tabLaid : List (String × DataW Unit) := [("math/bits.deBruijn64tab", Rows.laid_math_bits_deBruijn64tab)]
theorem own : ownKnob Tryd.prog.godebug = none := by kernel_rfl
theorem laidOut : laidOutB Tryd.prog = true := by kernel_rfl
theorem tabData : (Rows.laid_math_bits_deBruijn64tab : DataW Unit) = .agg (Lib.deBruijn64tab.map fun n => .lit (.int .u8 (n : Nat))) := rfl
theorem tabSize : Lib.deBruijn64tab.length = 64 := rfl
set_option maxRecDepth 100000 in
theorem tab_of_laid {W : World} (h : laidMetH Tryd.prog tabLaid W) : Tab W := by
  rw [MakeChecks.laidMetH_plain _ _ _ (by kernel_rfl)] at h
  obtain ⟨ps, ⟨g, t, cs, fuel, p, q, hg, ht, hv, hd, _, _⟩, _, _⟩ := h
  obtain rfl := Option.some.inj ((show Tryd.prog.globalNamed "math/bits.deBruijn64tab" = some 0 by kernel_rfl).symm.trans hg)
  obtain rfl := Option.some.inj ((show (Tryd.prog.globals[0]?).map (·.type) = some 183 by kernel_rfl).symm.trans ht)
  have c5 : Tryd.prog.cellsOf 5 = 1 := by kernel_rfl
  have c64 : Tryd.prog.cellsOf 183 = 64 := by kernel_rfl
  obtain ⟨xs, m, _, ex, hlen, hl, hel⟩ := DataW.trod_array Tryd.underlying183 hd
  rw [c64] at hlen
  rw [tabData] at ex
  have e3 := DataW.agg.inj (Prod.mk.inj ex).1
  intro j hj
  have hj64 : j < 64 := hj
  have k0 := hel j hj64
  rw [c5] at k0
  obtain ⟨x, hx⟩ : ∃ x, xs[j]? = some x := ⟨_, List.getElem?_eq_getElem (by omega)⟩
  rw [hx] at k0
  obtain ⟨n, e1, e2, _⟩ := DataW.trod_int Tryd.underlying5 k0
  have e4 := congrArg (fun l => l[j]?) e3
  simp only [List.getElem?_map, hx, Option.map_some] at e4
  rw [List.getElem?_eq_getElem (by rw [tabSize]; exact hj64)] at e4
  simp only [Option.map_some, Option.some.injEq] at e4
  rw [e2] at e4
  have e5 : n = ((Lib.deBruijn64tab[j]'(by rw [tabSize]; exact hj64) : Nat) : Int) := by
    simp only [DataW.lit.injEq, Lit.int.injEq, true_and] at e4
    exact e4.symm
  have hc := World.var?_cell (show Tryd.prog.globalNamed "math/bits.deBruijn64tab" = some 0 by kernel_rfl) hv j
  rw [hc, List.getD_eq_getElem?_getD, List.getElem?_eq_getElem (by rw [tabSize]; exact hj64)]
  simp only [Nat.mul_one] at e1
  have e6 : cs[j]? = some (.int .u8 n) := by
    have h1 := congrArg (fun l => l[0]?) e1
    simp only [List.getElem?_cons_zero] at h1
    rw [List.getElem?_take_of_lt (by omega), List.getElem?_drop, Nat.add_zero] at h1
    simpa using h1
  rw [e6, e5]
  rfl
/-- The door's own heap meets the condition. -/
theorem door_met (os : Os) (args : Array Value) : laidMetH Tryd.prog tabLaid ((World.doorLaid Tryd.prog 14 os).forCall (fun _ _ => 0) ⟨#[], args, []⟩).memory :=
  laidMetH_of_parts3 (fuel := 8) (laidMet_of_run' 8 (by kernel_rfl) (by kernel_rfl)) (by kernel_rfl) (by kernel_rfl)
set_option maxRecDepth 100000 in
/-- A set that comes in. -/
theorem open_set {H : Type} {enc : TypeId × Value → H} {W : World} {base : Nat} {v : Value} {d : DataW H} {p : List MemPlace} (hv : Value.okWide Tryd.prog W .any base 24 v) (h : DataW.Trod enc Tryd.prog W 0 (fun _ => true) true 24 v d p) : ∃ S : Nat → Bool, v = sv S := by
  obtain ⟨cs, rfl, hsz, _⟩ : ∃ cs, v = .agg cs ∧ cs.size = Tryd.prog.cellsOf 24 ∧ Row.okWide Tryd.prog W .any base 24 cs := by
    simpa [Value.okWide, Tryd.underlying24] using hv
  rw [show Tryd.prog.cellsOf 24 = 4 by kernel_rfl] at hsz
  obtain ⟨l⟩ := cs
  obtain ⟨c0, c1, c2, c3, rfl⟩ : ∃ a b c d, l = [a, b, c, d] := by
    match l, hsz with
    | [a, b, c, d], _ => exact ⟨a, b, c, d, rfl⟩
  obtain ⟨fuel, hf⟩ := h
  obtain ⟨xs, m, _, ex, hlen, hl, hel⟩ := DataW.trod_array Tryd.underlying24 hf
  rw [show Tryd.prog.cellsOf 22 = 1 by kernel_rfl] at hel
  have g : ∀ (j : Nat) (c : Value), j < 4 → [c0, c1, c2, c3][j]? = some c → ∃ n : Nat, c = .int .u64 (n : Nat) ∧ n < 18446744073709551616 := by
    intro j c hj hc
    obtain ⟨x, hx⟩ : ∃ x, xs[j]? = some x := ⟨_, List.getElem?_eq_getElem (by omega)⟩
    have k0 := hel j hj
    rw [hx] at k0
    obtain ⟨n, e1, _, hw⟩ := DataW.trod_int Tryd.underlying22 k0
    have hb := bounds_u64 hw
    refine ⟨n.toNat, ?_, by omega⟩
    have h1 := congrArg (fun l => l[0]?) e1
    simp only [List.getElem?_cons_zero, Nat.mul_one] at h1
    rw [List.getElem?_take_of_lt (by omega), List.getElem?_drop, Nat.add_zero] at h1
    have h2 : ([c0, c1, c2, c3] : List Value)[j]? = some (.int .u64 n) := by simpa [Value.cells] using h1
    rw [hc] at h2
    cases h2
    rw [Int.toNat_of_nonneg hb.1]
  obtain ⟨n0, rfl, h0⟩ := g 0 c0 (by omega) rfl
  obtain ⟨n1, rfl, h1⟩ := g 1 c1 (by omega) rfl
  obtain ⟨n2, rfl, h2⟩ := g 2 c2 (by omega) rfl
  obtain ⟨n3, rfl, h3⟩ := g 3 c3 (by omega) rfl
  let W : Nat → Nat := fun i => if i = 0 then n0 else if i = 1 then n1 else if i = 2 then n2 else n3
  refine ⟨hasW W, ?_⟩
  unfold sv
  rw [← sc_st W (fun i hi => by show (if i = 0 then n0 else if i = 1 then n1 else if i = 2 then n2 else n3) < _; split; exact h0; split; exact h1; split; exact h2; exact h3)]
  rfl
end Go.Proofs.YtmnjicpgdhnimaaDoor
