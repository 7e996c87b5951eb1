/-
  Parts (api.Part) in a row, as they came in.
-/
import Derived.Test.YtpmldopbjlnknaaGreatAppendS
import Derived.OpenShut
import Derived.ChangeArms
import Derived.ChangeSlices
import Derived.SizedLaws
import Derived.Deep.Slices
import Derived.DataReads
set_option linter.unusedVariables false
set_option linter.unusedSimpArgs false
namespace Go.Proofs.YtpmldopbjlnknaaGreat
open Go.ChangeShapes Go.WideShapes Go.RowKit Go.Deep
structure Prt where
 T : Nat
 B : List Nat
 pB : Option Addr
 cB : Nat
structure Prt.Ok (w : World) (P : Prt) : Prop where
 T : P.T < 256
 lB : P.B.length ≤ P.cB
 mB : P.cB ≤ 9223372036854775807
 nB : P.pB = none → P.cB = 0
 oB : P.cB = 0 ∨ ∃ b off, P.pB = some ⟨b, off, none⟩
 bB : BL w P.pB P.B
theorem Prt.Ok.atB {w : World} {P : Prt} (h : P.Ok w) : ∀ g off s, P.pB = some ⟨g, off, s⟩ → 0 < P.B.length → g < w.heap.size := by
 intro g off s e h0
 obtain ⟨b, o, e', hc⟩ := h.bB.cell h0
 rw [e] at e'; cases e'
 exact block_lt_of_cell (hc 0 h0)
theorem Prt.Ok.kept {w w' : World} {P : Prt} {F : Nat → Prop} (h : P.Ok w) (hk : Kept F w w') (hF : ∀ k, k < w.heap.size → ¬ F k) : P.Ok w' :=
 ⟨h.T, h.lB, h.mB, h.nB, h.oB, h.bB.kept0 hk (fun g o s e h0 => hF g (h.atB g o s e h0))⟩
theorem Prt.Ok.below {w w' : World} {P : Prt} (h : P.Ok w) (hb : Below w.heap.size w w') : P.Ok w' := h.kept (Kept.of_below (F := fun _ => False) hb) (fun _ _ h => h)
def Prts (w : World) (a : Option Addr) (n : Nat) (P : Nat → Prt) : Prop :=
 n = 0 ∨ ∃ b off, a = some ⟨b, off, none⟩ ∧ ∀ i, i < n → (w.cell? ⟨b, off + i * 2, none⟩ = some (.int .u8 ((P i).T : Nat)) ∧ w.cell? ⟨b, off + i * 2 + 1, none⟩ = some (.slice (P i).pB (P i).B.length (P i).cB)) ∧ (P i).Ok w
theorem Prts.kept {w w' : World} {a : Option Addr} {n : Nat} {P : Nat → Prt} {F : Nat → Prop} (h : Prts w a n P) (hk : Kept F w w') (hF : ∀ k, k < w.heap.size → ¬ F k) : Prts w' a n P := by
 rcases h with h | ⟨b, off, rfl, hc⟩
 ·exact .inl h
 ·refine .inr ⟨b, off, rfl, fun i hi => ?_⟩
  obtain ⟨⟨h0, h1⟩, h5⟩ := hc i hi
  have hb := hF b (block_lt_of_cell h0)
  exact ⟨⟨hk.cell h0 hb, hk.cell h1 hb⟩, h5.kept hk hF⟩
theorem Prts.below {w w' : World} {a : Option Addr} {n : Nat} {P : Nat → Prt} (h : Prts w a n P) (hb : Below w.heap.size w w') : Prts w' a n P := h.kept (Kept.of_below (F := fun _ => False) hb) (fun _ _ h => h)
theorem Prts.cells {w : World} {a : Option Addr} {n : Nat} {P : Nat → Prt} (h : Prts w a n P) (i : Nat) (hi : i < n) : ∃ b off, a = some ⟨b, off, none⟩ ∧ (w.cell? ⟨b, off + i * 2, none⟩ = some (.int .u8 ((P i).T : Nat)) ∧ w.cell? ⟨b, off + i * 2 + 1, none⟩ = some (.slice (P i).pB (P i).B.length (P i).cB)) ∧ (P i).Ok w := by
 rcases h with h | ⟨b, off, e, hc⟩
 ·omega
 ·exact ⟨b, off, e, hc i hi⟩
theorem reach_is' : reachBytes = 140737488351232 := rfl
theorem add_none' (A : Addr) (hA : A.spot = none) (j : Nat) : A.add j = ⟨A.block, A.off + j, none⟩ := by
 obtain ⟨b, o, s⟩ := A
 simp only at hA
 subst hA
 unfold Addr.add
 split
 ·rename_i e; rw [e, Nat.add_zero]
 ·rfl
section
variable {H : Type} {enc : TypeId × Value → H} {w : World} {base n : Nat} {held : Bool}
theorem weightsAll_mem' {e : TypeId} : ∀ {l : List (DataW H)} {d : DataW H}, d ∈ l → ∀ n ∈ d.weights Tryz.prog e, n ∈ DataW.weightsAll Tryz.prog e l
 | d' :: r, d, hd, n, hn => by
   simp only [DataW.weightsAll, List.mem_append]
   rcases List.mem_cons.1 hd with rfl | h
   ·exact Or.inl hn
   ·exact Or.inr (weightsAll_mem' h n hn)
end
end Go.Proofs.YtpmldopbjlnknaaGreat
