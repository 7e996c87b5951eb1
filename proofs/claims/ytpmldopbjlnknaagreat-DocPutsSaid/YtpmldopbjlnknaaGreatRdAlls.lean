/-
  The program's reader: what it holds in memory; Read, OK, Left, fail, take.
-/
import Derived.Test.YtpmldopbjlnknaaGreatWrRef
import Derived.Shelf.Abstract
import Derived.Shelf.RegionOpen
import Derived.TacticsInMore
import Derived.LoopNIn
import Derived.LoopIn
import Derived.LoopN
set_option linter.unusedVariables false
set_option linter.unusedSimpArgs false
namespace Go.Proofs.YtpmldopbjlnknaaGreat
open Go.RowKit
def Rd (w : World) (p : Nat) (F : Nat → Prop) (S : Option (List Nat)) : Prop :=
 F p ∧ match S with
 | none => w.heap[p]? = some (.cells #[.slice none 0 0, .bool false] 247 (0, 0))
 | some L => ∃ A C, w.heap[p]? = some (.cells #[.slice A L.length C, .bool true] 247 (0, 0)) ∧ L.length ≤ C ∧ C ≤ 9223372036854775807 ∧ (A = none → C = 0) ∧ (C = 0 ∨ ∃ b off, A = some ⟨b, off, none⟩) ∧ BL w A L ∧ ∀ g off s, A = some ⟨g, off, s⟩ → F g ∧ g ≠ p
theorem Rd.mono {w : World} {p : Nat} {F G : Nat → Prop} {S : Option (List Nat)} (h : Rd w p F S) (hFG : ∀ k, F k → G k) : Rd w p G S := by
 cases S with
 | none => exact ⟨hFG _ h.1, h.2⟩
 | some L =>
   obtain ⟨hp, A, C, h1, h2, h3, h4, h5, h6, h7⟩ := h
   exact ⟨hFG _ hp, A, C, h1, h2, h3, h4, h5, h6, fun g o s e => ⟨hFG _ (h7 g o s e).1, (h7 g o s e).2⟩⟩
theorem Rd.kept {w w' : World} {p : Nat} {F G : Nat → Prop} {S : Option (List Nat)} (h : Rd w p F S) (hk : Kept G w w') (hd : ∀ k, F k → ¬ G k) : Rd w' p F S := by
 cases S with
 | none => exact ⟨h.1, hk.heap h.2 (hd _ h.1)⟩
 | some L =>
   obtain ⟨hp, A, C, h1, h2, h3, h4, h5, h6, h7⟩ := h
   exact ⟨hp, A, C, hk.heap h1 (hd _ hp), h2, h3, h4, h5, h6.kept hk (fun g o s e => hd _ (h7 g o s e).1), h7⟩
theorem BL.cells {w w' : World} {a : Option Addr} {L : List Nat} (h : BL w a L) (hk : CellsKept w w') : BL w' a L := by
 obtain ⟨hz, h | ⟨b, off, h, hc⟩⟩ := h
 ·exact ⟨hz, .inl h⟩
 ·exact ⟨hz, .inr ⟨b, off, h, fun i hi => hk.cell (hc i hi)⟩⟩
theorem Rd.cells {w w' : World} {p : Nat} {F : Nat → Prop} {S : Option (List Nat)} (h : Rd w p F S) (hk : CellsKept w w') : Rd w' p F S := by
 cases S with
 | none => exact ⟨h.1, hk _ _ _ _ h.2⟩
 | some L =>
   obtain ⟨hp, A, C, h1, h2, h3, h4, h5, h6, h7⟩ := h
   exact ⟨hp, A, C, hk _ _ _ _ h1, h2, h3, h4, h5, h6.cells hk, h7⟩
def RP (w : World) (pv : Value) (F : Nat → Prop) (S : Option (List Nat)) : Prop := (pv = .pointer none ∧ S = none) ∨ ∃ p, pv = .pointer (some ⟨p, 0, none⟩) ∧ Rd w p F S
theorem RP.mono {w : World} {pv : Value} {F G : Nat → Prop} {S : Option (List Nat)} (h : RP w pv F S) (hFG : ∀ k, F k → G k) : RP w pv G S := by
 rcases h with h | ⟨p, h1, h2⟩
 ·exact .inl h
 ·exact .inr ⟨p, h1, h2.mono hFG⟩
theorem RP.kept {w w' : World} {pv : Value} {F G : Nat → Prop} {S : Option (List Nat)} (h : RP w pv F S) (hk : Kept G w w') (hd : ∀ k, F k → ¬ G k) : RP w' pv F S := by
 rcases h with h | ⟨p, h1, h2⟩
 ·exact .inl h
 ·exact .inr ⟨p, h1, h2.kept hk hd⟩
theorem Rd.block {w : World} {p : Nat} {F : Nat → Prop} {S : Option (List Nat)} (h : Rd w p F S) : ∃ a b, w.heap[p]? = some (.cells #[a, b] 247 (0, 0)) := by
 cases S with
 | none => exact ⟨_, _, h.2⟩
 | some L => obtain ⟨hp, A, C, h1, _⟩ := h; exact ⟨_, _, h1⟩
open Go.RowKit Go.Shelf
attribute [local go_sem] Oper.semAt_some
def Goes (L : List Nat) (k : Nat) : Prop := (∀ i, i < k → 128 ≤ L.getD i 0) ∧ k ≤ 6 ∧ k ≤ L.length
theorem Goes.next {L : List Nat} {k : Nat} (h : Goes L k) (h6 : k < 6) (hl : k < L.length) (hb : 128 ≤ L.getD k 0) : Goes L (k + 1) :=
 ⟨fun i hi => by
  by_cases e : i = k
  ·subst e; exact hb
  ·exact h.1 i (by omega), by omega, by omega⟩
end Go.Proofs.YtpmldopbjlnknaaGreat
/-
  The program's reader gets a number.
-/
namespace Go.Proofs.YtpmldopbjlnknaaGreat
open Go.RowKit Go.Shelf
attribute [local go_sem] Oper.semAt_some
theorem Kept.undrew {F : Nat → Prop} {w w' : World} (h : Kept F w.drew w') : Kept F w w' := ⟨h.os, h.tape, h.output, h.size, h.block, h.others⟩
def NumBox (N0 : Nat) (t : Nat × Nat × Nat) (X : World) : Prop :=
 X.heap[N0]? = some (.cells #[.int .i64 (t.1 : Nat)] 3 (0, 0)) ∧ X.heap[N0 + 1]? = some (.cells #[.int .i64 (t.2.1 : Nat)] 3 (0, 0)) ∧ X.heap[N0 + 1 + 1]? = some (.cells #[.int .u8 (t.2.2 : Nat)] 5 (0, 0))
theorem NumBox.cells {N0 : Nat} {t : Nat × Nat × Nat} {X Y : World} (h : NumBox N0 t X) (hk : CellsKept X Y) : NumBox N0 t Y := ⟨hk _ _ _ _ h.1, hk _ _ _ _ h.2.1, hk _ _ _ _ h.2.2⟩
end Go.Proofs.YtpmldopbjlnknaaGreat
/-
  The program's reader gets fixed numbers, texts, rising rows.
-/
namespace Go.Proofs.YtpmldopbjlnknaaGreat
open Go.RowKit
theorem owns_lower {w : World} {B B' n size : Nat} {v : Value} {xs : List Value} {e : TypeId} (h : w.ownsRow B e size v n xs) (hB : B' ≤ B) : w.ownsRow B' e size v n xs := by
 obtain ⟨hl, ⟨hv, h0⟩ | ⟨g, cap, cur, hv, hg, hr⟩⟩ := h
 ·exact ⟨hl, .inl ⟨hv, h0⟩⟩
 ·exact ⟨hl, .inr ⟨g, cap, cur, hv, by omega, hr⟩⟩
def own1 (pv : Value) (k : Nat) : Prop := pv = .pointer (some ⟨k, 0, none⟩)
open Go.RowKit
theorem RP.form {w : World} {pv : Value} {F : Nat → Prop} {S : Option (List Nat)} (h : RP w pv F S) : ∃ a, pv = .pointer a := by
 rcases h with ⟨h, _⟩ | ⟨p, h1, h2⟩
 ·exact ⟨_, h⟩
 ·exact ⟨_, h1⟩
theorem RP.own {w : World} {pv : Value} {F : Nat → Prop} {S : Option (List Nat)} (h : RP w pv F S) : ∀ k, own1 pv k → F k := by
 intro k hk
 unfold own1 at hk
 rcases h with ⟨h, _⟩ | ⟨p, h1, h2⟩
 ·rw [h] at hk; cases hk
 ·rw [h1] at hk; cases hk; exact h2.1
theorem getRow_zero (most l : Int) (L : List Nat) : getRow most 0 l (some L) = some ([], L) := by simp [getRow]
theorem getRow_bad (most l : Int) (q : Nat) (L : List Nat) (h : (getNum (min most maxNum - l - 1) (some L)).2 = none) : getRow most (q + 1) l (some L) = none := by
 unfold getRow
 generalize getNum (min most maxNum - l - 1) (some L) = g at *
 obtain ⟨a, b⟩ := g
 simp only at h
 subst h
 rfl
theorem getRow_step (most l : Int) (q g : Nat) (L L' : List Nat) (h : getNum (min most maxNum - l - 1) (some L) = (g, some L')) : getRow most (q + 1) l (some L) = (getRow most q (l + 1 + g) (some L')).map fun x => ((l + 1 + g) :: x.1, x.2) := by
 rw [getRow]
 simp only [h]
def RowAt (total : Option (List Int × List Nat)) (most : Int) (q : Nat) (l : Int) (L : List Nat) (done : List Int) : Prop := total = (getRow most q l (some L)).map fun x => (done ++ x.1, x.2)
theorem RowAt.step {total : Option (List Int × List Nat)} {most l : Int} {q g : Nat} {L L' : List Nat} {done : List Int} (h : RowAt total most (q + 1) l L done) (hg : getNum (min most maxNum - l - 1) (some L) = (g, some L')) : RowAt total most q (l + 1 + g) L' (done ++ [l + 1 + g]) := by
 unfold RowAt at *
 rw [h, getRow_step most l q g L L' hg]
 cases getRow most q (l + 1 + g) (some L') with
 | none => rfl
 | some x => simp
theorem RowAt.bad {total : Option (List Int × List Nat)} {most l : Int} {q : Nat} {L : List Nat} {done : List Int} (h : RowAt total most (q + 1) l L done) (hg : (getNum (min most maxNum - l - 1) (some L)).2 = none) : total = none := by
 unfold RowAt at h
 rw [h, getRow_bad most l q L hg]; rfl
theorem RowAt.done {total : Option (List Int × List Nat)} {most l : Int} {L : List Nat} {done : List Int} (h : RowAt total most 0 l L done) : total = some (done, L) := by
 unfold RowAt at h
 rw [h, getRow_zero]; simp
end Go.Proofs.YtpmldopbjlnknaaGreat
