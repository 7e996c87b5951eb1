/-
  The program's reader gets rising rows.
-/
import Derived.Test.YtlmjplpledilhaaRdRest
namespace Go.Proofs.Ytlmjplpledilhaa
open Go.RowKit

/-- The cells of integers. -/
def li (L : List Int) : List Value := L.map fun x => .int .i64 x
theorem li_length (L : List Int) : (li L).length = L.length := by simp [li]
theorem li_append (L M : List Int) : li (L ++ M) = li L ++ li M := by simp [li]
theorem info_int : (Try.prog.info? 3).map (fun i => (i.zero, i.size, i.bytes)) = some (some (.int .i64 0), 1, 8) := by kernel_rfl
theorem RP.form {w : World} {pv : Value} {F : Nat → Prop} {S : Option (List Nat)} (h : RP w pv F S) : ∃ a, pv = .pointer a := by
  rcases h with ⟨h, _⟩ | ⟨p, h1, h2⟩
  · exact ⟨_, h⟩
  · exact ⟨_, h1⟩
theorem RP.own {w : World} {pv : Value} {F : Nat → Prop} {S : Option (List Nat)} (h : RP w pv F S) : ∀ k, own1 pv k → F k := by
  intro k hk
  unfold own1 at hk
  rcases h with ⟨h, _⟩ | ⟨p, h1, h2⟩
  · rw [h] at hk; cases hk
  · rw [h1] at hk; cases hk; exact h2.1
theorem getNum_none0 (most : Int) (S : Option (List Nat)) (h : (getNum most S).2 = none) : (getNum most S).1 = 0 := by
  cases S with
  | none => rfl
  | some L =>
    cases hp : pN 6 0 L with
    | none => rw [getNum_none_eq hp]
    | some x =>
      obtain ⟨v, k⟩ := x
      rw [getNum_some_eq hp] at h ⊢
      by_cases h2 : (v : Int) ≤ most ∧ v ≤ maxNum
      · rw [if_pos h2] at h; cases h
      · rw [if_neg h2]
/-- A number that is there takes a byte at least, and is in its bounds. -/
theorem getNum_more (most : Int) (S : Option (List Nat)) (L' : List Nat) (h : (getNum most S).2 = some L') : L'.length + 1 ≤ szO S ∧ ((getNum most S).1 : Int) ≤ most ∧ (getNum most S).1 ≤ maxNum := by
  cases S with
  | none => cases h
  | some L =>
    cases hp : pN 6 0 L with
    | none => rw [getNum_none_eq hp] at h; cases h
    | some x =>
      obtain ⟨v, k⟩ := x
      have hk := pN_len 6 0 L v k hp
      rw [getNum_some_eq hp] at h ⊢
      by_cases h2 : (v : Int) ≤ most ∧ v ≤ maxNum
      · rw [if_pos h2] at h ⊢
        cases h
        refine ⟨?_, h2.1, h2.2⟩
        simp [szO]; omega
      · rw [if_neg h2] at h; cases h
theorem getRow_zero (most l : Int) (L : List Nat) : getRow most 0 l (some L) = some ([], L) := by simp [getRow]
theorem getRow_bad (most l : Int) (q : Nat) (L : List Nat) (h : (getNum (min most maxNum - l - 1) (some L)).2 = none) : getRow most (q + 1) l (some L) = none := by
  unfold getRow
  generalize getNum (min most maxNum - l - 1) (some L) = g at *
  obtain ⟨a, b⟩ := g
  simp only at h
  subst h
  rfl
theorem getRow_step (most l : Int) (q g : Nat) (L L' : List Nat) (h : getNum (min most maxNum - l - 1) (some L) = (g, some L')) : getRow most (q + 1) l (some L) = (getRow most q (l + 1 + g) (some L')).map fun x => ((l + 1 + g) :: x.1, x.2) := by
  rw [getRow]
  simp only [h]
/-- What is got with a row's rest. -/
def risOf : Nat × Option (List Nat) → Option (List Int × List Nat) → List Int × Option (List Nat)
  | _, none => ([], none)
  | _, some (r, L) => (r, some L)
theorem getRising_of (many most : Int) (S : Option (List Nat)) : getRising many most S = risOf (getNum many S) (getRow most (getNum many S).1 (-1) (getNum many S).2) := by
  unfold getRising
  rcases getNum many S with ⟨n, S'⟩
  simp only
  cases getRow most n (-1) S' with
  | none => rfl
  | some x => rfl
/-- What is left of a row behind k numbers. -/
def RowAt (total : Option (List Int × List Nat)) (most : Int) (q : Nat) (l : Int) (L : List Nat) (done : List Int) : Prop := total = (getRow most q l (some L)).map fun x => (done ++ x.1, x.2)
theorem RowAt.step {total : Option (List Int × List Nat)} {most l : Int} {q g : Nat} {L L' : List Nat} {done : List Int} (h : RowAt total most (q + 1) l L done) (hg : getNum (min most maxNum - l - 1) (some L) = (g, some L')) : RowAt total most q (l + 1 + g) L' (done ++ [l + 1 + g]) := by
  unfold RowAt at *
  rw [h, getRow_step most l q g L L' hg]
  cases getRow most q (l + 1 + g) (some L') with
  | none => rfl
  | some x => simp
theorem RowAt.bad {total : Option (List Int × List Nat)} {most l : Int} {q : Nat} {L : List Nat} {done : List Int} (h : RowAt total most (q + 1) l L done) (hg : (getNum (min most maxNum - l - 1) (some L)).2 = none) : total = none := by
  unfold RowAt at h
  rw [h, getRow_bad most l q L hg]; rfl
theorem RowAt.done {total : Option (List Int × List Nat)} {most l : Int} {L : List Nat} {done : List Int} (h : RowAt total most 0 l L done) : total = some (done, L) := by
  unfold RowAt at h
  rw [h, getRow_zero]; simp

end Go.Proofs.Ytlmjplpledilhaa
