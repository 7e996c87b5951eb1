/-
  The reference's reader gets rising rows.
-/
import Derived.Test.YtpmldopbjlnknaaRefRdA
namespace Go.Proofs.Ytpmldopbjlnknaa
open Go.RowKit

theorem RR.kept2 {w w' : World} {p C : Nat} {A : Option Addr} {L : List Nat} {S : Option (List Nat)} {G : Nat → Prop} (h : RR w p A C L S) (hk : Kept G w w') (hp : ¬ G p) (hA : ∀ g off s, A = some ⟨g, off, s⟩ → 0 < L.length → ¬ G g) : RR w' p A C L S := by
  obtain ⟨a, h1, h2, h3, h4, h5, h6, h7, h8, h9⟩ := h
  refine ⟨a, h1, hk.heap h2 hp, h3, ?_, h5, h6, h7, h8, h9⟩
  rcases Nat.eq_zero_or_pos L.length with h0 | h0
  · exact BL.mk h4.lt (.inl h0)
  · exact h4.kept hk (fun g o s e => hA g o s e h0)
theorem RR.at {w : World} {p C : Nat} {A : Option Addr} {L : List Nat} {S : Option (List Nat)} (h : RR w p A C L S) : p < w.heap.size ∧ ∀ g off s, A = some ⟨g, off, s⟩ → 0 < L.length → g < w.heap.size := by
  obtain ⟨a, h1, h2, h3, h4, h5, h6, h7, h8, h9⟩ := h
  refine ⟨block_lt h2, fun g off s e h0 => ?_⟩
  obtain ⟨b, o, e', hc⟩ := h4.cell h0
  rw [e] at e'
  cases e'
  exact block_lt_of_cell (hc 0 h0)
theorem getNum_cap (m : Int) (L : List Nat) : (((getNum 1099511627776 (some L)).1 : Int) ≤ m → getNum m (some L) = getNum 1099511627776 (some L) ∨ (getNum 1099511627776 (some L)).2 = none) ∧
    ((getNum 1099511627776 (some L)).2 = none → (getNum m (some L)).2 = none) ∧ (m < ((getNum 1099511627776 (some L)).1 : Int) → (getNum m (some L)).2 = none) := by
  cases hp : pN 6 0 L with
  | none => rw [getNum_none_eq hp, getNum_none_eq hp]; exact ⟨fun _ => .inl rfl, fun _ => rfl, fun _ => rfl⟩
  | some x =>
    obtain ⟨v, k⟩ := x
    rw [getNum_some_eq hp, getNum_some_eq hp]
    unfold maxNum
    by_cases h1 : v ≤ 1099511627776
    · rw [if_pos (show (v : Int) ≤ 1099511627776 ∧ v ≤ 1099511627776 from ⟨by omega, h1⟩)]
      refine ⟨fun h => .inl ?_, fun h => (by cases h), fun h => ?_⟩
      · simp only at h
        rw [if_pos ⟨h, h1⟩]
      · simp only at h
        rw [if_neg (by omega)]
    · rw [if_neg (by omega), if_neg (by omega)]
      exact ⟨fun _ => .inl rfl, fun _ => rfl, fun _ => rfl⟩

/-- What is known of the row at a round's head. -/
def RisAt (res : List Int × Option (List Nat)) (total : Option (List Int × List Nat)) (most : Int) (q : Nat) (l : Int) (St : Option (List Nat)) (done : List Int) : Prop :=
  (St = none ∧ res = ([], none)) ∨ ∃ L', St = some L' ∧ RowAt total most q l L' done ∧ (l = -1 ∨ (l ≤ most ∧ l ≤ 1099511627776)) ∧ done.length + L'.length ≤ 1000000
/-- A number more, of whatever it is. -/
theorem RisAt.next {res : List Int × Option (List Nat)} {total : Option (List Int × List Nat)} {most l : Int} {q : Nat} {L' : List Nat} {done : List Int} (hres : total = none → res = ([], none)) (hrow : RowAt total most (q + 1) l L' done) (hsz : done.length + L'.length ≤ 1000000) :
    ((l + 1 + ((getNum 1099511627776 (some L')).1 : Int) ≤ most ∧ l + 1 + ((getNum 1099511627776 (some L')).1 : Int) ≤ 1099511627776) → RisAt res total most q (l + 1 + ((getNum 1099511627776 (some L')).1 : Int)) (getNum 1099511627776 (some L')).2 (done ++ [l + 1 + ((getNum 1099511627776 (some L')).1 : Int)])) ∧
    (¬ (l + 1 + ((getNum 1099511627776 (some L')).1 : Int) ≤ most ∧ l + 1 + ((getNum 1099511627776 (some L')).1 : Int) ≤ 1099511627776) → RisAt res total most q (l + 1 + ((getNum 1099511627776 (some L')).1 : Int)) none (done ++ [l + 1 + ((getNum 1099511627776 (some L')).1 : Int)])) := by
  have hmm : min most (maxNum : Int) ≤ 1099511627776 := by unfold maxNum; exact Int.min_le_right _ _
  have hcap := getNum_cap (min most maxNum - l - 1) L'
  have hbad := fun e => hrow.bad e
  constructor
  · intro hx
    have hmin : min most (maxNum : Int) = most ∨ min most (maxNum : Int) = 1099511627776 := by unfold maxNum; omega
    cases hS : (getNum 1099511627776 (some L')).2 with
    | none => exact .inl ⟨rfl, hres (hbad (hcap.2.1 hS))⟩
    | some L2 =>
      have e : getNum (min most maxNum - l - 1) (some L') = getNum 1099511627776 (some L') := by
        rcases hcap.1 (by omega) with h | h
        · exact h
        · rw [hS] at h; cases h
      have hg : getNum (min most maxNum - l - 1) (some L') = ((getNum 1099511627776 (some L')).1, some L2) := by rw [e, ← hS]
      have hm := (getNum_more 1099511627776 (some L') L2 hS).1
      simp only [szO] at hm
      exact .inr ⟨L2, rfl, hrow.step hg, .inr hx, by simp; omega⟩
  · intro hx
    have hmin : min most (maxNum : Int) ≤ most := Int.min_le_left _ _
    exact .inl ⟨rfl, hres (hbad (hcap.2.2 (by omega)))⟩

end Go.Proofs.Ytpmldopbjlnknaa
