/-
  Paths: their parts, what is right of them (plain Lean).
-/
import Derived.Lib.Bytealg
import Derived.Lib.IndexMore
namespace Go.Proofs.Ytpmldopbjlnknaa

/-- What stands between slashes. -/
def partsL : List UInt8 → List (List UInt8)
  | [] => [[]]
  | c :: l => if c = 47 then [] :: partsL l else match partsL l with
    | [] => [[c]]
    | p :: r => (c :: p) :: r
theorem parts_ne : ∀ l, partsL l ≠ []
  | [] => by simp [partsL]
  | c :: l => by
    unfold partsL
    split
    · simp
    · split <;> simp
theorem parts_none : ∀ l : List UInt8, Lib.indexByte l 47 = -1 → partsL l = [l]
  | [], _ => rfl
  | c :: l, h => by
    unfold Lib.indexByte at h
    by_cases hc : c = 47
    · subst hc; simp at h
    · have hb : (c == 47) = false := by simpa using hc
      have hge := Lib.indexByte_ge l 47
      have hl : Lib.indexByte l 47 = -1 := by
        rw [hb] at h
        by_cases h2 : Lib.indexByte l 47 = -1
        · exact h2
        · have : (Lib.indexByte l 47 == -1) = false := by simpa using h2
          rw [this] at h
          simp at h
          omega
      unfold partsL
      rw [if_neg hc, parts_none l hl]
theorem parts_some : ∀ (l : List UInt8) (i : Nat), Lib.indexByte l 47 = (i : Int) → i < l.length ∧ partsL l = l.take i :: partsL (l.drop (i + 1))
  | [], i, h => by
    unfold Lib.indexByte at h
    omega
  | c :: l, i, h => by
    unfold Lib.indexByte at h
    by_cases hc : c = 47
    · subst hc
      simp at h
      obtain rfl : i = 0 := by omega
      exact ⟨by simp, by simp [partsL]⟩
    · have hb : (c == 47) = false := by simpa using hc
      rw [hb] at h
      by_cases h2 : Lib.indexByte l 47 = -1
      · rw [h2] at h
        simp at h
      · have h3 : (Lib.indexByte l 47 == -1) = false := by simpa using h2
        rw [h3] at h
        simp at h
        have hge := Lib.indexByte_ge l 47
        obtain ⟨j, hj⟩ : ∃ j : Nat, Lib.indexByte l 47 = (j : Int) := ⟨(Lib.indexByte l 47).toNat, by omega⟩
        obtain rfl : i = j + 1 := by omega
        obtain ⟨h4, h5⟩ := parts_some l j hj
        refine ⟨by simpa using h4, ?_⟩
        rw [partsL, if_neg hc, h5]
        simp
theorem parts_length : ∀ l, (partsL l).length ≤ l.length + 1
  | [] => by simp [partsL]
  | c :: l => by
    have ih := parts_length l
    have hn := parts_ne l
    unfold partsL
    split
    · simpa using ih
    · split
      · simp
      · rename_i p r e
        rw [e] at ih
        simp only [List.length_cons] at ih ⊢
        omega
/-- A part that is right. -/
def okP (p : List UInt8) : Bool := decide (p ≠ [] ∧ p ≠ [46] ∧ p ≠ [46, 46]) && p.all fun c => decide (32 ≤ c.toNat ∧ c.toNat ≠ 127)
/-- A path that is right. -/
def rightP (l : List UInt8) : Bool := decide (l.length ≤ 200) && (partsL l).all okP
end Go.Proofs.Ytpmldopbjlnknaa
