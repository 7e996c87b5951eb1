/-
  What ranges of a set are: they rise, touch nowhere, have just its bytes.
-/
import Derived.Test.YtmnjicpgdhnimaaDoorSRangesP
import Derived.Test.YtmnjicpgdhnimaaDoorSOfBytes
namespace Go.Proofs.YtmnjicpgdhnimaaDoor
open Go.RowKit

/-- How many bytes ranges have. -/
def rsum : List (Nat × Nat) → Nat
  | [] => 0
  | p :: r => (p.2 - p.1 + 1) + rsum r
theorem rsum_append (R T : List (Nat × Nat)) : rsum (R ++ T) = rsum R + rsum T := by
  induction R with
  | nil => simp [rsum]
  | cons p r ih => simp only [List.cons_append, rsum, ih]; omega
/-- Ranges of the bytes below k of H. -/
structure Good (H : Nat → Bool) (k : Nat) (R : List (Nat × Nat)) : Prop where
  each : ∀ i, i < R.length → (R.getD i (0, 0)).1 ≤ (R.getD i (0, 0)).2 ∧ (R.getD i (0, 0)).2 < k
  gap : ∀ i, i + 1 < R.length → (R.getD i (0, 0)).2 + 1 < (R.getD (i + 1) (0, 0)).1
  has : ∀ b, b < k → (H b = true ↔ ∃ i, i < R.length ∧ (R.getD i (0, 0)).1 ≤ b ∧ b ≤ (R.getD i (0, 0)).2)
  sum : rsum R = (bl H k).length
theorem getD_snoc_lt (R : List (Nat × Nat)) (p : Nat × Nat) (i : Nat) (h : i < R.length) : (R ++ [p]).getD i (0, 0) = R.getD i (0, 0) := by
  rw [List.getD_eq_getElem?_getD, List.getD_eq_getElem?_getD, List.getElem?_append_left h]
theorem getD_snoc_eq (R : List (Nat × Nat)) (p : Nat × Nat) : (R ++ [p]).getD R.length (0, 0) = p := by
  rw [List.getD_eq_getElem?_getD, List.getElem?_append_right (Nat.le_refl _), Nat.sub_self]; rfl
theorem Good.next {H : Nat → Bool} {k : Nat} {R : List (Nat × Nat)} (g : Good H k R) (h : H k = false) : Good H (k + 1) R where
  each i hi := ⟨(g.each i hi).1, by have := (g.each i hi).2; omega⟩
  gap := g.gap
  has b hb := by
    rcases Nat.lt_or_ge b k with h1 | h1
    · exact g.has b h1
    · obtain rfl : b = k := by omega
      rw [h]
      constructor
      · intro e; cases e
      · rintro ⟨i, hi, _, h3⟩
        have := (g.each i hi).2
        omega
  sum := by rw [bl_no h]; exact g.sum
theorem Good.new {H : Nat → Bool} {k : Nat} {R : List (Nat × Nat)} (g : Good H k R) (h : H k = true) (hl : ∀ i, i + 1 = R.length → (R.getD i (0, 0)).2 + 1 < k) : Good H (k + 1) (R ++ [(k, k)]) where
  each i hi := by
    rw [List.length_append] at hi
    rcases Nat.lt_or_ge i R.length with h1 | h1
    · rw [getD_snoc_lt R _ i h1]; have := g.each i h1; omega
    · obtain rfl : i = R.length := by simp at hi; omega
      rw [getD_snoc_eq]; simp
  gap i hi := by
    rw [List.length_append] at hi
    simp only [List.length_cons, List.length_nil] at hi
    rw [getD_snoc_lt R _ i (by omega)]
    rcases Nat.lt_or_ge (i + 1) R.length with h1 | h1
    · rw [getD_snoc_lt R _ (i + 1) h1]; exact g.gap i h1
    · have e : i + 1 = R.length := by omega
      rw [e, getD_snoc_eq]
      exact hl i e
  has b hb := by
    rw [List.length_append]
    simp only [List.length_cons, List.length_nil]
    constructor
    · intro hH
      rcases Nat.lt_or_ge b k with h1 | h1
      · obtain ⟨i, hi, h2, h3⟩ := (g.has b h1).1 hH
        exact ⟨i, by omega, by rw [getD_snoc_lt R _ i hi]; exact ⟨h2, h3⟩⟩
      · obtain rfl : b = k := by omega
        exact ⟨R.length, by omega, by rw [getD_snoc_eq]; exact ⟨Nat.le_refl _, Nat.le_refl _⟩⟩
    · rintro ⟨i, hi, h2, h3⟩
      rcases Nat.lt_or_ge i R.length with h1 | h1
      · rw [getD_snoc_lt R _ i h1] at h2 h3
        have := (g.each i h1).2
        exact (g.has b (by omega)).2 ⟨i, h1, h2, h3⟩
      · obtain rfl : i = R.length := by omega
        rw [getD_snoc_eq] at h2 h3
        simp only at h2 h3
        obtain rfl : b = k := by omega
        exact h
  sum := by rw [bl_yes h, rsum_append, List.length_append, g.sum]; simp [rsum]
theorem Good.grow {H : Nat → Bool} {k lo hi : Nat} {R : List (Nat × Nat)} (g : Good H k (R ++ [(lo, hi)])) (h : H k = true) (hk : hi + 1 = k) : Good H (k + 1) (R ++ [(lo, k)]) where
  each i hi' := by
    rw [List.length_append] at hi'
    simp only [List.length_cons, List.length_nil] at hi'
    have h0 := g.each i (by rw [List.length_append]; exact hi')
    rcases Nat.lt_or_ge i R.length with h1 | h1
    · rw [getD_snoc_lt R _ i h1] at h0 ⊢; omega
    · obtain rfl : i = R.length := by omega
      rw [getD_snoc_eq] at h0 ⊢
      simp only at h0 ⊢
      omega
  gap i hi' := by
    rw [List.length_append] at hi'
    simp only [List.length_cons, List.length_nil] at hi'
    have h0 := g.gap i (by rw [List.length_append]; exact hi')
    rw [getD_snoc_lt R _ i (by omega)] at h0 ⊢
    rcases Nat.lt_or_ge (i + 1) R.length with h1 | h1
    · rw [getD_snoc_lt R _ (i + 1) h1] at h0 ⊢; exact h0
    · have e : i + 1 = R.length := by omega
      rw [e, getD_snoc_eq] at h0 ⊢
      exact h0
  has b hb := by
    have hlo := (g.each R.length (by simp)).1
    rw [getD_snoc_eq] at hlo
    simp only at hlo
    rw [List.length_append]
    simp only [List.length_cons, List.length_nil]
    constructor
    · intro hH
      rcases Nat.lt_or_ge b k with h1 | h1
      · obtain ⟨i, hi', h2, h3⟩ := (g.has b h1).1 hH
        rw [List.length_append] at hi'
        simp only [List.length_cons, List.length_nil] at hi'
        refine ⟨i, hi', ?_⟩
        rcases Nat.lt_or_ge i R.length with h4 | h4
        · rw [getD_snoc_lt R _ i h4] at h2 h3 ⊢; exact ⟨h2, h3⟩
        · obtain rfl : i = R.length := by omega
          rw [getD_snoc_eq] at h2 h3 ⊢
          simp only at h2 h3 ⊢
          omega
      · obtain rfl : b = k := by omega
        refine ⟨R.length, by omega, ?_⟩
        rw [getD_snoc_eq]
        simp only
        omega
    · rintro ⟨i, hi', h2, h3⟩
      rcases Nat.lt_or_ge b k with h1 | h1
      · refine (g.has b h1).2 ⟨i, by rw [List.length_append]; exact hi', ?_⟩
        rcases Nat.lt_or_ge i R.length with h4 | h4
        · rw [getD_snoc_lt R _ i h4] at h2 h3 ⊢; exact ⟨h2, h3⟩
        · obtain rfl : i = R.length := by omega
          rw [getD_snoc_eq] at h2 h3 ⊢
          simp only at h2 h3 ⊢
          omega
      · obtain rfl : b = k := by omega
        exact h
  sum := by
    have h0 := g.sum
    have hlo := (g.each R.length (by simp)).1
    rw [getD_snoc_eq] at hlo
    simp only at hlo
    rw [bl_yes h, List.length_append, ← h0, rsum_append, rsum_append]
    simp only [rsum, List.length_cons, List.length_nil]
    omega
theorem good (H : Nat → Bool) : ∀ k, Good H k (rl (bl H k))
  | 0 => ⟨fun i hi => by simp [bl, rl] at hi, fun i hi => by simp [bl, rl] at hi, fun b hb => by omega, rfl⟩
  | k + 1 => by
    have g := good H k
    cases h : H k with
    | false => rw [bl_no h]; exact g.next h
    | true =>
      rw [bl_yes h, rl_snoc]
      rcases List.eq_nil_or_concat (rl (bl H k)) with e | ⟨R', ⟨lo, hi⟩, e⟩
      · rw [e] at g ⊢
        rw [addR_nil]
        exact g.new h (fun i hi => by simp at hi)
      · rw [List.concat_eq_append] at e
        rw [e] at g ⊢
        by_cases hk : hi + 1 = k
        · rw [addR_yes _ _ _ _ hk]; exact g.grow h hk
        · rw [addR_no _ _ _ _ hk]
          refine g.new h (fun i hi' => ?_)
          rw [List.length_append] at hi'
          simp only [List.length_cons, List.length_nil] at hi'
          obtain rfl : i = R'.length := by omega
          have h0 := (g.each R'.length (by simp)).2
          rw [getD_snoc_eq] at h0 ⊢
          simp only at h0 ⊢
          omega
/-- The sets of ranges. -/
def rset (R : List (Nat × Nat)) (i : Nat) : Nat → Bool := rng (R.getD i (0, 0)).1 (R.getD i (0, 0)).2
theorem anyS_iff (S : Nat → Nat → Bool) (c : Nat) : ∀ n, anyS S n c = true ↔ ∃ i, i < n ∧ S i c = true
  | 0 => by simp [anyS]
  | n + 1 => by
    unfold anyS
    rw [Bool.or_eq_true, anyS_iff S c n]
    constructor
    · rintro (⟨i, h1, h2⟩ | h)
      · exact ⟨i, by omega, h2⟩
      · exact ⟨n, by omega, h⟩
    · rintro ⟨i, h1, h2⟩
      rcases Nat.lt_or_ge i n with h | h
      · exact .inl ⟨i, h, h2⟩
      · obtain rfl : i = n := by omega
        exact .inr h2
theorem whole_any (H : Nat → Bool) (b : Nat) (hb : b < 256) : anyS (rset (rl (bl H 256))) (rl (bl H 256)).length b = H b := by
  rw [Bool.eq_iff_iff, anyS_iff, (good H 256).has b hb]
  simp [rset, rng]
theorem rsum_take (R : List (Nat × Nat)) (k : Nat) (h : k < R.length) : rsum (R.take (k + 1)) = rsum (R.take k) + ((R.getD k (0, 0)).2 - (R.getD k (0, 0)).1 + 1) := by
  have e : R.take (k + 1) = R.take k ++ [R.getD k (0, 0)] := by
    rw [List.take_add_one, List.getElem?_eq_getElem h, List.getD_eq_getElem?_getD, List.getElem?_eq_getElem h]; rfl
  rw [e, rsum_append]
  simp [rsum]
end Go.Proofs.YtmnjicpgdhnimaaDoor
