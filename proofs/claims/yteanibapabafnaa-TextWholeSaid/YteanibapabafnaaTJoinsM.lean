/-
  Two rows of bytes with a line feed between: where lines begin, what their texts are.
-/
import Derived.Test.YteanibapabafnaaTMath
namespace Go.Proofs.Yteanibapabafnaa
open Go.RowKit

/-- The bytes of both. -/
def jn (za zb : Nat → Nat) (la : Nat) (i : Nat) : Nat := if i < la then za i else if i = la then 10 else zb (i - la - 1)
theorem jn_lt {za zb : Nat → Nat} (ha : ∀ i, za i < 256) (hb : ∀ i, zb i < 256) (la i : Nat) : jn za zb la i < 256 := by
  unfold jn
  split
  · exact ha i
  · split
    · omega
    · exact hb _
theorem jn_a {za zb : Nat → Nat} {la i : Nat} (h : i < la) : jn za zb la i = za i := by unfold jn; rw [if_pos h]
theorem jn_m {za zb : Nat → Nat} {la : Nat} : jn za zb la la = 10 := by unfold jn; rw [if_neg (by omega), if_pos rfl]
theorem jn_b {za zb : Nat → Nat} {la : Nat} (m : Nat) : jn za zb la (la + 1 + m) = zb m := by
  unfold jn
  rw [if_neg (by omega), if_neg (by omega), show la + 1 + m - la - 1 = m by omega]
theorem fd_jn (za zb : Nat → Nat) (la : Nat) : ∀ m, fd (isF (jn za zb la)) (la + 1 + m) = fd (isF za) la ++ [la] ++ (fd (isF zb) m).map (· + (la + 1))
  | 0 => by
    rw [Nat.add_zero, fd_yes (show isF (jn za zb la) la = true by unfold isF; rw [jn_m]; rfl), fd_congr (q := isF za) (fun i hi => by unfold isF; rw [jn_a hi])]
    simp [fd_zero]
  | m + 1 => by
    have ih := fd_jn za zb la m
    have e : isF (jn za zb la) (la + 1 + m) = isF zb m := by unfold isF; rw [jn_b]
    rw [← Nat.add_assoc]
    cases h : isF zb m with
    | true => rw [fd_yes (e.trans h), fd_yes h, ih]; simp; omega
    | false => rw [fd_no (e.trans h), fd_no h, ih]
/-- Where lines begin in both. -/
theorem bg_jn (za zb : Nat → Nat) (la lb : Nat) : bg (jn za zb la) (la + 1 + lb) = bg za la ++ (bg zb lb).map (· + (la + 1)) := by
  unfold bg
  rw [fd_jn]
  simp [List.map_append, Function.comp_def]
  intro a _
  omega
theorem EndAt.ex (z : Nat → Nat) (len : Nat) : ∀ d i, i + d = len → ∃ k, EndAt z len i k
  | 0, i, h => ⟨i, Nat.le_refl _, by omega, fun j h1 h2 => by omega, .inl (by omega)⟩
  | d + 1, i, h => by
    by_cases hz : z i = 10
    · exact ⟨i, Nat.le_refl _, by omega, fun j h1 h2 => by omega, .inr hz⟩
    · obtain ⟨k, h1, h2, h3, h4⟩ := EndAt.ex z len d (i + 1) (by omega)
      refine ⟨k, by omega, h2, fun j hj1 hj2 => ?_, h4⟩
      rcases Nat.lt_or_ge i j with hj | hj
      · exact h3 j (by omega) hj2
      · obtain rfl : j = i := by omega
        exact hz
theorem EndAt.left {za zb : Nat → Nat} {la lb i k : Nat} (h : EndAt za la i k) : EndAt (jn za zb la) (la + 1 + lb) i k := by
  obtain ⟨h1, h2, h3, h4⟩ := h
  refine ⟨h1, by omega, fun j hj1 hj2 => by rw [jn_a (by omega)]; exact h3 j hj1 hj2, .inr ?_⟩
  rcases Nat.lt_or_ge k la with hk | hk
  · rw [jn_a hk]
    rcases h4 with h4 | h4
    · omega
    · exact h4
  · obtain rfl : k = la := by omega
    exact jn_m
theorem EndAt.right {za zb : Nat → Nat} {la lb i k : Nat} (h : EndAt zb lb i k) : EndAt (jn za zb la) (la + 1 + lb) (i + (la + 1)) (k + (la + 1)) := by
  obtain ⟨h1, h2, h3, h4⟩ := h
  refine ⟨by omega, by omega, fun j hj1 hj2 => ?_, ?_⟩
  · obtain ⟨m, rfl⟩ : ∃ m, j = la + 1 + m := ⟨j - (la + 1), by omega⟩
    rw [jn_b]
    exact h3 m (by omega) (by omega)
  · rcases h4 with h4 | h4
    · exact .inl (by omega)
    · refine .inr ?_
      rw [show k + (la + 1) = la + 1 + k by omega, jn_b]
      exact h4
theorem cut_congr {z y : Nat → Nat} {i j k l : Nat} (hl : k - i = l - j) (h : ∀ d, d < k - i → z (i + d) = y (j + d)) : cut z i k = cut y j l := by
  unfold cut tx
  rw [← hl]
  apply List.map_congr_left
  intro d hd
  exact h d (List.mem_range.1 hd)
/-- A line's text where its start is one of the lines' own. -/
theorem TextIs.of {z : Nat → Nat} {len : Nat} {s : Nat → Int} {n l i k : Nat} (hl : l < n) (hs : s l = (i : Int)) (hi : i ≤ len) (he : EndAt z len i k) : TextIs z len s n ((l : Int) + 1) (txt (cut z i k)) :=
  .inr ⟨l, rfl, hl, .inr ⟨i, k, hs, hi, he, rfl⟩⟩
theorem bg_get_le (z : Nat → Nat) (len i : Nat) (h : i < (bg z len).length) : (bg z len).getD i 0 ≤ len := by
  apply bg_le (z := z)
  rw [List.getD_eq_getElem?_getD, List.getElem?_eq_getElem h]
  exact List.getElem_mem h
/-- The texts of the first one are those of both. -/
theorem text_left (za zb : Nat → Nat) (la lb i : Nat) (hi : i < (bg za la).length) :
    ((bg (jn za zb la) (la + 1 + lb)).getD i 0 = (bg za la).getD i 0) ∧ ∃ S, TextIs za la (fun j => (((bg za la).getD j 0 : Nat) : Int)) (bg za la).length ((i : Int) + 1) (.string S) ∧
      TextIs (jn za zb la) (la + 1 + lb) (fun j => (((bg (jn za zb la) (la + 1 + lb)).getD j 0 : Nat) : Int)) (bg (jn za zb la) (la + 1 + lb)).length ((i : Int) + 1) (.string S) := by
  have e : (bg (jn za zb la) (la + 1 + lb)).getD i 0 = (bg za la).getD i 0 := by
    rw [bg_jn, List.getD_eq_getElem?_getD, List.getElem?_append_left hi, ← List.getD_eq_getElem?_getD]
  have hle := bg_get_le za la i hi
  obtain ⟨k, hk⟩ := EndAt.ex za la (la - (bg za la).getD i 0) ((bg za la).getD i 0) (by omega)
  refine ⟨e, _, TextIs.of hi rfl hle hk, ?_⟩
  have hk2 := hk.2.1
  have h2 := TextIs.of (s := fun j => (((bg (jn za zb la) (la + 1 + lb)).getD j 0 : Nat) : Int)) (n := (bg (jn za zb la) (la + 1 + lb)).length) (l := i) (by rw [bg_jn, List.length_append]; omega) (by show (((bg (jn za zb la) (la + 1 + lb)).getD i 0 : Nat) : Int) = _; rw [e]) (show (bg za la).getD i 0 ≤ la + 1 + lb by omega) (hk.left (zb := zb) (lb := lb))
  rw [cut_congr (y := za) (j := (bg za la).getD i 0) (l := k) rfl (fun d hd => jn_a (by omega))] at h2
  exact h2
/-- The texts of the second one are those of both, behind the first one's. -/
theorem text_right (za zb : Nat → Nat) (la lb k0 : Nat) (hi : k0 < (bg zb lb).length) :
    ((bg (jn za zb la) (la + 1 + lb)).getD ((bg za la).length + k0) 0 = (bg zb lb).getD k0 0 + (la + 1)) ∧ ∃ S, TextIs zb lb (fun j => (((bg zb lb).getD j 0 : Nat) : Int)) (bg zb lb).length ((k0 : Int) + 1) (.string S) ∧
      TextIs (jn za zb la) (la + 1 + lb) (fun j => (((bg (jn za zb la) (la + 1 + lb)).getD j 0 : Nat) : Int)) (bg (jn za zb la) (la + 1 + lb)).length ((((bg za la).length + k0 : Nat) : Int) + 1) (.string S) := by
  have e : (bg (jn za zb la) (la + 1 + lb)).getD ((bg za la).length + k0) 0 = (bg zb lb).getD k0 0 + (la + 1) := by
    rw [bg_jn, List.getD_eq_getElem?_getD, List.getElem?_append_right (by omega), Nat.add_sub_cancel_left, List.getElem?_map, List.getD_eq_getElem?_getD, List.getElem?_eq_getElem hi]
    rfl
  have hle := bg_get_le zb lb k0 hi
  obtain ⟨k, hk⟩ := EndAt.ex zb lb (lb - (bg zb lb).getD k0 0) ((bg zb lb).getD k0 0) (by omega)
  refine ⟨e, _, TextIs.of hi rfl hle hk, ?_⟩
  have hk2 := hk.2.1
  have h2 := TextIs.of (s := fun j => (((bg (jn za zb la) (la + 1 + lb)).getD j 0 : Nat) : Int)) (n := (bg (jn za zb la) (la + 1 + lb)).length) (l := (bg za la).length + k0) (by rw [bg_jn, List.length_append, List.length_map]; omega) (by show (((bg (jn za zb la) (la + 1 + lb)).getD ((bg za la).length + k0) 0 : Nat) : Int) = _; rw [e]) (show (bg zb lb).getD k0 0 + (la + 1) ≤ la + 1 + lb by omega) (hk.right (za := za) (la := la))
  rw [cut_congr (y := zb) (j := (bg zb lb).getD k0 0) (l := k) (by omega) (fun d hd => by rw [show (bg zb lb).getD k0 0 + (la + 1) + d = la + 1 + ((bg zb lb).getD k0 0 + d) by omega, jn_b])] at h2
  exact h2
end Go.Proofs.Yteanibapabafnaa
