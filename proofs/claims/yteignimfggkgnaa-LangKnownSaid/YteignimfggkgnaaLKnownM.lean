/-
  LangKnown's arithmetic.
-/
import Derived.Test.YteignimfggkgnaaLRefO
import Derived.Test.YteignimfggkgnaaLAllW
namespace Go.Proofs.Yteignimfggkgnaa
open Go.RowKit Go.Shelf

theorem all_len : allL.length = 17 := by decide +kernel
theorem all_rise : ∀ i, i + 1 < 17 → Op.bytesLess (allL.getD i []) (allL.getD (i + 1) []) = true := by
  have key : ∀ i, i < 16 → Op.bytesLess (allL.getD i []) (allL.getD (i + 1) []) = true := by decide +kernel
  exact fun i h => key i (by omega)
theorem all_has : ∀ r ∈ tabL, r.2 ∈ allL := by decide +kernel
theorem name_in (E : List UInt8) (h : nameL E ≠ []) : nameL E ∈ allL := by
  unfold nameL at h ⊢
  cases hf : tabL.find? (fun r => r.1 == E) with
  | none => rw [hf] at h; exact absurd rfl h
  | some r => exact all_has r (List.mem_of_find?_eq_some hf)
theorem name_nil : nameL [] = [] := by decide +kernel
theorem last_mem (L : List UInt8) : lastP (partsL L) ∈ partsL L := by
  unfold lastP
  cases h : (partsL L).getLast? with
  | none => exact absurd (List.getLast?_eq_none_iff.1 h) (parts_ne L)
  | some x => exact List.mem_of_getLast? h
/-- A language tells that a point stands in the path. -/
theorem has_point (L : List UInt8) (h : ofL L ≠ []) : (46 : UInt8) ∈ L := by
  unfold ofL at h
  rcases lastI_spec (lastP (partsL L)) with ⟨h1, _⟩ | ⟨i, _, _, h3, _⟩
  · exfalso
    apply h
    rw [show extL (lastP (partsL L)) = [] by unfold extL; rw [h1]; rfl]
    exact name_nil
  · exact part_bytes L _ _ (last_mem L) (List.mem_of_getElem? h3)
theorem index_has : ∀ (L : List UInt8) (c : UInt8), c ∈ L → 0 ≤ Lib.indexByte L c
  | b :: L, c, h => by
    unfold Lib.indexByte
    have hge := Lib.indexByte_ge L c
    by_cases hb : b = c
    · subst hb; simp
    · have hb2 : (b == c) = false := by simpa using hb
      rw [hb2]
      have h2 : c ∈ L := by
        rcases List.mem_cons.1 h with e | e
        · exact absurd e.symm hb
        · exact e
      have := index_has L c h2
      have h3 : (Lib.indexByte L c == -1) = false := by rw [beq_eq_false_iff_ne]; omega
      rw [h3]
      simp
      omega
theorem of_slash (M : List UInt8) : ofL (M ++ [47]) = [] := by
  rw [show M ++ [47] = M ++ 47 :: [] from rfl, of_join]
  decide +kernel
/-- More bytes without a slash behind a path: its last part is longer. -/
theorem parts_more : ∀ (L s : List UInt8), (∀ j, j < s.length → s[j]? ≠ some 47) → ∃ D x, partsL L = D ++ [x] ∧ partsL (L ++ s) = D ++ [x ++ s]
  | [], s, h => ⟨[], [], by simp [partsL], by rw [List.nil_append, parts_no s h]; rfl⟩
  | c :: L, s, h => by
    obtain ⟨D, x, h1, h2⟩ := parts_more L s h
    rw [List.cons_append, parts_cons, parts_cons, h1, h2]
    by_cases hc : c = 47
    · rw [if_pos hc, if_pos hc]
      exact ⟨[] :: D, x, rfl, rfl⟩
    · rw [if_neg hc, if_neg hc]
      cases D with
      | nil => exact ⟨[], c :: x, rfl, rfl⟩
      | cons d D2 => exact ⟨(c :: d) :: D2, x, rfl, rfl⟩
theorem last_more (L s : List UInt8) (h : ∀ j, j < s.length → s[j]? ≠ some 47) : lastP (partsL (L ++ s)) = lastP (partsL L) ++ s := by
  obtain ⟨D, x, h1, h2⟩ := parts_more L s h
  rw [h1, h2, lastP_push, lastP_push]
/-- The last part of a path that ends otherwise has bytes. -/
theorem last_some : ∀ (L : List UInt8) (c : UInt8), c ≠ 47 → lastP (partsL (L ++ [c])) ≠ [] := by
  intro L c hc
  rw [last_more L [c] (fun j hj => by
    have : j = 0 := by simpa using hj
    subst this
    simpa using hc)]
  simp
/-- One more point and more bytes behind a part tell these. -/
theorem ext_more (p x : List UInt8) (hp : p ≠ []) (hx : ∀ j, j < x.length → x[j]? ≠ some 46) : extL (p ++ 46 :: x) = x := by
  have hpl : 0 < p.length := List.length_pos_iff.2 hp
  rw [ext_some (a := p.length) (by omega) (by simp) (fun j h1 h2 => by
    rw [List.getElem?_append_right (by omega)]
    rw [List.length_append, List.length_cons] at h2
    obtain ⟨i, rfl⟩ : ∃ i, j = p.length + 1 + i := ⟨j - p.length - 1, by omega⟩
    rw [show p.length + 1 + i - p.length = i + 1 by omega, List.getElem?_cons_succ]
    exact hx i (by omega))]
  rw [List.drop_append]
  simp
theorem of_more (L x : List UInt8) (hl : lastP (partsL L) ≠ []) (h1 : ∀ j, j < (46 :: x).length → (46 :: x)[j]? ≠ some 47) (h2 : ∀ j, j < x.length → x[j]? ≠ some 46) : ofL (L ++ 46 :: x) = nameL x := by
  unfold ofL
  rw [last_more L (46 :: x) h1, ext_more _ _ hl h2]
theorem of_rs (L : List UInt8) (hl : lastP (partsL L) ≠ []) : ofL (L ++ [46, 114, 115]) = [114, 117, 115, 116] := by
  rw [show L ++ [46, 114, 115] = L ++ 46 :: [114, 115] from rfl, of_more L _ hl (by decide) (by decide)]
  decide +kernel
theorem of_none (L : List UInt8) (hl : lastP (partsL L) ≠ []) : ofL (L ++ [46, 110, 111, 110, 101]) = [] := by
  rw [show L ++ [46, 110, 111, 110, 101] = L ++ 46 :: [110, 111, 110, 101] from rfl, of_more L _ hl (by decide) (by decide)]
  decide +kernel
end Go.Proofs.Yteignimfggkgnaa
