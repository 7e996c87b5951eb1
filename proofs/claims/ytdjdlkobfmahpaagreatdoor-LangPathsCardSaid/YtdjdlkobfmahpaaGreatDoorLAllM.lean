/-
  lang.All: the map's entries, gone through in any order; the names, sorted.
-/
import Derived.Test.YtdjdlkobfmahpaaGreatDoorLLang
import Derived.Laws.IdiomRangeMap
import Derived.Maps.RangeRun
namespace Go.Proofs.YtdjdlkobfmahpaaGreatDoor
open Go.RowKit Go.Shelf

/-- The language of the row that was laid b-th. -/
def nameAt (b : Nat) : List UInt8 := (tabL.getD b ([], [])).2
theorem ents_mem : ∀ (l : List (List UInt8 × List UInt8)) (k : Nat) (e : MapEntry), e ∈ entsFrom k l → ∃ i r, l[i]? = some r ∧ e = { key := by8 r.1, val := .agg #[by8 r.2], born := k + i }
  | [], k, e, h => by cases h
  | q :: l, k, e, h => by
    rcases List.mem_cons.1 h with rfl | h
    · exact ⟨0, q, rfl, rfl⟩
    · obtain ⟨i, r, h1, h2⟩ := ents_mem l (k + 1) e h
      exact ⟨i + 1, r, by simpa using h1, by rw [h2, show k + 1 + i = k + (i + 1) by omega]⟩
theorem ents_mk : ∀ (l : List (List UInt8 × List UInt8)) (k i : Nat) (r : List UInt8 × List UInt8), l[i]? = some r → ({ key := by8 r.1, val := .agg #[by8 r.2], born := k + i } : MapEntry) ∈ entsFrom k l
  | q :: l, k, 0, r, h => by
    obtain rfl := Option.some.inj h
    exact List.mem_cons_self
  | q :: l, k, i + 1, r, h => by
    have := ents_mk l (k + 1) i r (by simpa using h)
    rw [show k + 1 + i = k + (i + 1) by omega] at this
    exact List.mem_cons_of_mem _ this
theorem ents_born : ∀ (l : List (List UInt8 × List UInt8)) (k : Nat), (entsFrom k l).map (·.born) = List.range' k l.length
  | [], k => rfl
  | q :: l, k => by simp only [entsFrom, List.map_cons, ents_born l (k + 1), List.length_cons, List.range'_succ]
theorem ents_nodup : ((entsFrom 0 tabL).toArray.toList.map (·.born)).Nodup := by
  rw [List.toList_toArray, ents_born]
  exact List.nodup_range'
theorem ents_lt : ∀ x ∈ (entsFrom 0 tabL).toArray.toList, x.born < 22 := by
  intro x hx
  rw [List.toList_toArray] at hx
  obtain ⟨i, r, h1, h2⟩ := ents_mem _ _ _ hx
  have := (List.getElem?_eq_some_iff.1 h1).1
  rw [h2]
  show 0 + i < 22
  have h22 : tabL.length = 22 := rfl
  omega
/-- What is left, of any entry the number and the name. -/
theorem left_mem {seen : Array Nat} {e : MapEntry} (h : e ∈ (leftOf (entsFrom 0 tabL).toArray seen).toList) : e ∈ (entsFrom 0 tabL).toArray.toList ∧ e.born < 22 ∧ e.born ∉ seen.toList ∧ e.val = .agg #[by8 (nameAt e.born)] := by
  unfold leftOf at h
  rw [Array.toList_filter, List.mem_filter] at h
  obtain ⟨h1, h2⟩ := h
  refine ⟨h1, ents_lt e h1, by simpa using h2, ?_⟩
  rw [List.toList_toArray] at h1
  obtain ⟨i, r, h3, h4⟩ := ents_mem _ _ _ h1
  rw [h4]
  show Value.agg #[by8 r.2] = .agg #[by8 (nameAt (0 + i))]
  unfold nameAt
  rw [List.getD_eq_getElem?_getD, Nat.zero_add, h3]
  rfl
theorem left_less {seen : Array Nat} {e : MapEntry} (h : e ∈ (leftOf (entsFrom 0 tabL).toArray seen).toList) : (leftOf (entsFrom 0 tabL).toArray (seen.push e.born)).size < (leftOf (entsFrom 0 tabL).toArray seen).size := by
  have hm := h
  unfold leftOf at h ⊢
  show (Array.filter (fun x => !(seen.push e.born).contains x.born) (entsFrom 0 tabL).toArray).toList.length < (Array.filter (fun x => !seen.contains x.born) (entsFrom 0 tabL).toArray).toList.length
  rw [Array.toList_filter, Array.toList_filter]
  have e1 : (entsFrom 0 tabL).toArray.toList.filter (fun x => !(seen.push e.born).contains x.born) = ((entsFrom 0 tabL).toArray.toList.filter (fun x => !seen.contains x.born)).filter (fun x => x.born != e.born) := by
    rw [List.filter_filter]
    apply List.filter_congr
    intro x _
    simp only [Array.contains_push]
    cases seen.contains x.born <;> simp [bne, Bool.beq_comm]
  rw [e1, List.length_filter_lt_length_iff_exists]
  rw [Array.toList_filter] at h
  exact ⟨e, h, by simp⟩
theorem left_none {seen : Array Nat} (h : (leftOf (entsFrom 0 tabL).toArray seen).size = 0) : ∀ b, b < 22 → b ∈ seen.toList := by
  intro b hb
  have h22 : tabL.length = 22 := rfl
  have hg : tabL[b]? = some (tabL[b]'(by omega)) := List.getElem?_eq_getElem (by omega)
  have hmk := ents_mk tabL 0 b _ hg
  rw [Nat.zero_add] at hmk
  by_cases hc : b ∈ seen.toList
  · exact hc
  · exfalso
    have : ({ key := by8 (tabL[b]'(by omega)).1, val := .agg #[by8 (tabL[b]'(by omega)).2], born := b } : MapEntry) ∈ (leftOf (entsFrom 0 tabL).toArray seen).toList := by
      unfold leftOf
      rw [Array.toList_filter, List.mem_filter]
      exact ⟨by rw [List.toList_toArray]; exact hmk, by simpa using hc⟩
    rw [← Array.length_toList] at h
    rw [List.eq_nil_of_length_eq_zero h] at this
    cases this
/-- All languages, rising, each once. -/
def allL : List (List UInt8) := Lib.compact (tabL.map (·.2))
theorem sort_names {s : List Nat} (hn : s.Nodup) (hl : ∀ b ∈ s, b < 22) (ha : ∀ b, b < 22 → b ∈ s) : (s.map nameAt).mergeSort (fun x y => decide (x ≤ y)) = tabL.map (·.2) := by
  have hp : s.Perm (List.range 22) := (List.perm_ext_iff_of_nodup hn List.nodup_range).2 fun b => ⟨fun h => List.mem_range.2 (hl b h), fun h => ha b (List.mem_range.1 h)⟩
  have hp2 : (s.map nameAt).Perm (tabL.map (·.2)) := by
    have h := hp.map nameAt
    rwa [show (List.range 22).map nameAt = tabL.map (·.2) from rfl] at h
  have tr : ∀ a b c : List UInt8, decide (a ≤ b) = true → decide (b ≤ c) = true → decide (a ≤ c) = true := fun a b c h k => decide_eq_true (List.le_trans (of_decide_eq_true h) (of_decide_eq_true k))
  have tot : ∀ a b : List UInt8, (decide (a ≤ b) || decide (b ≤ a)) = true := fun a b => by
    rcases List.le_total a b with h | h
    · simp [h]
    · simp [h]
  refine List.Perm.eq_of_pairwise (le := fun a b => decide (a ≤ b) = true) (fun a b _ _ h1 h2 => List.le_antisymm (of_decide_eq_true h1) (of_decide_eq_true h2)) (List.pairwise_mergeSort tr tot _) (by decide +kernel) ?_
  exact (List.mergeSort_perm _ _).trans hp2
end Go.Proofs.YtdjdlkobfmahpaaGreatDoor
