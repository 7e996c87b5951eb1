/-
  A row of grams behind the sort: the same slice owns the sorted row.
-/
import Derived.Test.YtpdlapnliiengaaGreatGColls
import Derived.Sort.OwnSorted
namespace Go.Proofs.YtpdlapnliiengaaGreat
open Go.RowKit Go.Shelf Go.Lib Go.Sort

theorem gcl_q : ∀ (l : List G24) (t : Nat), t < l.length * 3 → (gcl (l.map (·.val)))[t]? = some ((ge l[t / 3]!)[t % 3]!)
  | [], t, h => by simp at h
  | x :: r, t, h => by
    have e : gcl ((x :: r).map (·.val)) = gl x.val ++ gcl (r.map (·.val)) := by simp [gcl]
    rw [e]
    match t, h with
    | 0, _ => rfl
    | 1, _ => rfl
    | 2, _ => rfl
    | s + 3, h =>
      have hl : (gl x.val).length = 3 := rfl
      rw [List.getElem?_append_right (by rw [hl]; omega), hl, show s + 3 - 3 = s by omega, show (s + 3) / 3 = s / 3 + 1 by omega, show (s + 3) % 3 = s % 3 by omega, gcl_q r s (by simp only [List.length_cons] at h; omega)]
      simp
theorem gcl_len (l : List Nat) : (gcl l).length = l.length * 3 := by
  induction l with
  | nil => rfl
  | cons x r ih =>
    have e : gcl (x :: r) = gl x ++ gcl r := by simp [gcl]
    rw [e, List.length_append, ih]
    show 3 + r.length * 3 = (r.length + 1) * 3
    omega
theorem gcl_flat (l : List G24) : flatK ge 3 l.toArray = (gcl (l.map (·.val))).toArray := by
  apply Array.ext'
  apply List.ext_getElem?
  intro t
  rcases Nat.lt_or_ge t (l.length * 3) with h | h
  · rw [gcl_q l t h]
    simp [flatK, h]
  · rw [List.getElem?_eq_none (by simpa [flatK] using h), List.getElem?_eq_none (by show (gcl (l.map (·.val))).length ≤ t; rw [gcl_len, List.length_map]; exact h)]

theorem gholds {w : World} {g : Nat} {cur : Array Value} {e : TypeId} {l : List G24} (hb : w.heap[g]? = some (.cells cur e (0, 0))) (ht : cur.toList.take (l.length * 3) = gcl (l.map (·.val))) : HoldsK ge 3 w g 0 l.toArray := by
  unfold HoldsK
  rw [gcl_flat]
  intro j hj
  have hj' : j < l.length * 3 := by simpa [gcl_len] using hj
  refine ⟨?_, by simp [World.frozen?, hb]⟩
  have h1 : (cur.toList.take (l.length * 3))[j]? = (gcl (l.map (·.val)))[j]? := by rw [ht]
  rw [List.getElem?_take_of_lt hj'] at h1
  simp only [World.cell?, hb, Nat.zero_add]
  simp only [Option.isSome_none, Bool.false_eq_true, if_false]
  rw [← Array.getElem?_toList, h1]
  simp [gcl_len, hj']
theorem gtake (cur : Array Value) (F : List Value) (h : F.length ≤ cur.size) : (putCells id 0 F.toArray cur).toList.take F.length = F := by
  apply List.ext_getElem?
  intro j
  by_cases hj : j < F.length
  · rw [List.getElem?_take_of_lt hj, Array.getElem?_toList]
    simp [putCells, hj, show j < cur.size by omega]
  · rw [List.getElem?_take_eq_none (by omega), List.getElem?_eq_none (by omega)]
theorem gsorted_heap {w : World} {g n : Nat} {os : Array Obj} {cur : Array Value} {e : TypeId} (l : List G24) (hb : w.heap[g]? = some (.cells cur e (0, 0))) :
    (sortWorldK ge 3 w g 0 n l.toArray os).heap[g]? = some (.cells (putCells id 0 (gcl (l.map (·.val))).toArray cur) e (0, 0)) := by
  have hg : g < w.heap.size := (Array.getElem?_eq_some_iff.1 hb).1
  unfold sortWorldK putRowK
  rw [gcl_flat, heap_grow_old _ _ (by simpa using hg)]
  simp [putRow, mapBlock, Sort.ahead, Array.getElem?_modify, hb, onCells]
theorem gsorted_grown {w : World} {g n : Nat} {os : Array Obj} (l : List G24) : w.grownBy (sortWorldK ge 3 w g 0 n l.toArray os) (some g) := by
  refine ⟨rfl, rfl, rfl, by simp [sortWorldK, putRowK], fun k hk hne => ?_⟩
  unfold sortWorldK putRowK
  rw [heap_grow_old _ _ (by simpa using hk)]
  have : g ≠ k := fun e => hne (by rw [e])
  simp [putRow, mapBlock, Sort.ahead, Array.getElem?_modify, this]
/-- Behind the sort. -/
theorem gown_sorted {w : World} {base g cap n : Nat} {e : TypeId} {os : Array Obj} {cur : Array Value} {l : List G24} {m : Nat} (hl : l.length = m) (hbase : base ≤ g) (hb : w.heap[g]? = some (.cells cur e (0, 0)))
    (h1 : m ≤ cap) (h2 : cap ≤ maxLen) (h3 : cur.size = cap * 3) :
    (sortWorldK ge 3 w g 0 n l.toArray os).ownsRow base e 3 (.slice (some ⟨g, 0, none⟩) m cap) m (gcl (l.map (·.val))) := by
  subst hl
  have hlen : (gcl (l.map (·.val))).length = l.length * 3 := by rw [gcl_len, List.length_map]
  refine ⟨hlen, .inr ⟨g, cap, _, rfl, hbase, gsorted_heap l hb, h1, h2, by simp [putCells, h3], ?_⟩⟩
  rw [← hlen]
  exact gtake cur _ (by rw [hlen, h3]; exact Nat.mul_le_mul_right 3 h1)
end Go.Proofs.YtpdlapnliiengaaGreat
