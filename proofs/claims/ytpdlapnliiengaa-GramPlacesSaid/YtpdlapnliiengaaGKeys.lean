/-
  The keys of a map of grams, in whatever order: maps.Keys and its iterator.
-/
import Derived.Test.YtpdlapnliiengaaGCmp
import Derived.Test.YtpdlapnliiengaaGRange
import Derived.Laws.IdiomRangeMap
import Derived.Maps.RangeRun
namespace Go.Proofs.Ytpdlapnliiengaa
open Go.RowKit Go.Shelf

attribute [local go_sem] Oper.semAt_some

/-- The key of the entry that was laid b-th. -/
def keyAt (es : List (Nat × Value)) (b : Nat) : Nat := ((es[b]?).map (·.1)).getD 0
theorem eG_lt {es : List (Nat × Value)} : ∀ x ∈ (entG 0 es).toArray.toList, x.born < es.length := by
  intro x hx
  rw [List.toList_toArray] at hx
  obtain ⟨j, p, h1, h2⟩ := entG_mem hx
  rw [h2]
  show 0 + j < es.length
  have := (List.getElem?_eq_some_iff.1 h1).1
  omega
theorem eG_born : ∀ (n : Nat) (l : List (Nat × Value)), (entG n l).map (·.born) = List.range' n l.length
  | n, [] => rfl
  | n, q :: l => by simp only [entG, List.map_cons, eG_born (n + 1) l, List.length_cons, List.range'_succ]
theorem eG_nodup (es : List (Nat × Value)) : ((entG 0 es).toArray.toList.map (·.born)).Nodup := by
  rw [List.toList_toArray, eG_born]
  exact List.nodup_range'
theorem gleft_mem {es : List (Nat × Value)} {seen : Array Nat} {e : MapEntry} (h : e ∈ (leftOf (entG 0 es).toArray seen).toList) :
    e ∈ (entG 0 es).toArray.toList ∧ e.born < es.length ∧ e.born ∉ seen.toList ∧ e.key = gv (keyAt es e.born) ∧ keyAt es e.born ∈ es.map (·.1) := by
  unfold leftOf at h
  rw [Array.toList_filter, List.mem_filter] at h
  obtain ⟨h1, h2⟩ := h
  refine ⟨h1, eG_lt e h1, by simpa using h2, ?_⟩
  rw [List.toList_toArray] at h1
  obtain ⟨i, r, h3, h4⟩ := entG_mem h1
  rw [h4]
  show gv r.1 = gv (keyAt es (0 + i)) ∧ keyAt es (0 + i) ∈ es.map (·.1)
  unfold keyAt
  rw [Nat.zero_add, h3]
  exact ⟨rfl, List.mem_map.2 ⟨r, List.mem_iff_getElem?.2 ⟨i, h3⟩, rfl⟩⟩
theorem gleft_less {es : List (Nat × Value)} {seen : Array Nat} {e : MapEntry} (h : e ∈ (leftOf (entG 0 es).toArray seen).toList) : (leftOf (entG 0 es).toArray (seen.push e.born)).size < (leftOf (entG 0 es).toArray seen).size := by
  unfold leftOf at h ⊢
  show (Array.filter (fun x => !(seen.push e.born).contains x.born) (entG 0 es).toArray).toList.length < (Array.filter (fun x => !seen.contains x.born) (entG 0 es).toArray).toList.length
  rw [Array.toList_filter, Array.toList_filter]
  have e1 : (entG 0 es).toArray.toList.filter (fun x => !(seen.push e.born).contains x.born) = ((entG 0 es).toArray.toList.filter (fun x => !seen.contains x.born)).filter (fun x => x.born != e.born) := by
    rw [List.filter_filter]
    apply List.filter_congr
    intro x _
    simp only [Array.contains_push]
    cases seen.contains x.born <;> simp [bne, Bool.beq_comm]
  rw [e1, List.length_filter_lt_length_iff_exists]
  rw [Array.toList_filter] at h
  exact ⟨e, h, by simp⟩
theorem gleft_none {es : List (Nat × Value)} {seen : Array Nat} (h : (leftOf (entG 0 es).toArray seen).size = 0) : ∀ b, b < es.length → b ∈ seen.toList := by
  intro b hb
  have hg : es[b]? = some (es[b]'hb) := List.getElem?_eq_getElem hb
  have hmk : ({ key := gv (es[b]'hb).1, val := (es[b]'hb).2, born := b } : MapEntry) ∈ entG 0 es := List.mem_iff_getElem?.2 ⟨b, by rw [entG_at, hg, Nat.zero_add]; rfl⟩
  by_cases hc : b ∈ seen.toList
  · exact hc
  · exfalso
    have : ({ key := gv (es[b]'hb).1, val := (es[b]'hb).2, born := b } : MapEntry) ∈ (leftOf (entG 0 es).toArray seen).toList := by
      unfold leftOf
      rw [Array.toList_filter, List.mem_filter]
      exact ⟨by rw [List.toList_toArray]; exact hmk, by simpa using hc⟩
    rw [← Array.length_toList] at h
    rw [List.eq_nil_of_length_eq_zero h] at this
    cases this
theorem gperm {es : List (Nat × Value)} {s : List Nat} (hn : s.Nodup) (hl : ∀ b ∈ s, b < es.length) (ha : ∀ b, b < es.length → b ∈ s) : (s.map (keyAt es)).Perm (es.map (·.1)) := by
  have hp : s.Perm (List.range es.length) := (List.perm_ext_iff_of_nodup hn List.nodup_range).2 fun b => ⟨fun h => List.mem_range.2 (hl b h), fun h => ha b (List.mem_range.1 h)⟩
  have h := hp.map (keyAt es)
  have e : (List.range es.length).map (keyAt es) = es.map (·.1) := by
    apply List.ext_getElem?
    intro i
    rw [List.getElem?_map, List.getElem?_map]
    rcases Nat.lt_or_ge i es.length with h | h
    · rw [List.getElem?_range h]
      simp [keyAt, h]
    · rw [List.getElem?_eq_none (by simpa using h), List.getElem?_eq_none h]
      rfl
  rwa [e] at h

def encK (x : Nat) : Array Value := #[gv x]
/-- What is known at a round, at the ends. -/
def GKey (es : List (Nat × Value)) (N : Nat) (pre : List Nat) (A : World) (x : Nat) (B : World) : Prop := Still N A B ∧ x ∈ es.map (·.1) ∧ pre.length < es.length
def SKey (es : List (Nat × Value)) (N : Nat) (xs : List Nat) (A B : World) : Prop := Still N A B ∧ xs.Perm (es.map (·.1))
def SpKey (N : Nat) (_ : List Nat) (A B : World) : Prop := Still N A B

theorem grange_run {t e : TypeId} (ht : Try.prog.underlying t = some (.map 47 e)) (w : World) (g : Nat) (es : List (Nat × Value)) (h : MapG w g es) :
    (Instr.range t (.map (some g))).run Try.prog w = .ok (.pointer (some ⟨w.heap.size, 0, none⟩)) (w.alloc (.mapIter (some g) es.length #[] es.length)) := by
  simp [Instr.range, run_underlying ht, MapKept.run_getObj_map h.at_, Result.andThen]
end Go.Proofs.Ytpdlapnliiengaa
