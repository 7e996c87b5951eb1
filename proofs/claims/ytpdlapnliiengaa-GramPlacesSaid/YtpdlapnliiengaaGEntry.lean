/-
  An update of a map of grams by what it holds (m[k] = append(m[k], ..)): the entry is made or found, then stored.
-/
import Derived.Test.YtpdlapnliiengaaGSet
import Derived.Test.YtpdlapnliiengaaGKeys
import Derived.WideKeyEntry
namespace Go.Proofs.Ytpdlapnliiengaa
open Go.RowKit Go.Shelf

theorem entG_val (n : Nat) (l : List (Nat × Value)) (j : Nat) (x : Nat) (v : Value) (o : Value) (h : l[j]? = some (x, o)) :
    ((entG n l).toArray.modify j fun e => { e with val := v }) = (entG n (l.set j (x, v))).toArray := by
  rw [← entG_set n l j x v (x, o) h]
  apply Array.ext'
  rw [Array.toList_modify, Array.toList_modify]
  apply List.ext_getElem?
  intro i
  rw [List.getElem?_modify, List.getElem?_modify]
  by_cases e : j = i
  · subst e
    rw [entG_at, h]
    simp
  · simp [e]
theorem entG_key (n : Nat) (l : List (Nat × Value)) (j : Nat) (x : Nat) (o : Value) (h : l[j]? = some (x, o)) :
    ((entG n l).toArray.modify j fun e => { e with key := gv x }) = (entG n l).toArray := by
  apply Array.ext'
  rw [Array.toList_modify]
  apply List.ext_getElem?
  intro i
  rw [List.getElem?_modify]
  by_cases e : j = i
  · subst e
    rw [entG_at, h]
    simp
  · simp [e]
/-- The store behind a look that made room. -/
theorem MapG.store {w : World} {g : Nat} {es : List (Nat × Value)} (h : MapG w g es) {j x : Nat} {o : Value} (hj : es[j]? = some (x, o)) (t : TypeId) (v : Value) :
    ∃ w3, (Instr.entryStore t (.map (some g)) (.int .i64 (j : Int)) v).run Try.prog w = .ok () w3 ∧ MapG w3 g (es.set j (x, v)) ∧ (∀ k, k ≠ g → w3.heap[k]? = w.heap[k]?) ∧ w3.heap.size = w.heap.size ∧ ∀ B, B ≤ g → Below B w w3 := by
  have hlt := h.lt
  have hset : ∀ o : Obj, (∀ k, k ≠ g → (w.heap.setIfInBounds g o)[k]? = w.heap[k]?) ∧ (w.heap.setIfInBounds g o).size = w.heap.size ∧ (w.heap.setIfInBounds g o)[g]? = some o := fun o =>
    ⟨fun k hk => by rw [Array.getElem?_setIfInBounds, if_neg (Ne.symm hk)], by simp, by simp [hlt]⟩
  have hidx : (entG 0 es).toArray.findIdx? (fun e => ((e.born : Nat) : Int) == ((j : Nat) : Int)) = some j := by
    rw [Go.WideElems.findIdx_arr]
    have := Go.WideElems.findIdx_born (l := (entG 0 es).toArray.toList) (j := j) (e0 := { key := gv x, val := o, born := 0 + j }) (eG_nodup es) (by rw [List.toList_toArray, entG_at, hj]; rfl)
    simpa using this
  refine ⟨{ w with heap := w.heap.setIfInBounds g (.map (entG 0 (es.set j (x, v))).toArray es.length) }, ?_, ⟨?_, ?_, ?_⟩, (hset _).1, (hset _).2.1, fun B hB => ⟨rfl, rfl, rfl, by simp, fun q hq => (hset _).1 q (by omega)⟩⟩
  · rw [← entG_val 0 es j x v o hj]
    simp only [Instr.entryStore, Sem.run_bind, MapKept.run_getObj_map h.at_, Result.andThen_ok, asInt, asIntOf, Sem.run_pure, hidx, MapKept.run_setObj_map _ h.at_]
  · simpa using (hset _).2.2
  · intro p hp
    rcases List.mem_or_eq_of_mem_set hp with hp | hp
    · exact h.ok p hp
    · rw [hp]; exact h.ok (x, o) (List.mem_of_getElem? hj)
  · rw [List.map_set]
    have e : (es.map (·.1)).set j x = es.map (·.1) := by
      apply List.ext_getElem?
      intro i
      rw [List.getElem?_set]
      by_cases q : j = i
      · subst q
        rw [if_pos rfl, if_pos (by rw [List.length_map]; exact (List.getElem?_eq_some_iff.1 hj).1), List.getElem?_map, hj]
        rfl
      · rw [if_neg q]
    show ((es.map (·.1)).set j x).Nodup
    rw [e]
    exact h.nd
theorem getG_old {es : List (Nat × Value)} {x j : Nat} {u z : Value} (h : es[j]? = some (x, u)) (hf : es.findIdx? (fun p => p.1 == x) = some j) : getG es x z = u := by
  have : es.find? (fun p => p.1 == x) = some (x, u) := by
    have hj := List.getElem?_eq_some_iff.1 h
    rw [List.findIdx?_eq_some_iff_getElem] at hf
    obtain ⟨_, _, h5⟩ := hf
    rw [List.find?_eq_some_iff_getElem]
    exact ⟨by simp, j, hj.1, hj.2, fun i hi => by simpa using h5 i hi⟩
  unfold getG
  rw [this]
  rfl
theorem getG_new {es : List (Nat × Value)} {x : Nat} {z : Value} (hf : es.findIdx? (fun p => p.1 == x) = none) : getG es x z = z := by
  have : es.find? (fun p => p.1 == x) = none := List.find?_eq_none.2 fun p hp => by have := (List.findIdx?_eq_none_iff.1 hf) p hp; simpa using this
  unfold getG
  rw [this]
  rfl
/-- A look that makes room, then the store. -/
theorem MapG.entry {w : World} {g : Nat} {es : List (Nat × Value)} (h : MapG w g es) {x : Nat} (hx : Okg x) {t e : TypeId} (ht : Try.prog.underlying t = some (.map 47 e)) {z : Value} (hz : ∀ u : World, (zeroValue e).run Try.prog u = .ok z u) :
    ∃ (st : Nat) (w1 : World) (es1 : List (Nat × Value)), (Instr.mapEntry t (.map (some g)) (gv x)).run Try.prog w = .ok (.tuple #[getG es x z, .int .i64 (st : Int)]) w1 ∧ MapG w1 g es1 ∧ es1[st]? = some (x, getG es x z) ∧ (∀ v, es1.set st (x, v) = putG es x v) ∧ (∀ k, k ≠ g → w1.heap[k]? = w.heap[k]?) ∧ w1.heap.size = w.heap.size ∧ (∀ B, B ≤ g → Below B w w1) := by
  obtain ⟨l, hl⟩ := keyOfG hx
  have hc := keyedG.check w false hl
  have hks := keyedG.stays w hl
  have hlt := h.lt
  have hset : ∀ o : Obj, (∀ k, k ≠ g → (w.heap.setIfInBounds g o)[k]? = w.heap[k]?) ∧ (w.heap.setIfInBounds g o).size = w.heap.size ∧ (w.heap.setIfInBounds g o)[g]? = some o := fun o =>
    ⟨fun k hk => by rw [Array.getElem?_setIfInBounds, if_neg (Ne.symm hk)], by simp, by simp [hlt]⟩
  rcases h.find hx w with ⟨h1, h2⟩ | ⟨j, u, h1, h2, h3⟩
  · rw [getG_new h2]
    refine ⟨es.length, { w with heap := w.heap.setIfInBounds g (.map ((entG 0 es).toArray.push { key := gv x, val := z, born := es.length }) (es.length + 1)) }, es ++ [(x, z)], ?_, ⟨?_, ?_, ?_⟩, by simp, fun v => ?_, (hset _).1, (hset _).2.1, fun B hB => ⟨rfl, rfl, rfl, by simp, fun q hq => (hset _).1 q (by omega)⟩⟩
    · simp [Instr.mapEntry, run_underlying ht, MapKept.run_getObj_map h.at_, hc, h1, hz, MapKept.run_setObj_map _ h.at_, Result.andThen, goInt]
    · rw [entG_snoc, List.length_append]
      simpa using (hset _).2.2
    · intro p hp
      rcases List.mem_append.1 hp with hp | hp
      · exact h.ok p hp
      · rw [List.mem_singleton.1 hp]; exact hx
    · rw [List.map_append]
      refine List.nodup_append.2 ⟨h.nd, by simp, fun a ha b hb => ?_⟩
      obtain ⟨p, hp, rfl⟩ := List.mem_map.1 ha
      simp only [List.map_cons, List.map_nil, List.mem_singleton] at hb
      have := (List.findIdx?_eq_none_iff.1 h2) p hp
      simp only [beq_eq_false_iff_ne, ne_eq] at this
      rw [hb]; exact this
    · rw [putG_new v h2, List.set_append_right _ _ (Nat.le_refl _), Nat.sub_self]
      rfl
  · have hen : (entG 0 es).toArray[j]? = some { key := gv x, val := u, born := 0 + j } := by rw [List.getElem?_toArray, entG_at, h2]; rfl
    rw [getG_old h2 h3]
    refine ⟨j, { w with heap := w.heap.setIfInBounds g (.map (entG 0 es).toArray es.length) }, es, ?_, ⟨(hset _).2.2, h.ok, h.nd⟩, h2, fun v => (putG_old v h3).symm, (hset _).1, (hset _).2.1, fun B hB => ⟨rfl, rfl, rfl, by simp, fun q hq => (hset _).1 q (by omega)⟩⟩
    have hk2 := entG_key 0 es j x u h2
    simp only [List.getElem?_toArray] at hen
    simp [Instr.mapEntry, run_underlying ht, MapKept.run_getObj_map h.at_, hc, h1, hen, hks, MapKept.run_setObj_map _ h.at_, Result.andThen, goInt] at hk2 ⊢
    rw [hk2]
end Go.Proofs.Ytpdlapnliiengaa
