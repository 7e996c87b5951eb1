/-
  The grams of a text, each once, rising; the places of each.
-/
import Derived.Test.YtpdlapnliiengaaGreatGRises
import Derived.Test.YtpdlapnliiengaaGreatGKeyAll
import Derived.WideKeyEntry
namespace Go.Proofs.YtpdlapnliiengaaGreat
open Go.RowKit Go.Shelf Go.Lib Go.Sort

/-- The entries when the places of a list have been gone through. -/
def esL (z : Nat → Nat) (l : List Nat) : List (Nat × Value) := l.foldl (fun es i => putG es (gN z i) (.agg #[])) []
theorem esL_snoc (z : Nat → Nat) (l : List Nat) (i : Nat) : esL z (l ++ [i]) = putG (esL z l) (gN z i) (.agg #[]) := by simp [esL]
theorem putG_len (es : List (Nat × Value)) (x : Nat) (v : Value) : (putG es x v).length ≤ es.length + 1 := by
  unfold putG
  split
  · rw [List.length_set]; omega
  · simp
theorem esF_len (z : Nat → Nat) : ∀ (l : List Nat) (es : List (Nat × Value)), (l.foldl (fun es i => putG es (gN z i) (.agg #[])) es).length ≤ es.length + l.length
  | [], es => Nat.le_refl _
  | i :: l, es => by
    have h := esF_len z l (putG es (gN z i) (.agg #[]))
    have k := putG_len es (gN z i) (.agg #[])
    simp only [List.foldl_cons, List.length_cons]
    omega
theorem esL_len (z : Nat → Nat) (l : List Nat) : (esL z l).length ≤ l.length := by
  have h := esF_len z l []
  rw [List.length_nil, Nat.zero_add] at h
  exact h
theorem asc_eq : ∀ {l m : List Nat}, l.Pairwise (· < ·) → m.Pairwise (· < ·) → (∀ x, x ∈ l ↔ x ∈ m) → l = m
  | [], [], _, _, _ => rfl
  | [], b :: m, _, _, h => absurd ((h b).2 List.mem_cons_self) (by simp)
  | a :: l, [], _, _, h => absurd ((h a).1 List.mem_cons_self) (by simp)
  | a :: l, b :: m, hl, hm, h => by
    rw [List.pairwise_cons] at hl hm
    have e : a = b := by
      rcases List.mem_cons.1 ((h a).1 List.mem_cons_self) with e | e
      · exact e
      · rcases List.mem_cons.1 ((h b).2 List.mem_cons_self) with k | k
        · exact k.symm
        · have := hm.1 a e
          have := hl.1 b k
          omega
    subst e
    congr 1
    refine asc_eq hl.2 hm.2 fun x => ⟨fun hx => ?_, fun hx => ?_⟩
    · have := hl.1 x hx
      rcases List.mem_cons.1 ((h x).1 (List.mem_cons_of_mem _ hx)) with k | k
      · omega
      · exact k
    · have := hm.1 x hx
      rcases List.mem_cons.1 ((h x).2 (List.mem_cons_of_mem _ hx)) with k | k
      · omega
      · exact k
theorem le_iffG (a b : G24) : (!(ltOf cfG) b a) = decide (a.val ≤ b.val) := by rw [ltG]; by_cases h : b.val < a.val <;> simp [h] <;> omega
theorem sortK_mem {es : List (Nat × Value)} (hok : ∀ p ∈ es, Okg p.1) (x : Nat) : x ∈ sortK es ↔ x ∈ es.map (·.1) := by
  unfold sortK
  simp only [List.mem_map, List.mem_mergeSort]
  constructor
  · rintro ⟨a, ⟨p, hp, rfl⟩, rfl⟩
    exact ⟨p, hp, (Nat.mod_eq_of_lt (hok p hp)).symm⟩
  · rintro ⟨p, hp, rfl⟩
    exact ⟨_, ⟨p, hp, rfl⟩, Nat.mod_eq_of_lt (hok p hp)⟩
theorem sortK_asc {es : List (Nat × Value)} (hok : ∀ p ∈ es, Okg p.1) (hn : (es.map (·.1)).Nodup) : (sortK es).Pairwise (· < ·) := by
  have tr : ∀ a b c : G24, (!(ltOf cfG) b a) = true → (!(ltOf cfG) c b) = true → (!(ltOf cfG) c a) = true := fun a b c h k => by rw [le_iffG, decide_eq_true_eq] at *; omega
  have tot : ∀ a b : G24, ((!(ltOf cfG) b a) || (!(ltOf cfG) a b)) = true := fun a b => by rw [le_iffG, le_iffG, Bool.or_eq_true, decide_eq_true_eq, decide_eq_true_eq]; omega
  have hle : (sortK es).Pairwise (· ≤ ·) := by
    unfold sortK
    rw [List.pairwise_map]
    exact (List.pairwise_mergeSort tr tot _).imp fun h => by rw [le_iffG, decide_eq_true_eq] at h; exact h
  have hnd : (sortK es).Nodup := by
    have hp : (sortK es).Perm (es.map (·.1)) := by
      unfold sortK
      refine ((List.mergeSort_perm _ _).map _).trans ?_
      rw [List.map_map]
      refine .of_eq (List.map_congr_left fun p hp => ?_)
      exact Nat.mod_eq_of_lt (hok p hp)
    exact hp.nodup_iff.2 hn
  exact (hle.and hnd).imp fun ⟨h1, h2⟩ => by omega

/-- The keys, in the order in which they come. -/
def putK (ks : List Nat) (x : Nat) : List Nat := if x ∈ ks then ks else ks ++ [x]
def ksL (z : Nat → Nat) (l : List Nat) : List Nat := l.foldl (fun ks i => putK ks (gN z i)) []
theorem ksL_snoc (z : Nat → Nat) (l : List Nat) (i : Nat) : ksL z (l ++ [i]) = putK (ksL z l) (gN z i) := by simp [ksL]
theorem putK_mem (ks : List Nat) (x y : Nat) : y ∈ putK ks x ↔ y ∈ ks ∨ y = x := by
  unfold putK
  split
  · exact ⟨.inl, fun h => h.elim id fun e => e ▸ ‹_›⟩
  · simp
theorem putK_nd {ks : List Nat} (x : Nat) (h : ks.Nodup) : (putK ks x).Nodup := by
  unfold putK
  split
  · exact h
  · exact List.nodup_append.2 ⟨h, by simp, fun a ha b hb e => by simp only [List.mem_singleton] at hb; subst hb e; exact absurd ha ‹_›⟩
theorem ksF_mem (z : Nat → Nat) : ∀ (l ks : List Nat) (y : Nat), y ∈ l.foldl (fun ks i => putK ks (gN z i)) ks ↔ y ∈ ks ∨ ∃ i ∈ l, gN z i = y
  | [], ks, y => by simp
  | i :: l, ks, y => by
    rw [List.foldl_cons, ksF_mem z l, putK_mem]
    constructor
    · rintro ((h | h) | ⟨j, hj, h⟩)
      · exact .inl h
      · exact .inr ⟨i, List.mem_cons_self, h.symm⟩
      · exact .inr ⟨j, List.mem_cons_of_mem _ hj, h⟩
    · rintro (h | ⟨j, hj, h⟩)
      · exact .inl (.inl h)
      · rcases List.mem_cons.1 hj with rfl | hj
        · exact .inl (.inr h.symm)
        · exact .inr ⟨j, hj, h⟩
theorem ksL_mem (z : Nat → Nat) (l : List Nat) (y : Nat) : y ∈ ksL z l ↔ ∃ i ∈ l, gN z i = y := by
  unfold ksL
  rw [ksF_mem]
  simp
theorem ksF_nd (z : Nat → Nat) : ∀ (l ks : List Nat), ks.Nodup → (l.foldl (fun ks i => putK ks (gN z i)) ks).Nodup
  | [], _, h => h
  | _ :: l, _, h => ksF_nd z l _ (putK_nd _ h)
theorem ksL_nd (z : Nat → Nat) (l : List Nat) : (ksL z l).Nodup := ksF_nd z l [] (by simp)
theorem find_key (es : List (Nat × Value)) (x : Nat) : es.findIdx? (fun p => p.1 == x) = none ↔ x ∉ es.map (·.1) := by
  rw [List.findIdx?_eq_none_iff]
  simp only [beq_eq_false_iff_ne, ne_eq, List.mem_map, not_exists, not_and]
theorem putG_keys (es : List (Nat × Value)) (x : Nat) (v : Value) : (putG es x v).map (·.1) = putK (es.map (·.1)) x := by
  cases h : es.findIdx? (fun p => p.1 == x) with
  | none =>
    rw [putG_new v h, putK, if_neg ((find_key es x).1 h)]
    simp
  | some j =>
    have hx : x ∈ es.map (·.1) := by
      refine Decidable.byContradiction fun hn => ?_
      rw [(find_key es x).2 hn] at h
      cases h
    rw [putG_old v h, putK, if_pos hx, List.map_set]
    rw [List.findIdx?_eq_some_iff_getElem] at h
    obtain ⟨h1, h2, _⟩ := h
    have e : es[j].1 = x := by simpa using h2
    apply List.ext_getElem?
    intro i
    rw [List.getElem?_set]
    by_cases q : j = i
    · subst q
      rw [if_pos rfl, if_pos (by rw [List.length_map]; exact h1), List.getElem?_map, List.getElem?_eq_getElem h1]
      show some x = some es[j].1
      rw [e]
    · rw [if_neg q]
theorem esL_keys (z : Nat → Nat) (l : List Nat) : (esL z l).map (·.1) = ksL z l := by
  have h : ∀ (l : List Nat) (es : List (Nat × Value)), (l.foldl (fun es i => putG es (gN z i) (.agg #[])) es).map (·.1) = l.foldl (fun ks i => putK ks (gN z i)) (es.map (·.1)) := by
    intro l
    induction l with
    | nil => intro es; rfl
    | cons i l ih => intro es; rw [List.foldl_cons, List.foldl_cons, ih, putG_keys]
  exact h l []

/-- All grams at places below m, each once, rising. -/
def gset (z : Nat → Nat) (m : Nat) : List Nat := sortK (esL z (List.range m))
theorem sortK_keys {es es' : List (Nat × Value)} (h : es.map (·.1) = es'.map (·.1)) : sortK es = sortK es' := by
  have e : ∀ es : List (Nat × Value), es.map (fun p => Fin.ofNat 16777216 p.1) = (es.map (·.1)).map (Fin.ofNat 16777216) := fun es => by rw [List.map_map]; rfl
  unfold sortK
  rw [e es, e es', h]
theorem ok_of_keys {z : Nat → Nat} (hz : ∀ i, z i < 256) {es : List (Nat × Value)} {l : List Nat} (h : es.map (·.1) = ksL z l) : ∀ p ∈ es, Okg p.1 := fun p hp => by
  have : p.1 ∈ ksL z l := by rw [← h]; exact List.mem_map.2 ⟨p, hp, rfl⟩
  obtain ⟨i, _, e⟩ := (ksL_mem z l _).1 this
  rw [← e]
  exact gN_ok hz i
theorem gset_mem {z : Nat → Nat} (hz : ∀ i, z i < 256) (m x : Nat) : x ∈ gset z m ↔ ∃ i, i < m ∧ gN z i = x := by
  unfold gset
  rw [sortK_mem (ok_of_keys hz (esL_keys z _)), esL_keys, ksL_mem]
  simp
theorem gset_asc {z : Nat → Nat} (hz : ∀ i, z i < 256) (m : Nat) : (gset z m).Pairwise (· < ·) := sortK_asc (ok_of_keys hz (esL_keys z _)) (by rw [esL_keys]; exact ksL_nd z _)
theorem gset_of_keys {z : Nat → Nat} {es : List (Nat × Value)} {m : Nat} (h : es.map (·.1) = ksL z (List.range m)) : sortK es = gset z m := sortK_keys (h.trans (esL_keys z _).symm)
theorem gset_len (z : Nat → Nat) (m : Nat) : (gset z m).length ≤ m := by
  unfold gset
  rw [sortK_len]
  have := esL_len z (List.range m)
  rwa [List.length_range] at this
/-- The places of a gram among those gone through. -/
def plL (z : Nat → Nat) (l : List Nat) (g : Nat) : List Nat := l.filter fun i => gN z i == g
theorem plL_snoc (z : Nat → Nat) (l : List Nat) (i g : Nat) : plL z (l ++ [i]) g = if gN z i = g then plL z l g ++ [i] else plL z l g := by
  unfold plL
  rw [List.filter_append]
  by_cases h : gN z i = g <;> simp [h]
theorem plL_none {z : Nat → Nat} {l : List Nat} {g : Nat} (h : g ∉ ksL z l) : plL z l g = [] := by
  refine List.filter_eq_nil_iff.2 fun i hi e => h ((ksL_mem z l g).2 ⟨i, hi, by simpa using e⟩)
theorem gcl_get : ∀ (l : List Nat) (k j : Nat), k < l.length → j < 3 → (gcl l)[k * 3 + j]? = (gl (l.getD k 0))[j]?
  | [], k, j, h, _ => by simp at h
  | x :: r, 0, j, h, hj => by
    have e : gcl (x :: r) = gl x ++ gcl r := by simp [gcl]
    rw [e, List.getElem?_append_left (by show 0 * 3 + j < 3; omega), Nat.zero_mul, Nat.zero_add]
    rfl
  | x :: r, k + 1, j, h, hj => by
    have e : gcl (x :: r) = gl x ++ gcl r := by simp [gcl]
    have hl : (gl x).length = 3 := rfl
    rw [e, List.getElem?_append_right (by rw [hl]; omega), hl, show (k + 1) * 3 + j - 3 = k * 3 + j by omega, gcl_get r k j (by simp only [List.length_cons] at h; omega) hj]
    rfl
/-- A gram of a row. -/
theorem row_gcl {w : World} {B n c : Nat} {a : Option Addr} {ks : List Nat} (h : w.ownsRow B 51 3 (.slice a n c) n (gcl ks)) (hn : ks.length = n) {k : Nat} (hk : k < n) :
    ∃ g, a = some ⟨g, 0, none⟩ ∧ n ≤ c ∧ c ≤ 9223372036854775807 ∧ (w.cell? ⟨g, k * 3, none⟩ = some (.int .u8 ((ks.getD k 0 / 65536 : Nat) : Int)) ∧ w.cell? ⟨g, k * 3 + 1, none⟩ = some (.int .u8 ((ks.getD k 0 / 256 % 256 : Nat) : Int)) ∧ w.cell? ⟨g, k * 3 + 2, none⟩ = some (.int .u8 ((ks.getD k 0 % 256 : Nat) : Int))) := by
  have hc : ∀ j, j < 3 → (gcl ks)[k * 3 + j]? = (gl (ks.getD k 0))[j]? := fun j hj => gcl_get ks k j (by omega) hj
  obtain ⟨b, C, e, h0, _, h1, h2⟩ := owns_cellS h (hc 0 (by omega))
  cases e
  obtain ⟨b1, C1, e1, k1, _⟩ := owns_cellS h (hc 1 (by omega))
  cases e1
  obtain ⟨b2, C2, e2, k2, _⟩ := owns_cellS h (hc 2 (by omega))
  cases e2
  exact ⟨b, rfl, h1, h2, h0, k1, k2⟩
end Go.Proofs.YtpdlapnliiengaaGreat

/-
  An update of a map of grams by what it holds (m[k] = append(m[k], ..)): the entry is made or found, then stored.
-/
namespace Go.Proofs.YtpdlapnliiengaaGreat
open Go.RowKit Go.Shelf

theorem entG_val (n : Nat) (l : List (Nat × Value)) (j : Nat) (x : Nat) (v : Value) (o : Value) (h : l[j]? = some (x, o)) :
    ((entG n l).toArray.modify j fun e => { e with val := v }) = (entG n (l.set j (x, v))).toArray := by
  rw [← entG_set n l j x v (x, o) h]
  apply Array.ext'
  rw [Array.toList_modify, Array.toList_modify]
  apply List.ext_getElem?
  intro i
  rw [List.getElem?_modify, List.getElem?_modify]
  by_cases e : j = i
  · subst e
    rw [entG_at, h]
    simp
  · simp [e]
theorem entG_key (n : Nat) (l : List (Nat × Value)) (j : Nat) (x : Nat) (o : Value) (h : l[j]? = some (x, o)) :
    ((entG n l).toArray.modify j fun e => { e with key := gv x }) = (entG n l).toArray := by
  apply Array.ext'
  rw [Array.toList_modify]
  apply List.ext_getElem?
  intro i
  rw [List.getElem?_modify]
  by_cases e : j = i
  · subst e
    rw [entG_at, h]
    simp
  · simp [e]
/-- The store behind a look that made room. -/
theorem MapG.store {w : World} {g : Nat} {es : List (Nat × Value)} (h : MapG w g es) {j x : Nat} {o : Value} (hj : es[j]? = some (x, o)) (t : TypeId) (v : Value) :
    ∃ w3, (Instr.entryStore t (.map (some g)) (.int .i64 (j : Int)) v).run Tryz.prog w = .ok () w3 ∧ MapG w3 g (es.set j (x, v)) ∧ (∀ k, k ≠ g → w3.heap[k]? = w.heap[k]?) ∧ w3.heap.size = w.heap.size ∧ ∀ B, B ≤ g → Below B w w3 := by
  have hlt := h.lt
  have hset : ∀ o : Obj, (∀ k, k ≠ g → (w.heap.setIfInBounds g o)[k]? = w.heap[k]?) ∧ (w.heap.setIfInBounds g o).size = w.heap.size ∧ (w.heap.setIfInBounds g o)[g]? = some o := fun o =>
    ⟨fun k hk => by rw [Array.getElem?_setIfInBounds, if_neg (Ne.symm hk)], by simp, by simp [hlt]⟩
  have hidx : (entG 0 es).toArray.findIdx? (fun e => ((e.born : Nat) : Int) == ((j : Nat) : Int)) = some j := by
    rw [Go.WideElems.findIdx_arr]
    have := Go.WideElems.findIdx_born (l := (entG 0 es).toArray.toList) (j := j) (e0 := { key := gv x, val := o, born := 0 + j }) (eG_nodup es) (by rw [List.toList_toArray, entG_at, hj]; rfl)
    simpa using this
  refine ⟨{ w with heap := w.heap.setIfInBounds g (.map (entG 0 (es.set j (x, v))).toArray es.length) }, ?_, ⟨?_, ?_, ?_⟩, (hset _).1, (hset _).2.1, fun B hB => ⟨rfl, rfl, rfl, by simp, fun q hq => (hset _).1 q (by omega)⟩⟩
  · rw [← entG_val 0 es j x v o hj]
    simp only [Instr.entryStore, Sem.run_bind, MapKept.run_getObj_map h.at_, Result.andThen_ok, asInt, asIntOf, Sem.run_pure, hidx, MapKept.run_setObj_map _ h.at_]
  · simpa using (hset _).2.2
  · intro p hp
    rcases List.mem_or_eq_of_mem_set hp with hp | hp
    · exact h.ok p hp
    · rw [hp]; exact h.ok (x, o) (List.mem_of_getElem? hj)
  · rw [List.map_set]
    have e : (es.map (·.1)).set j x = es.map (·.1) := by
      apply List.ext_getElem?
      intro i
      rw [List.getElem?_set]
      by_cases q : j = i
      · subst q
        rw [if_pos rfl, if_pos (by rw [List.length_map]; exact (List.getElem?_eq_some_iff.1 hj).1), List.getElem?_map, hj]
        rfl
      · rw [if_neg q]
    show ((es.map (·.1)).set j x).Nodup
    rw [e]
    exact h.nd
theorem getG_old {es : List (Nat × Value)} {x j : Nat} {u z : Value} (h : es[j]? = some (x, u)) (hf : es.findIdx? (fun p => p.1 == x) = some j) : getG es x z = u := by
  have : es.find? (fun p => p.1 == x) = some (x, u) := by
    have hj := List.getElem?_eq_some_iff.1 h
    rw [List.findIdx?_eq_some_iff_getElem] at hf
    obtain ⟨_, _, h5⟩ := hf
    rw [List.find?_eq_some_iff_getElem]
    exact ⟨by simp, j, hj.1, hj.2, fun i hi => by simpa using h5 i hi⟩
  unfold getG
  rw [this]
  rfl
theorem getG_new {es : List (Nat × Value)} {x : Nat} {z : Value} (hf : es.findIdx? (fun p => p.1 == x) = none) : getG es x z = z := by
  have : es.find? (fun p => p.1 == x) = none := List.find?_eq_none.2 fun p hp => by have := (List.findIdx?_eq_none_iff.1 hf) p hp; simpa using this
  unfold getG
  rw [this]
  rfl
/-- A look that makes room, then the store. -/
theorem MapG.entry {w : World} {g : Nat} {es : List (Nat × Value)} (h : MapG w g es) {x : Nat} (hx : Okg x) {t e : TypeId} (ht : Tryz.prog.underlying t = some (.map 51 e)) {z : Value} (hz : ∀ u : World, (zeroValue e).run Tryz.prog u = .ok z u) :
    ∃ (st : Nat) (w1 : World) (es1 : List (Nat × Value)), (Instr.mapEntry t (.map (some g)) (gv x)).run Tryz.prog w = .ok (.tuple #[getG es x z, .int .i64 (st : Int)]) w1 ∧ MapG w1 g es1 ∧ es1[st]? = some (x, getG es x z) ∧ (∀ v, es1.set st (x, v) = putG es x v) ∧ (∀ k, k ≠ g → w1.heap[k]? = w.heap[k]?) ∧ w1.heap.size = w.heap.size ∧ (∀ B, B ≤ g → Below B w w1) := by
  obtain ⟨l, hl⟩ := keyOfG hx
  have hc := keyedG.check w false hl
  have hks := keyedG.stays w hl
  have hlt := h.lt
  have hset : ∀ o : Obj, (∀ k, k ≠ g → (w.heap.setIfInBounds g o)[k]? = w.heap[k]?) ∧ (w.heap.setIfInBounds g o).size = w.heap.size ∧ (w.heap.setIfInBounds g o)[g]? = some o := fun o =>
    ⟨fun k hk => by rw [Array.getElem?_setIfInBounds, if_neg (Ne.symm hk)], by simp, by simp [hlt]⟩
  rcases h.find hx w with ⟨h1, h2⟩ | ⟨j, u, h1, h2, h3⟩
  · rw [getG_new h2]
    refine ⟨es.length, { w with heap := w.heap.setIfInBounds g (.map ((entG 0 es).toArray.push { key := gv x, val := z, born := es.length }) (es.length + 1)) }, es ++ [(x, z)], ?_, ⟨?_, ?_, ?_⟩, by simp, fun v => ?_, (hset _).1, (hset _).2.1, fun B hB => ⟨rfl, rfl, rfl, by simp, fun q hq => (hset _).1 q (by omega)⟩⟩
    · simp [Instr.mapEntry, run_underlying ht, MapKept.run_getObj_map h.at_, hc, h1, hz, MapKept.run_setObj_map _ h.at_, Result.andThen, goInt]
    · rw [entG_snoc, List.length_append]
      simpa using (hset _).2.2
    · intro p hp
      rcases List.mem_append.1 hp with hp | hp
      · exact h.ok p hp
      · rw [List.mem_singleton.1 hp]; exact hx
    · rw [List.map_append]
      refine List.nodup_append.2 ⟨h.nd, by simp, fun a ha b hb => ?_⟩
      obtain ⟨p, hp, rfl⟩ := List.mem_map.1 ha
      simp only [List.map_cons, List.map_nil, List.mem_singleton] at hb
      have := (List.findIdx?_eq_none_iff.1 h2) p hp
      simp only [beq_eq_false_iff_ne, ne_eq] at this
      rw [hb]; exact this
    · rw [putG_new v h2, List.set_append_right _ _ (Nat.le_refl _), Nat.sub_self]
      rfl
  · have hen : (entG 0 es).toArray[j]? = some { key := gv x, val := u, born := 0 + j } := by rw [List.getElem?_toArray, entG_at, h2]; rfl
    rw [getG_old h2 h3]
    refine ⟨j, { w with heap := w.heap.setIfInBounds g (.map (entG 0 es).toArray es.length) }, es, ?_, ⟨(hset _).2.2, h.ok, h.nd⟩, h2, fun v => (putG_old v h3).symm, (hset _).1, (hset _).2.1, fun B hB => ⟨rfl, rfl, rfl, by simp, fun q hq => (hset _).1 q (by omega)⟩⟩
    have hk2 := entG_key 0 es j x u h2
    simp only [List.getElem?_toArray] at hen
    simp [Instr.mapEntry, run_underlying ht, MapKept.run_getObj_map h.at_, hc, h1, hen, hks, MapKept.run_setObj_map _ h.at_, Result.andThen, goInt] at hk2 ⊢
    rw [hk2]
end Go.Proofs.YtpdlapnliiengaaGreat
