/-
  Maps keyed by three bytes: their entries as a list, one more, one looked up.
-/
import Derived.Test.YtpdlapnliiengaaGreatKit
import Derived.Test.YtpdlapnliiengaaGreatFoot
import Derived.WideKeyArr2
import Derived.Maps.Keyed
namespace Go.Proofs.YtpdlapnliiengaaGreat
open Go.RowKit

/-- Three bytes, as one number. -/
def Okg (g : Nat) : Prop := g < 16777216
def gl (g : Nat) : List Value := [.int .u8 ((g / 65536 : Nat) : Int), .int .u8 ((g / 256 % 256 : Nat) : Int), .int .u8 ((g % 256 : Nat) : Int)]
def gv (g : Nat) : Value := .agg (gl g).toArray
theorem gv_inj {a b : Nat} (h : gv a = gv b) : a = b := by
  have e : gl a = gl b := congrArg Array.toList (Value.agg.inj h)
  simp only [gl, List.cons.injEq, Value.int.injEq, true_and, and_true] at e
  obtain ⟨h1, h2, h3⟩ := e
  have h1 := Int.ofNat.inj h1
  have h2 := Int.ofNat.inj h2
  have h3 := Int.ofNat.inj h3
  have ha := Nat.div_div_eq_div_mul a 256 256
  have hb := Nat.div_div_eq_div_mul b 256 256
  omega

theorem arrG : WideMaps.ArrKey Tryz.prog 51 5 3 := ⟨Tryz.underlying51, by kernel_rfl, by kernel_rfl, by kernel_rfl⟩
theorem keyedG : Maps.Keyed Tryz.prog 51 := Maps.Keyed.of_law arrG.law
theorem keyOfG {g : Nat} (h : Okg g) : ∃ l, keyOf Tryz.prog 51 (gv g) = some l := by
  have h1 : g / 65536 < 256 := by unfold Okg at h; omega
  have h2 : g / 256 % 256 < 256 := Nat.mod_lt _ (by decide)
  have h3 : g % 256 < 256 := Nat.mod_lt _ (by decide)
  unfold gv gl
  generalize g / 65536 = a at *
  generalize g / 256 % 256 = b at *
  generalize g % 256 = c at *
  have w1 : ∀ n : Nat, n < 256 → (Lit.int .u8 (n : Int)).wf = true := fun n hn => by
    have e1 : (-1 : Int) < (n : Int) := by omega
    have e2 : (n : Int) ≤ 255 := by omega
    simp [Lit.wf, IntKind.min, IntKind.max, IntKind.signed, IntKind.bits]
    omega
  have hsz : ∃ m, Tryz.prog.types.size = m + 1 := ⟨Tryz.prog.types.size - 1, by kernel_rfl⟩
  have hkt := arrG.keyType hsz
  obtain ⟨m, hm⟩ := hsz
  refine ⟨.string (keyBytes [.int .u8 (a : Int), .int .u8 (b : Int), .int .u8 (c : Int)]), ?_⟩
  unfold keyOf
  simp only [Tryz.underlying51]
  rw [if_pos (by simp [hkt, Value.formed, Tryz.underlying51, arrG.size]), hm]
  unfold Program.keyLits
  simp only [Tryz.underlying51, Value.cells]
  rw [if_pos (by rw [arrG.size]; rfl), show List.range 3 = [0, 1, 2] from rfl, List.mapM_cons, List.mapM_cons, List.mapM_cons, List.mapM_nil]
  simp [arrG.one, Program.keyLits, Tryz.underlying5, w1 a h1, w1 b h2, w1 c h3]

/-- The entries, born one behind the other. -/
def entG : Nat → List (Nat × Value) → List MapEntry
  | _, [] => []
  | n, p :: r => { key := gv p.1, val := p.2, born := n } :: entG (n + 1) r
theorem entG_length : ∀ (n : Nat) (l : List (Nat × Value)), (entG n l).length = l.length
  | _, [] => rfl
  | n, p :: r => by simp [entG, entG_length (n + 1) r]
theorem entG_at : ∀ (n : Nat) (l : List (Nat × Value)) (j : Nat), (entG n l)[j]? = (l[j]?).map fun p => { key := gv p.1, val := p.2, born := n + j }
  | _, [], j => by simp [entG]
  | n, p :: r, 0 => by simp [entG]
  | n, p :: r, j + 1 => by
    simp only [entG, List.getElem?_cons_succ]
    rw [entG_at (n + 1) r j]
    simp only [Nat.add_assoc, Nat.add_comm 1 j]
theorem entG_mem {n : Nat} {l : List (Nat × Value)} {e : MapEntry} (h : e ∈ entG n l) : ∃ j p, l[j]? = some p ∧ e = { key := gv p.1, val := p.2, born := n + j } := by
  obtain ⟨j, hj⟩ := List.mem_iff_getElem?.1 h
  rw [entG_at] at hj
  cases hp : l[j]? with
  | none => rw [hp] at hj; cases hj
  | some p => rw [hp] at hj; exact ⟨j, p, hp, (Option.some.inj hj).symm⟩
theorem entG_snoc (n : Nat) (l : List (Nat × Value)) (p : Nat × Value) : entG n (l ++ [p]) = entG n l ++ [{ key := gv p.1, val := p.2, born := n + l.length }] := by
  apply List.ext_getElem?
  intro j
  rw [entG_at]
  rcases Nat.lt_trichotomy j l.length with h | h | h
  · rw [List.getElem?_append_left h, List.getElem?_append_left (by rw [entG_length]; exact h), entG_at]
  · subst h
    rw [List.getElem?_append_right (Nat.le_refl _), List.getElem?_append_right (by rw [entG_length]; exact Nat.le_refl _), entG_length]
    simp
  · rw [List.getElem?_eq_none (by simp; omega), List.getElem?_eq_none (by simp [entG_length]; omega)]
    rfl
theorem entG_set (n : Nat) (l : List (Nat × Value)) (j : Nat) (x : Nat) (v : Value) (o : Nat × Value) (h : l[j]? = some o) :
    ((entG n l).toArray.modify j fun e => { e with key := gv x, val := v }) = (entG n (l.set j (x, v))).toArray := by
  apply Array.ext'
  rw [Array.toList_modify]
  apply List.ext_getElem?
  intro i
  rw [List.getElem?_modify, entG_at, entG_at, List.getElem?_set]
  have hj := (List.getElem?_eq_some_iff.1 h).1
  by_cases e : j = i
  · subst e
    rw [h, if_pos rfl, if_pos hj]
    simp
  · rw [if_neg e]
    cases hi : l[i]? <;> simp [e]

/-- Block g is a map with these entries. -/
structure MapG (w : World) (g : Nat) (es : List (Nat × Value)) : Prop where
  at_ : w.heap[g]? = some (.map (entG 0 es).toArray es.length)
  ok : ∀ p ∈ es, Okg p.1
  nd : (es.map (·.1)).Nodup

/-- What one more update makes of the entries. -/
def putG (es : List (Nat × Value)) (x : Nat) (v : Value) : List (Nat × Value) :=
  match es.findIdx? (fun p => p.1 == x) with
  | some j => es.set j (x, v)
  | none => es ++ [(x, v)]
def getG (es : List (Nat × Value)) (x : Nat) (z : Value) : Value := ((es.find? fun p => p.1 == x).map (·.2)).getD z

theorem MapG.lt {w : World} {g : Nat} {es : List (Nat × Value)} (h : MapG w g es) : g < w.heap.size := (Array.getElem?_eq_some_iff.1 h.at_).1
theorem MapG.keep {w w' : World} {g : Nat} {es : List (Nat × Value)} (h : MapG w g es) (e : w'.heap[g]? = w.heap[g]?) : MapG w' g es := ⟨e.trans h.at_, h.ok, h.nd⟩

/-- What the search finds. -/
theorem MapG.find {w : World} {g : Nat} {es : List (Nat × Value)} (h : MapG w g es) {x : Nat} (hx : Okg x) (W : World) :
    ((Instr.findKey 51 (gv x) (entG 0 es)).run Tryz.prog W = .ok none W ∧ es.findIdx? (fun p => p.1 == x) = none) ∨
    ∃ j v, (Instr.findKey 51 (gv x) (entG 0 es)).run Tryz.prog W = .ok (some (j, v)) W ∧ es[j]? = some (x, v) ∧ es.findIdx? (fun p => p.1 == x) = some j := by
  obtain ⟨l, hl⟩ := keyOfG hx
  have hall : ∀ e ∈ entG 0 es, ∃ l, keyOf Tryz.prog 51 e.key = some l := fun e he => by
    obtain ⟨j, p, hp, rfl⟩ := entG_mem he
    exact keyOfG (h.ok p (List.mem_iff_getElem?.2 ⟨j, hp⟩))
  rcases keyedG.find W hl _ hall with ⟨h1, h2⟩ | ⟨j, e, h1, h2, h3⟩
  · refine .inl ⟨h1, ?_⟩
    rw [List.findIdx?_eq_none_iff]
    intro p hp
    obtain ⟨j, hj⟩ := List.mem_iff_getElem?.1 hp
    have he : { key := gv p.1, val := p.2, born := 0 + j } ∈ entG 0 es := List.mem_iff_getElem?.2 ⟨j, by rw [entG_at, hj]; rfl⟩
    have := h2 _ he
    simp only [beq_eq_false_iff_ne, ne_eq]
    intro q
    exact this (by rw [q])
  · rw [entG_at] at h2
    cases hp : es[j]? with
    | none => rw [hp] at h2; cases h2
    | some p =>
      rw [hp] at h2
      obtain rfl := Option.some.inj h2
      obtain rfl : p.1 = x := gv_inj h3
      refine .inr ⟨j, p.2, h1, by rw [hp], ?_⟩
      have hj := List.getElem?_eq_some_iff.1 hp
      rw [List.findIdx?_eq_some_iff_getElem]
      refine ⟨hj.1, by rw [hj.2]; simp, fun i hi => ?_⟩
      simp only [Bool.not_eq_true, beq_eq_false_iff_ne, ne_eq]
      intro q
      have hil : i < es.length := Nat.lt_trans hi hj.1
      have hn := List.pairwise_iff_getElem.1 h.nd i j (by rw [List.length_map]; exact hil) (by rw [List.length_map]; exact hj.1) hi
      rw [List.getElem_map, List.getElem_map, hj.2] at hn
      exact hn q

theorem putG_new {es : List (Nat × Value)} {x : Nat} (v : Value) (h : es.findIdx? (fun p => p.1 == x) = none) : putG es x v = es ++ [(x, v)] := by unfold putG; rw [h]
theorem putG_old {es : List (Nat × Value)} {x : Nat} (v : Value) {j : Nat} (h : es.findIdx? (fun p => p.1 == x) = some j) : putG es x v = es.set j (x, v) := by unfold putG; rw [h]

/-- One more update. -/
theorem MapG.put {w : World} {g : Nat} {es : List (Nat × Value)} (h : MapG w g es) {x : Nat} (hx : Okg x) (v : Value) {t e : TypeId} (ht : Tryz.prog.underlying t = some (.map 51 e)) :
    ∃ w', (Instr.mapUpdate t (.map (some g)) (gv x) v).run Tryz.prog w = .ok () w' ∧ MapG w' g (putG es x v) ∧ (∀ k, k ≠ g → w'.heap[k]? = w.heap[k]?) ∧ w'.heap.size = w.heap.size ∧ ∀ B, B ≤ g → Below B w w' := by
  obtain ⟨l, hl⟩ := keyOfG hx
  have hc := keyedG.check w false hl
  have hks := keyedG.stays w hl
  have hlt := h.lt
  have hset : ∀ o : Obj, (∀ k, k ≠ g → (w.heap.setIfInBounds g o)[k]? = w.heap[k]?) ∧ (w.heap.setIfInBounds g o).size = w.heap.size ∧ (w.heap.setIfInBounds g o)[g]? = some o := fun o =>
    ⟨fun k hk => by rw [Array.getElem?_setIfInBounds, if_neg (Ne.symm hk)], by simp, by simp [hlt]⟩
  rcases h.find hx w with ⟨h1, h2⟩ | ⟨j, u, h1, h2, h3⟩
  · refine ⟨{ w with heap := w.heap.setIfInBounds g (.map ((entG 0 es).toArray.push { key := gv x, val := v, born := es.length }) (es.length + 1)) }, ?_, ⟨?_, ?_, ?_⟩, (hset _).1, (hset _).2.1, fun B hB => ⟨rfl, rfl, rfl, by simp, fun q hq => (hset _).1 q (by omega)⟩⟩
    · simp [Instr.mapUpdate, run_underlying ht, MapKept.run_getObj_map h.at_, hc, h1, MapKept.run_setObj_map _ h.at_, Result.andThen]
    · rw [putG_new v h2, entG_snoc, List.length_append]
      simpa using (hset _).2.2
    · rw [putG_new v h2]
      intro p hp
      rcases List.mem_append.1 hp with hp | hp
      · exact h.ok p hp
      · rw [List.mem_singleton.1 hp]; exact hx
    · rw [putG_new v h2, List.map_append]
      refine List.nodup_append.2 ⟨h.nd, by simp, fun a ha b hb => ?_⟩
      obtain ⟨p, hp, rfl⟩ := List.mem_map.1 ha
      simp only [List.map_cons, List.map_nil, List.mem_singleton] at hb
      have := (List.findIdx?_eq_none_iff.1 h2) p hp
      simp only [beq_eq_false_iff_ne, ne_eq] at this
      rw [hb]; exact this
  · have hen : (entG 0 es).toArray[j]? = some { key := gv x, val := u, born := 0 + j } := by rw [List.getElem?_toArray, entG_at, h2]; rfl
    refine ⟨{ w with heap := w.heap.setIfInBounds g (.map (entG 0 (es.set j (x, v))).toArray es.length) }, ?_, ⟨?_, ?_, ?_⟩, (hset _).1, (hset _).2.1, fun B hB => ⟨rfl, rfl, rfl, by simp, fun q hq => (hset _).1 q (by omega)⟩⟩
    · rw [← entG_set 0 es j x v (x, u) h2]
      simp only [List.getElem?_toArray] at hen
      simp [Instr.mapUpdate, run_underlying ht, MapKept.run_getObj_map h.at_, hc, h1, hen, hks, MapKept.run_setObj_map _ h.at_, Result.andThen]
    · rw [putG_old v h3]
      simpa using (hset _).2.2
    · rw [putG_old v h3]
      intro p hp
      rcases List.mem_or_eq_of_mem_set hp with hp | hp
      · exact h.ok p hp
      · rw [hp]; exact hx
    · rw [putG_old v h3, List.map_set]
      have e : (es.map (·.1)).set j x = es.map (·.1) := by
        apply List.ext_getElem?
        intro i
        rw [List.getElem?_set]
        by_cases q : j = i
        · subst q
          rw [if_pos rfl, if_pos (by rw [List.length_map]; exact (List.getElem?_eq_some_iff.1 h2).1), List.getElem?_map, h2]
          rfl
        · rw [if_neg q]
      show ((es.map (·.1)).set j x).Nodup
      rw [e]
      exact h.nd

/-- A look. -/
theorem MapG.look {w : World} {g : Nat} {es : List (Nat × Value)} (h : MapG w g es) {x : Nat} (hx : Okg x) {t e : TypeId} (ht : Tryz.prog.underlying t = some (.map 51 e)) {z : Value} (hz : (zeroValue e).run Tryz.prog w = .ok z w) :
    (Instr.lookup t (.map (some g)) (gv x) false).run Tryz.prog w = .ok (getG es x z) w := by
  obtain ⟨l, hl⟩ := keyOfG hx
  have hc := keyedG.check w (entG 0 es).isEmpty hl
  unfold getG
  rcases h.find hx w with ⟨h1, h2⟩ | ⟨j, u, h1, h2, h3⟩
  · have : es.find? (fun p => p.1 == x) = none := List.find?_eq_none.2 fun p hp => by have := (List.findIdx?_eq_none_iff.1 h2) p hp; simpa using this
    rw [this]
    simp [Instr.lookup, run_underlying ht, MapKept.run_getObj_map h.at_, hc, h1, hz, Result.andThen]
  · have : es.find? (fun p => p.1 == x) = some (x, u) := by
      have hj := List.getElem?_eq_some_iff.1 h2
      rw [List.findIdx?_eq_some_iff_getElem] at h3
      obtain ⟨_, _, h5⟩ := h3
      rw [List.find?_eq_some_iff_getElem]
      exact ⟨by simp, j, hj.1, hj.2, fun i hi => by simpa using h5 i hi⟩
    rw [this]
    simp [Instr.lookup, run_underlying ht, MapKept.run_getObj_map h.at_, hc, h1, Result.andThen]
end Go.Proofs.YtpdlapnliiengaaGreat
