/-
  gram.Places: what the map holds while the bytes are gone through.
-/
import Derived.Test.YtpdlapnliiengaaGEntry
import Derived.Test.YtpdlapnliiengaaGRow
import Derived.Test.YtpdlapnliiengaaGIter
namespace Go.Proofs.Ytpdlapnliiengaa
open Go.RowKit Go.Shelf

/-- The cells of places. -/
def pcl (l : List Nat) : List Value := l.flatMap fun (i : Nat) => [.int .i64 0, .int .i64 (i : Int)]
theorem pcl_snoc (l : List Nat) (i : Nat) : pcl (l ++ [i]) = pcl l ++ [.int .i64 0, .int .i64 (i : Int)] := by simp [pcl]
theorem info_place : (Try.prog.info? 39).map (fun i => (i.zero, i.size, i.bytes)) = some (some (.agg #[.int .i64 0, .int .i64 0]), 2, 16) := by kernel_rfl

/-- Entries whose values are rows of places, each of its own. -/
structure PlE (X : World) (base : Nat) (z : Nat → Nat) (l : List Nat) (es : List (Nat × Value)) : Prop where
  keys : es.map (·.1) = ksL z l
  rows : ∀ p ∈ es, X.ownsRow base 39 2 p.2 (plL z l p.1).length (pcl (plL z l p.1))
  apart : ∀ p ∈ es, ∀ q ∈ es, ∀ b, p.2.ownBlock = some b → q.2.ownBlock = some b → p.1 = q.1
theorem PlE.nd {X : World} {base : Nat} {z : Nat → Nat} {l : List Nat} {es : List (Nat × Value)} (h : PlE X base z l es) : (es.map (·.1)).Nodup := by rw [h.keys]; exact ksL_nd z l
theorem putG_mem {es : List (Nat × Value)} (hn : (es.map (·.1)).Nodup) {x : Nat} {v : Value} {p : Nat × Value} (h : p ∈ putG es x v) : p = (x, v) ∨ (p.1 ≠ x ∧ p ∈ es) := by
  cases hf : es.findIdx? (fun p => p.1 == x) with
  | none =>
    rw [putG_new v hf] at h
    rcases List.mem_append.1 h with h | h
    · refine .inr ⟨fun e => ?_, h⟩
      exact ((find_key es x).1 hf) (e ▸ List.mem_map.2 ⟨p, h, rfl⟩)
    · exact .inl (List.mem_singleton.1 h)
  | some j =>
    rw [putG_old v hf] at h
    obtain ⟨i, hi⟩ := List.mem_iff_getElem?.1 h
    rw [List.getElem?_set] at hi
    rw [List.findIdx?_eq_some_iff_getElem] at hf
    obtain ⟨h1, h2, _⟩ := hf
    have e : es[j].1 = x := by simpa using h2
    by_cases q : j = i
    · subst q
      rw [if_pos rfl, if_pos h1] at hi
      exact .inl (Option.some.inj hi).symm
    · rw [if_neg q] at hi
      refine .inr ⟨fun e2 => q ?_, List.mem_of_getElem? hi⟩
      have hi2 := List.getElem?_eq_some_iff.1 hi
      have hj1 : j < (es.map (·.1)).length := by rw [List.length_map]; exact h1
      have hi1 : i < (es.map (·.1)).length := by rw [List.length_map]; exact hi2.1
      have key : ∀ a b (ha : a < (es.map (·.1)).length) (hb : b < (es.map (·.1)).length), a < b → (es.map (·.1))[a] ≠ (es.map (·.1))[b] := fun a b ha hb hab => List.pairwise_iff_getElem.1 hn a b ha hb hab
      have ee : (es.map (·.1))[j] = (es.map (·.1))[i] := by rw [List.getElem_map, List.getElem_map, e, hi2.2, e2]
      rcases Nat.lt_trichotomy j i with h3 | h3 | h3
      · exact absurd ee (key j i hj1 hi1 h3)
      · exact h3
      · exact absurd ee.symm (key i j hi1 hj1 h3)
/-- What the map tells of a gram: its row so far. -/
theorem PlE.get {X : World} {base : Nat} {z : Nat → Nat} {l : List Nat} {es : List (Nat × Value)} (h : PlE X base z l es) (x : Nat) :
    X.ownsRow base 39 2 (getG es x (.slice none 0 0)) (plL z l x).length (pcl (plL z l x)) ∧ ((x, getG es x (.slice none 0 0)) ∈ es ∨ getG es x (.slice none 0 0) = .slice none 0 0) := by
  cases hf : es.findIdx? (fun p => p.1 == x) with
  | none =>
    rw [getG_new hf, plL_none (by rw [← h.keys]; exact (find_key es x).1 hf)]
    exact ⟨World.ownsRow_nil X base _ 2, .inr rfl⟩
  | some j =>
    have hf2 := hf
    rw [List.findIdx?_eq_some_iff_getElem] at hf2
    obtain ⟨h1, h2, _⟩ := hf2
    have e : es[j].1 = x := by simpa using h2
    have hj : es[j]? = some (x, es[j].2) := by rw [List.getElem?_eq_getElem h1, ← e]
    rw [getG_old hj hf]
    have hm : (x, es[j].2) ∈ es := List.mem_of_getElem? hj
    exact ⟨h.rows _ hm, .inl hm⟩
theorem PlE.mem_of {X : World} {base : Nat} {z : Nat → Nat} (hz : ∀ i, z i < 256) {m : Nat} {es : List (Nat × Value)} (h : PlE X base z (List.range m) es) {x : Nat} (hx : x ∈ gset z m) : (x, getG es x (.slice none 0 0)) ∈ es := by
  have hk : x ∈ es.map (·.1) := by
    obtain ⟨i, hi, e⟩ := (gset_mem hz m x).1 hx
    rw [h.keys]
    exact (ksL_mem z _ x).2 ⟨i, List.mem_range.2 hi, e⟩
  cases hf : es.findIdx? (fun p => p.1 == x) with
  | none => exact absurd hk ((find_key es x).1 hf)
  | some j =>
    have hf2 := hf
    rw [List.findIdx?_eq_some_iff_getElem] at hf2
    obtain ⟨h1, h2, _⟩ := hf2
    have e : es[j].1 = x := by simpa using h2
    have hj : es[j]? = some (x, es[j].2) := by rw [List.getElem?_eq_getElem h1, ← e]
    rw [getG_old hj hf]
    exact List.mem_of_getElem? hj
theorem PlE.still {X Y : World} {base N : Nat} {z : Nat → Nat} {l : List Nat} {es : List (Nat × Value)} (h : PlE X base z l es) (hs : Still N X Y) : PlE Y base z l es := ⟨h.keys, fun p hp => owns_still (h.rows p hp) hs, h.apart⟩
theorem PlE.below {X Y : World} {base : Nat} {z : Nat → Nat} {l : List Nat} {es : List (Nat × Value)} (h : PlE X base z l es) (hb : Below X.heap.size X Y) : PlE Y base z l es := ⟨h.keys, fun p hp => owns_thruS (h.rows p hp) hb, h.apart⟩
/-- One more place. -/
theorem PlE.put {X Y : World} {base : Nat} {z : Nat → Nat} {l : List Nat} {es : List (Nat × Value)} (h : PlE X base z l es) (i : Nat) {v : Value}
    (hkeep : ∀ (k : Nat) (c : Array Value) (t : TypeId) (f : Nat × Nat), (getG es (gN z i) (.slice none 0 0)).ownBlock ≠ some k → X.heap[k]? = some (.cells c t f) → Y.heap[k]? = some (.cells c t f))
    (hv : Y.ownsRow base 39 2 v ((plL z l (gN z i)).length + 1) (pcl (plL z l (gN z i)) ++ [.int .i64 0, .int .i64 (i : Int)]))
    (hown : ∀ g, v.ownBlock = some g → (getG es (gN z i) (.slice none 0 0)).ownBlock = some g ∨ X.heap.size ≤ g) : PlE Y base z (l ++ [i]) (putG es (gN z i) v) := by
  obtain ⟨hg1, hg2⟩ := h.get (gN z i)
  have hoth : ∀ p ∈ es, p.1 ≠ gN z i → ∀ b, p.2.ownBlock = some b → (getG es (gN z i) (.slice none 0 0)).ownBlock ≠ some b := fun p hp hne b hb he => by
    rcases hg2 with hg2 | hg2
    · exact hne (h.apart p hp _ hg2 b hb he)
    · rw [hg2] at he; cases he
  refine ⟨by rw [putG_keys, h.keys, ksL_snoc], fun p hp => ?_, fun p hp q hq b hb1 hb2 => ?_⟩
  · rcases putG_mem h.nd hp with rfl | ⟨hne, hp⟩
    · rw [plL_snoc, if_pos rfl, List.length_append, pcl_snoc]
      exact hv
    · rw [plL_snoc, if_neg (Ne.symm hne)]
      obtain ⟨hl, ⟨h1, h2⟩ | ⟨g, cap, cur, h1, h2, h3, h4⟩⟩ := h.rows p hp
      · exact ⟨hl, .inl ⟨h1, h2⟩⟩
      · exact ⟨hl, .inr ⟨g, cap, cur, h1, h2, hkeep _ _ _ _ (hoth p hp hne g (by rw [h1]; rfl)) h3, h4⟩⟩
  · have hlt : ∀ p ∈ es, ∀ b, p.2.ownBlock = some b → b < X.heap.size := fun p hp b hb => (owns_cells (h.rows p hp) b hb).1
    rcases putG_mem h.nd hp with rfl | ⟨hne, hp⟩
    · rcases putG_mem h.nd hq with rfl | ⟨hnq, hq⟩
      · rfl
      · rcases hown b hb1 with h1 | h1
        · exact absurd h1 (hoth q hq hnq b hb2)
        · have := hlt q hq b hb2
          omega
    · rcases putG_mem h.nd hq with rfl | ⟨hnq, hq⟩
      · rcases hown b hb2 with h1 | h1
        · exact absurd h1 (hoth p hp hne b hb1)
        · have := hlt p hp b hb1
          omega
      · exact h.apart p hp q hq b hb1 hb2

/-- Between two rounds. -/
def PlI (z : Nat → Nat) (w0 : World) (B m : Nat) (s : List Nat × (Nat → Prop)) (X : World) : Prop :=
  X.heap[B]? = some (.cells #[.map (some m)] 54 (0, 0)) ∧ (∃ es, MapG X m es ∧ PlE X w0.heap.size z s.1 es ∧ ∀ k, s.2 k ↔ ∃ p ∈ es, p.2.ownBlock = some k) ∧ Below w0.heap.size w0 X
theorem PlI.still {z : Nat → Nat} {w0 : World} {B m N : Nat} {s : List Nat × (Nat → Prop)} {X Y : World} (h : PlI z w0 B m s X) (hs : Still N X Y) (hN : w0.heap.size ≤ N) (hm : m < N) : PlI z w0 B m s Y := by
  obtain ⟨h1, ⟨es, h2, h3, h5⟩, h4⟩ := h
  exact ⟨hs.cells _ _ _ _ h1, ⟨es, h2.keep ((hs.others _ _ hm h2.at_ rfl).trans h2.at_.symm), h3.still hs, h5⟩, h4.trans (hs.below hN h4.size)⟩
end Go.Proofs.Ytpdlapnliiengaa
