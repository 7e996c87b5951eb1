/-
  gram.Places: what the map holds while the bytes are gone through.
-/
import Derived.Test.YtpdlapnliiengaaGreatGSets
import Derived.Test.YtpdlapnliiengaaGreatGRow
import Derived.Test.YtpdlapnliiengaaGreatGIter
import Derived.Test.YtpdlapnliiengaaGreatGRises
import Derived.Test.YtpdlapnliiengaaGreatGRunR
namespace Go.Proofs.YtpdlapnliiengaaGreat
open Go.RowKit Go.Shelf

/-- The cells of places. -/
def pcl (l : List Nat) : List Value := l.flatMap fun (i : Nat) => [.int .i64 0, .int .i64 (i : Int)]
theorem pcl_snoc (l : List Nat) (i : Nat) : pcl (l ++ [i]) = pcl l ++ [.int .i64 0, .int .i64 (i : Int)] := by simp [pcl]
theorem info_place : (Tryz.prog.info? 44).map (fun i => (i.zero, i.size, i.bytes)) = some (some (.agg #[.int .i64 0, .int .i64 0]), 2, 16) := by kernel_rfl

/-- Entries whose values are rows of places, each of its own. -/
structure PlE (X : World) (base : Nat) (z : Nat → Nat) (l : List Nat) (es : List (Nat × Value)) : Prop where
  keys : es.map (·.1) = ksL z l
  rows : ∀ p ∈ es, X.ownsRow base 44 2 p.2 (plL z l p.1).length (pcl (plL z l p.1))
  apart : ∀ p ∈ es, ∀ q ∈ es, ∀ b, p.2.ownBlock = some b → q.2.ownBlock = some b → p.1 = q.1
theorem PlE.nd {X : World} {base : Nat} {z : Nat → Nat} {l : List Nat} {es : List (Nat × Value)} (h : PlE X base z l es) : (es.map (·.1)).Nodup := by rw [h.keys]; exact ksL_nd z l
theorem putG_mem {es : List (Nat × Value)} (hn : (es.map (·.1)).Nodup) {x : Nat} {v : Value} {p : Nat × Value} (h : p ∈ putG es x v) : p = (x, v) ∨ (p.1 ≠ x ∧ p ∈ es) := by
  cases hf : es.findIdx? (fun p => p.1 == x) with
  | none =>
    rw [putG_new v hf] at h
    rcases List.mem_append.1 h with h | h
    · refine .inr ⟨fun e => ?_, h⟩
      exact ((find_key es x).1 hf) (e ▸ List.mem_map.2 ⟨p, h, rfl⟩)
    · exact .inl (List.mem_singleton.1 h)
  | some j =>
    rw [putG_old v hf] at h
    obtain ⟨i, hi⟩ := List.mem_iff_getElem?.1 h
    rw [List.getElem?_set] at hi
    rw [List.findIdx?_eq_some_iff_getElem] at hf
    obtain ⟨h1, h2, _⟩ := hf
    have e : es[j].1 = x := by simpa using h2
    by_cases q : j = i
    · subst q
      rw [if_pos rfl, if_pos h1] at hi
      exact .inl (Option.some.inj hi).symm
    · rw [if_neg q] at hi
      refine .inr ⟨fun e2 => q ?_, List.mem_of_getElem? hi⟩
      have hi2 := List.getElem?_eq_some_iff.1 hi
      have hj1 : j < (es.map (·.1)).length := by rw [List.length_map]; exact h1
      have hi1 : i < (es.map (·.1)).length := by rw [List.length_map]; exact hi2.1
      have key : ∀ a b (ha : a < (es.map (·.1)).length) (hb : b < (es.map (·.1)).length), a < b → (es.map (·.1))[a] ≠ (es.map (·.1))[b] := fun a b ha hb hab => List.pairwise_iff_getElem.1 hn a b ha hb hab
      have ee : (es.map (·.1))[j] = (es.map (·.1))[i] := by rw [List.getElem_map, List.getElem_map, e, hi2.2, e2]
      rcases Nat.lt_trichotomy j i with h3 | h3 | h3
      · exact absurd ee (key j i hj1 hi1 h3)
      · exact h3
      · exact absurd ee.symm (key i j hi1 hj1 h3)
/-- What the map tells of a gram: its row so far. -/
theorem PlE.get {X : World} {base : Nat} {z : Nat → Nat} {l : List Nat} {es : List (Nat × Value)} (h : PlE X base z l es) (x : Nat) :
    X.ownsRow base 44 2 (getG es x (.slice none 0 0)) (plL z l x).length (pcl (plL z l x)) ∧ ((x, getG es x (.slice none 0 0)) ∈ es ∨ getG es x (.slice none 0 0) = .slice none 0 0) := by
  cases hf : es.findIdx? (fun p => p.1 == x) with
  | none =>
    rw [getG_new hf, plL_none (by rw [← h.keys]; exact (find_key es x).1 hf)]
    exact ⟨World.ownsRow_nil X base _ 2, .inr rfl⟩
  | some j =>
    have hf2 := hf
    rw [List.findIdx?_eq_some_iff_getElem] at hf2
    obtain ⟨h1, h2, _⟩ := hf2
    have e : es[j].1 = x := by simpa using h2
    have hj : es[j]? = some (x, es[j].2) := by rw [List.getElem?_eq_getElem h1, ← e]
    rw [getG_old hj hf]
    have hm : (x, es[j].2) ∈ es := List.mem_of_getElem? hj
    exact ⟨h.rows _ hm, .inl hm⟩
theorem PlE.mem_of {X : World} {base : Nat} {z : Nat → Nat} (hz : ∀ i, z i < 256) {m : Nat} {es : List (Nat × Value)} (h : PlE X base z (List.range m) es) {x : Nat} (hx : x ∈ gset z m) : (x, getG es x (.slice none 0 0)) ∈ es := by
  have hk : x ∈ es.map (·.1) := by
    obtain ⟨i, hi, e⟩ := (gset_mem hz m x).1 hx
    rw [h.keys]
    exact (ksL_mem z _ x).2 ⟨i, List.mem_range.2 hi, e⟩
  cases hf : es.findIdx? (fun p => p.1 == x) with
  | none => exact absurd hk ((find_key es x).1 hf)
  | some j =>
    have hf2 := hf
    rw [List.findIdx?_eq_some_iff_getElem] at hf2
    obtain ⟨h1, h2, _⟩ := hf2
    have e : es[j].1 = x := by simpa using h2
    have hj : es[j]? = some (x, es[j].2) := by rw [List.getElem?_eq_getElem h1, ← e]
    rw [getG_old hj hf]
    exact List.mem_of_getElem? hj
theorem PlE.still {X Y : World} {base N : Nat} {z : Nat → Nat} {l : List Nat} {es : List (Nat × Value)} (h : PlE X base z l es) (hs : Still N X Y) : PlE Y base z l es := ⟨h.keys, fun p hp => owns_still (h.rows p hp) hs, h.apart⟩
theorem PlE.below {X Y : World} {base : Nat} {z : Nat → Nat} {l : List Nat} {es : List (Nat × Value)} (h : PlE X base z l es) (hb : Below X.heap.size X Y) : PlE Y base z l es := ⟨h.keys, fun p hp => owns_thruS (h.rows p hp) hb, h.apart⟩
/-- One more place. -/
theorem PlE.put {X Y : World} {base : Nat} {z : Nat → Nat} {l : List Nat} {es : List (Nat × Value)} (h : PlE X base z l es) (i : Nat) {v : Value}
    (hkeep : ∀ (k : Nat) (c : Array Value) (t : TypeId) (f : Nat × Nat), (getG es (gN z i) (.slice none 0 0)).ownBlock ≠ some k → X.heap[k]? = some (.cells c t f) → Y.heap[k]? = some (.cells c t f))
    (hv : Y.ownsRow base 44 2 v ((plL z l (gN z i)).length + 1) (pcl (plL z l (gN z i)) ++ [.int .i64 0, .int .i64 (i : Int)]))
    (hown : ∀ g, v.ownBlock = some g → (getG es (gN z i) (.slice none 0 0)).ownBlock = some g ∨ X.heap.size ≤ g) : PlE Y base z (l ++ [i]) (putG es (gN z i) v) := by
  obtain ⟨hg1, hg2⟩ := h.get (gN z i)
  have hoth : ∀ p ∈ es, p.1 ≠ gN z i → ∀ b, p.2.ownBlock = some b → (getG es (gN z i) (.slice none 0 0)).ownBlock ≠ some b := fun p hp hne b hb he => by
    rcases hg2 with hg2 | hg2
    · exact hne (h.apart p hp _ hg2 b hb he)
    · rw [hg2] at he; cases he
  refine ⟨by rw [putG_keys, h.keys, ksL_snoc], fun p hp => ?_, fun p hp q hq b hb1 hb2 => ?_⟩
  · rcases putG_mem h.nd hp with rfl | ⟨hne, hp⟩
    · rw [plL_snoc, if_pos rfl, List.length_append, pcl_snoc]
      exact hv
    · rw [plL_snoc, if_neg (Ne.symm hne)]
      obtain ⟨hl, ⟨h1, h2⟩ | ⟨g, cap, cur, h1, h2, h3, h4⟩⟩ := h.rows p hp
      · exact ⟨hl, .inl ⟨h1, h2⟩⟩
      · exact ⟨hl, .inr ⟨g, cap, cur, h1, h2, hkeep _ _ _ _ (hoth p hp hne g (by rw [h1]; rfl)) h3, h4⟩⟩
  · have hlt : ∀ p ∈ es, ∀ b, p.2.ownBlock = some b → b < X.heap.size := fun p hp b hb => (owns_cells (h.rows p hp) b hb).1
    rcases putG_mem h.nd hp with rfl | ⟨hne, hp⟩
    · rcases putG_mem h.nd hq with rfl | ⟨hnq, hq⟩
      · rfl
      · rcases hown b hb1 with h1 | h1
        · exact absurd h1 (hoth q hq hnq b hb2)
        · have := hlt q hq b hb2
          omega
    · rcases putG_mem h.nd hq with rfl | ⟨hnq, hq⟩
      · rcases hown b hb2 with h1 | h1
        · exact absurd h1 (hoth p hp hne b hb1)
        · have := hlt p hp b hb1
          omega
      · exact h.apart p hp q hq b hb1 hb2

/-- Between two rounds. -/
def PlI (z : Nat → Nat) (w0 : World) (B m : Nat) (s : List Nat × (Nat → Prop)) (X : World) : Prop :=
  X.heap[B]? = some (.cells #[.map (some m)] 46 (0, 0)) ∧ (∃ es, MapG X m es ∧ PlE X w0.heap.size z s.1 es ∧ ∀ k, s.2 k ↔ ∃ p ∈ es, p.2.ownBlock = some k) ∧ Below w0.heap.size w0 X
theorem PlI.still {z : Nat → Nat} {w0 : World} {B m N : Nat} {s : List Nat × (Nat → Prop)} {X Y : World} (h : PlI z w0 B m s X) (hs : Still N X Y) (hN : w0.heap.size ≤ N) (hm : m < N) : PlI z w0 B m s Y := by
  obtain ⟨h1, ⟨es, h2, h3, h5⟩, h4⟩ := h
  exact ⟨hs.cells _ _ _ _ h1, ⟨es, h2.keep ((hs.others _ _ hm h2.at_ rfl).trans h2.at_.symm), h3.still hs, h5⟩, h4.trans (hs.below hN h4.size)⟩
end Go.Proofs.YtpdlapnliiengaaGreat

/-
  gram.Places.
-/
namespace Go.Proofs.YtpdlapnliiengaaGreat
open Go.RowKit Go.Shelf

attribute [local go_sem] Oper.semAt_some

/-- The cells of postings. -/
def pocl (ks : List Nat) (vf : Nat → Value) : List Value := ks.flatMap fun g => [gtx g, vf g]
theorem pocl_snoc (ks : List Nat) (vf : Nat → Value) (g : Nat) : pocl (ks ++ [g]) vf = pocl ks vf ++ [gtx g, vf g] := by simp [pocl]
theorem info_posting : (Tryz.prog.info? 42).map (fun i => (i.zero, i.size, i.bytes)) = some (some (.agg #[.string ⟨#[]⟩, .slice none 0 0]), 2, 40) := by kernel_rfl
theorem ksL_len (z : Nat → Nat) (l : List Nat) : (ksL z l).length ≤ l.length := by
  have h := esL_len z l
  rw [← esL_keys, List.length_map]
  exact h
/-- Postings of the places below m, of the call's own. -/
structure PostR (w : World) (base : Nat) (z : Nat → Nat) (m : Nat) (v : Value) (vf : Nat → Value) : Prop where
  row : w.ownsRow base 42 2 v (gset z m).length (pocl (gset z m) vf)
  places : ∀ g ∈ gset z m, w.ownsRow base 44 2 (vf g) (plL z (List.range m) g).length (pcl (plL z (List.range m) g))
  apart : ∀ g ∈ gset z m, ∀ h ∈ gset z m, ∀ b, (vf g).ownBlock = some b → (vf h).ownBlock = some b → g = h
theorem PostR.below {w w' : World} {base : Nat} {z : Nat → Nat} {m : Nat} {v : Value} {vf : Nat → Value} (h : PostR w base z m v vf) (hb : Below w.heap.size w w') : PostR w' base z m v vf :=
  ⟨owns_thruS h.row hb, fun g hg => owns_thruS (h.places g hg) hb, h.apart⟩
theorem cells_kept_map {w w' : World} {m : Nat} {es : List (Nat × Value)} (h : MapG w m es) (hs : ∀ k, k ≠ m → w'.heap[k]? = w.heap[k]?) : CellsKept w w' := fun k c t f hx => (hs k (fun e => by rw [e, h.at_] at hx; cases hx)).trans hx

set_option maxRecDepth 100000 in
set_option maxHeartbeats 2000000 in
theorem places_any (a : Option Addr) (len cap : Nat) (z : Nat → Nat) (w : World) (hlen : len ≤ 1000000) (hz : Byt w a len z) :
    Calls Tryz.prog 9 #[.slice a len cap] w fun e w' => ∃ v vf, e = .returned v ∧ PostR w' w.heap.size z (len - 2) v vf ∧ Below w.heap.size w w' := by
  refine callsIn_wide.1 (show CallsIn Fence.wide 40 _ _ _ _ _ from ?_)
  refine callsIn_of_wp_marks Tryz.func9 rfl trivial ?_ rfl
  simp only [Tryz.ntmps9, List.size_toArray, List.length_cons, List.length_nil, Nat.reduceAdd, Nat.reduceSub, Array.replicate_succ, Array.replicate_zero, List.push_toArray, List.append_toArray, List.nil_append, List.cons_append]
  have hmk : (Instr.makeMap 46 none).run Tryz.prog w = .ok (.map (some w.heap.size)) (w.alloc (.map #[] 0)) := rfl
  obtain ⟨W0, hW0⟩ : ∃ W0, w.alloc (.map #[] 0) = W0 := ⟨_, rfl⟩
  rw [hW0] at hmk
  have hs0 : W0.heap.size = w.heap.size + 1 := by rw [← hW0]; simp
  have hB0 : Below w.heap.size w W0 := by rw [← hW0]; exact below_alloc _ _
  have hM0 : MapG W0 w.heap.size [] := ⟨by rw [← hW0]; exact World.alloc_heap_new _ _, (fun _ h => by cases h), List.nodup_nil⟩
  obtain ⟨W1, hW1⟩ : ∃ W1, W0.alloc (.cells #[.map (some w.heap.size)] 46) = W1 := ⟨_, rfl⟩
  have hs1 : W1.heap.size = w.heap.size + 2 := by rw [← hW1]; simp [hs0]
  have hB1 : Below w.heap.size w W1 := hB0.trans (by rw [← hW1]; exact (below_alloc _ _).mono (by omega))
  have hM1 : MapG W1 w.heap.size [] := hM0.keep (by rw [← hW1]; exact Below.heap_alloc _ _ _ (by omega))
  have hb1 : W1.heap[w.heap.size + 1]? = some (.cells #[.map (some w.heap.size)] 46 (0, 0)) := by rw [← hW1, ← hs0]; exact World.alloc_heap_new _ _
  have hgo := gramsOf_in Fence.wide 39 trivial rfl a len cap W1
  obtain ⟨W2, hW2⟩ : ∃ W2, W1.alloc (.cells #[.slice a len cap] 22) = W2 := ⟨_, rfl⟩
  rw [hW2] at hgo
  have hs2 : W2.heap.size = w.heap.size + 3 := by rw [← hW2]; simp [hs1]
  have hB12 : Below W1.heap.size W1 W2 := by rw [← hW2]; exact below_alloc _ _
  have hB2 : Below w.heap.size w W2 := hB1.trans (hB12.mono (by omega))
  have hc2 : W2.cell? ⟨w.heap.size + 2, 0, none⟩ = some (.slice a len cap) := by rw [← hW2, ← hs1]; exact (cell_new_l _ _ _).1
  have hI0 : PlI z w (w.heap.size + 1) w.heap.size ([], fun _ => False) W2 := ⟨(hB12.block _ (by omega)).trans hb1, ⟨[], hM1.keep (hB12.block _ (by omega)), ⟨rfl, (fun _ h => by cases h), (fun _ h => by cases h)⟩, fun k => by simp⟩, hB2⟩
  have hseq := grams_seq 39 (w.heap.size + 2) a len cap z (by omega) W2 hc2 (hz.below hB2)
  rw [hs1] at hgo
  have HI0 := hide hI0
  have HS := hide hseq
  have HW := hide hW1
  have HN := hide (And.intro hs0 (And.intro hs1 hs2))
  clear hW0 hM0 hB0 hB1 hM1 hb1 hW2 hB12 hB2 hc2 hI0 hseq hs0 hs1 hs2 hW1
  gi_wp2
  rw [HW.out, HN.out.1]
  refine ⟨trivial, hgo.mono ?_⟩
  rintro e w3 ⟨rfl, rfl⟩
  gi_wp2
  refine wpIn_rangeFunc_N rfl (by omega) (gf := 30) (lb := #[.pointer (some ⟨w.heap.size + 2, 0, none⟩)]) rfl trivial (enters_of Tryz.func30 (by kernel_rfl) rfl) HS.out (fun pre x A B h => h.1.to) (fun xs A B h => h.1.to) (fun xs A B h => h.1.to) (Below.refl _ _) (fun _ => rfl)
    (PlI z w (w.heap.size + 1) w.heap.size) (fun _ _ _ => False) (fun s x X => PlI z w (w.heap.size + 1) w.heap.size s X ∧ s.1 = List.range x ∧ x + 2 < len) (fun xs X => (∃ O, PlI z w (w.heap.size + 1) w.heap.size (xs, O) X) ∧ xs = List.range (len - 2)) (fun _ _ _ => False)
    (fun _ X _ _ h hg hr => h.still ((Still.refl _ X).grown hg hr) (by have := HN.out.2.2; omega) (by have := HN.out.2.2; omega)) (fun _ _ _ _ _ h _ _ => h) ?ee (fun _ _ _ _ _ h _ _ => h) (fun pre O x A B h g => ⟨h.still g.1 (by have := HN.out.2.2; omega) (by have := HN.out.2.2; omega), g.2⟩) (fun xs O A B h g => ⟨⟨O, h.still g.1 (by have := HN.out.2.2; omega) (by have := HN.out.2.2; omega)⟩, g.2⟩) (fun _ _ _ _ h _ => h)
    (fun _ => False) (fun k hk => hk.elim) HI0.out
    (fun s x a' X => ∃ p, a' = { tmps := #[.slice a len cap, undef, .slice none 0 0, .pointer (some ⟨w.heap.size + 1, 0, none⟩), .int .i64 (x : Int), .pointer (some ⟨p, 0, none⟩), undef, undef, undef, .map (some w.heap.size), .slice a len cap, .func (.func 30) #[] #[.pointer (some ⟨w.heap.size + 2, 0, none⟩)], .int .i64 (x : Int), gv (gN z x), undef, undef, undef, undef, undef, undef, undef, undef, undef, undef, undef, undef, undef, undef, undef, undef, undef, undef, undef, undef, undef, undef, undef, undef, undef, undef, undef], defers := [] } ∧ X.heap[p]? = some (.cells (gl (gN z x)).toArray 51 (0, 0)) ∧ PlI z w (w.heap.size + 1) w.heap.size s X ∧ s.1 = List.range x ∧ x + 2 < len)
    ?m2 ?assign ?body ?done (fun _ _ _ _ _ h _ => h.elim)
  case ee =>
    rintro xs X Y row ⟨⟨O, h1⟩, h2⟩ hg hr
    exact ⟨⟨O, h1.still ((Still.refl _ X).grown hg hr) (by have := HN.out.2.2; omega) (by have := HN.out.2.2; omega)⟩, h2⟩
  case m2 =>
    rintro x a' s X Y row ⟨p, h1, hp, h2, h3⟩ hg hr
    exact ⟨p, h1, ((Still.refl w3.heap.size X).grown hg hr).cells _ _ _ _ hp, h2.still ((Still.refl _ X).grown hg hr) (by have := HN.out.2.2; omega) (by have := HN.out.2.2; omega), h3⟩
  case assign =>
    intro l' pre O x X K hM2 hK
    have HK := hide (hK { tmps := #[.slice a len cap, undef, .slice none 0 0, .pointer (some ⟨w.heap.size + 1, 0, none⟩), .int .i64 (x : Int), .pointer (some ⟨X.heap.size, 0, none⟩), undef, undef, undef, .map (some w.heap.size), .slice a len cap, .func (.func 30) #[] #[.pointer (some ⟨w.heap.size + 2, 0, none⟩)], .int .i64 (x : Int), gv (gN z x), undef, undef, undef, undef, undef, undef, undef, undef, undef, undef, undef, undef, undef, undef, undef, undef, undef, undef, undef, undef, undef, undef, undef, undef, undef, undef, undef], defers := [] } (X.alloc (.cells (gl (gN z x)).toArray 51)) ⟨by simp, fun k o _ hk _ => (Below.heap_alloc _ _ k (Array.getElem?_eq_some_iff.1 hk).1).trans hk⟩ (KeptO.of_still ((Still.refl 0 X).alloc _) _) ⟨X.heap.size, rfl, World.alloc_heap_new _ _, hM2.1.still ((Still.refl w3.heap.size X).alloc _) (by have := HN.out.2.2; omega) (by have := HN.out.2.2; omega), hM2.2⟩)
    clear hK hM2
    simp only [encG]
    unfold gv gl at HK ⊢
    generalize gN z x / 65536 = d0 at *
    generalize gN z x / 256 % 256 = d1 at *
    generalize gN z x % 256 = d2 at *
    gi_wp2
    exact HK.out
  case body =>
    rintro l' pre O x a' X ⟨p, rfl, hp, ⟨hbx, ⟨es, hM, hPl, hO⟩, hB⟩, hpr, hxl⟩
    simp only at hPl hO hpr
    have hcB : X.cell? ⟨w.heap.size + 1, 0, none⟩ = some (.map (some w.heap.size)) := by rw [cell_of_row _ _ _ _ _ _ hbx]; rfl
    have hp0 : X.cell? ⟨p, 0, none⟩ = some (.int .u8 ((gN z x / 65536 : Nat) : Int)) := by rw [cell_of_row _ _ _ _ _ _ hp]; rfl
    have hp1 : X.cell? ⟨p, 1, none⟩ = some (.int .u8 ((gN z x / 256 % 256 : Nat) : Int)) := by rw [cell_of_row _ _ _ _ _ _ hp]; rfl
    have hp2 : X.cell? ⟨p, 2, none⟩ = some (.int .u8 ((gN z x % 256 : Nat) : Int)) := by rw [cell_of_row _ _ _ _ _ _ hp]; rfl
    obtain ⟨XA, hXA⟩ : ∃ XA, X.alloc (.cells #[.int .i64 0, .int .i64 (x : Int)] 44) = XA := ⟨_, rfl⟩
    have hbA : Below X.heap.size X XA := by rw [← hXA]; exact below_alloc _ _
    have hsA : XA.heap.size = X.heap.size + 1 := by rw [← hXA]; simp
    have hMA : MapG XA w.heap.size es := hM.keep (hbA.block _ hM.lt)
    have hPA := hPl.below hbA
    obtain ⟨st, X1, es1, hrun, hM1, hst1, hput, hsame, hsz, hb⟩ := hMA.entry (gN_ok hz.1 x) Tryz.underlying46 (z := .slice none 0 0) (fun _ => rfl)
    obtain ⟨hrow0, hin0⟩ := hPA.get (gN z x)
    obtain ⟨a0, c0, hv0⟩ := owns_slice hrow0
    have hpl : (plL z pre (gN z x)).length ≤ pre.length := List.length_filter_le _ _
    have hpre : pre.length < len - 2 := by rw [hpr, List.length_range]; omega
    have hC1 : CellsKept XA X1 := cells_kept_map hMA hsame
    have hrA : X1.ownsRow w.heap.size 44 2 (.slice a0 (plL z pre (gN z x)).length c0) (plL z pre (gN z x)).length (pcl (plL z pre (gN z x))) := by rw [← hv0]; exact hC1.own hrow0
    have hnew : ∀ j u, ([.int .i64 0, .int .i64 (x : Int)] : List Value)[j]? = some u → X1.cell? ((⟨X.heap.size, 0, none⟩ : Addr).add j) = some u := fun j u h => hC1.cell (by
      rw [← hXA]
      match j, h with
      | 0, h => cases h; simp [Addr.add]
      | 1, h => cases h; simp [Addr.add])
    have hlt0 := hB.size
    have HF := hide (And.intro hM (And.intro hPl (And.intro hO (And.intro hB (And.intro hbx (And.intro hbA (And.intro hC1 hin0)))))))
    have HR := hide (And.intro hrA (And.intro hrow0 hPA))
    have HM1 := hide (And.intro hMA (And.intro hM1 (And.intro hst1 (And.intro hput (And.intro hsame (And.intro hb hv0))))))
    obtain ⟨i0, hi, hq0, hq1, hq2⟩ := info_parts info_place
    rw [hv0] at hrun
    clear hM hPl hO hB hbx hbA hC1 hin0 hrow0 hPA hMA hM1 hst1 hput hsame hb hv0 hp
    generalize hn0 : (plL z pre (gN z x)).length = n0 at *
    unfold gv gl at hrun
    unfold gv
    unfold gl
    generalize gN z x / 65536 = d0 at *
    generalize gN z x / 256 % 256 = d1 at *
    generalize gN z x % 256 = d2 at *
    gi_wp2_with (gi_at_builtin; refine wpListIn_append_footS _ rfl _ _ 40 rfl 44 i0 _ 2 16 Tryz.underlying40 hi hq0 hq1 hq2 rfl (by decide) w.heap.size _ n0 _ rfl HR.out.1 ⟨X.heap.size, 0, none⟩ 1 1 [.int .i64 0, .int .i64 (x : Int)] rfl rfl hnew (by intro u hu; simp at hu; rcases hu with rfl | rfl <;> rfl) (by unfold maxLen; omega) (by omega) (by omega) ?_; intro A' C' w6 hown' hG'; have hK6 := hG'.kept (F := fun k => (Value.slice a0 n0 c0).ownBlock = some k) (fun _ h => h); have hM6 : MapG w6 w.heap.size es1 := HM1.out.2.1.keep ((hK6.others _ _ HM1.out.2.1.at_ rfl).trans HM1.out.2.1.at_.symm); obtain ⟨w7, hst7, hM7, hsame7, hsz7, hb7⟩ := hM6.store HM1.out.2.2.1 46 (.slice A' (n0 + 1) C'); have HK6 := hide (And.intro hK6 (And.intro hM6 (And.intro hM7 (And.intro hsame7 (hb7 w.heap.size (Nat.le_refl _)))))); clear hK6 hM6 hM7 hsame7 hb7)
    obtain ⟨hM, hPl, hO, hB, hbx, hbA, hC1, hin0⟩ := HF.out
    obtain ⟨hrA, hrow0, hPA⟩ := HR.out
    obtain ⟨hMA, hM1, hst1, hput, hsame, hb, hv0⟩ := HM1.out
    obtain ⟨hK6, hM6, hM7, hsame7, hb7⟩ := HK6.out
    have hn := HN.out.2.2
    have hs6 := hK6.size
    have hc7 : CellsKept w6 w7 := cells_kept_map hM6 hsame7
    have hkeep : ∀ (k : Nat) (c : Array Value) (t : TypeId) (f : Nat × Nat), (getG es (gN z x) (.slice none 0 0)).ownBlock ≠ some k → X.heap[k]? = some (.cells c t f) → w7.heap[k]? = some (.cells c t f) := fun k c t f hne hx => by
      have h1 : X1.heap[k]? = some (.cells c t f) := hC1 _ _ _ _ ((hbA.block k (Array.getElem?_eq_some_iff.1 hx).1).trans hx)
      exact hc7 _ _ _ _ ((hK6.block k (Array.getElem?_eq_some_iff.1 h1).1 (fun e => hne (by rw [hv0]; exact e))).trans h1)
    have hown7 : ∀ g, (Value.slice A' (n0 + 1) C').ownBlock = some g → (getG es (gN z x) (.slice none 0 0)).ownBlock = some g ∨ X.heap.size ≤ g := fun g hg => by
      rcases hG'.foot (F := fun k => (Value.slice a0 n0 c0).ownBlock = some k) (fun _ h => h) g hg with h | h
      · exact .inl (by rw [hv0]; exact h)
      · exact .inr (by have := h.1; omega)
    have hP7 : PlE w7 w.heap.size z (pre ++ [x]) (putG es (gN z x) (.slice A' (n0 + 1) C')) := hPl.put x hkeep (by rw [hn0]; exact hc7.own hown') hown7
    have hOv : ∀ k, (getG es (gN z x) (.slice none 0 0)).ownBlock = some k → O k := fun k e => by
      rcases hin0 with h | h
      · exact (hO k).2 ⟨_, h, e⟩
      · rw [h] at e; cases e
    have hnB : (getG es (gN z x) (.slice none 0 0)).ownBlock ≠ some (w.heap.size + 1) := fun e => by
      obtain ⟨_, _, cur, hc⟩ := owns_cells hrow0 _ e
      rw [(hbA.block _ (block_lt hbx)).trans hbx] at hc
      cases hc
    refine ⟨⟨by omega, fun k o hk hx hc => ?_⟩, fun k => ∃ p ∈ putG es (gN z x) (.slice A' (n0 + 1) C'), p.2.ownBlock = some k, ⟨hkeep _ _ _ _ hnB hbx, ⟨_, by rw [← hput]; exact hM7, hP7, fun k => Iff.rfl⟩, ?_⟩, ⟨by omega, fun k c t f hk hx => hkeep k c t f (fun e => hk (hOv k e)) hx⟩, ?_⟩
    · have h1 : X1.heap[k]? = some o := (hsame k (by omega)).trans ((hbA.block k (Array.getElem?_eq_some_iff.1 hx).1).trans hx)
      exact (hsame7 k (by omega)).trans (hK6.others k o h1 hc)
    · exact (((hB.trans (hbA.mono hlt0)).trans (hb w.heap.size (Nat.le_refl _))).trans (hK6.below (fun k hk => (owns_cells hrA k hk).2.1) (by omega))).trans hb7
    · rintro k ⟨p, hp, hpb⟩
      refine ⟨?_, (owns_cells (hP7.rows p hp) k hpb).1⟩
      rcases putG_mem hPl.nd hp with rfl | ⟨_, hp⟩
      · exact (hown7 k hpb).imp (hOv k) id
      · exact .inl ((hO k).2 ⟨p, hp, hpb⟩)
  case done =>
    rintro D xs X hD ⟨⟨O, hbx, ⟨es, hM, hPl, hO⟩, hB⟩, rfl⟩ hKD
    simp only at hPl
    have hcB : X.cell? ⟨w.heap.size + 1, 0, none⟩ = some (.map (some w.heap.size)) := by rw [cell_of_row _ _ _ _ _ _ hbx]; rfl
    have hgs : sortK es = gset z (len - 2) := gset_of_keys hPl.keys
    have hlen2 : es.length = (gset z (len - 2)).length := by rw [← hgs, sortK_len]
    have hel := gset_len z (len - 2)
    have hri := grisingP_any w.heap.size es X hM (by omega)
    have hok : ∀ x ∈ gset z (len - 2), Okg x := fun x hx => by
      obtain ⟨i, _, e⟩ := (gset_mem hz.1 _ x).1 hx
      rw [← e]; exact gN_ok hz.1 i
    have hmem : ∀ x ∈ gset z (len - 2), (x, getG es x (.slice none 0 0)) ∈ es := fun x hx => hPl.mem_of hz.1 hx
    rw [hgs, hlen2] at hri
    have HB := hide (And.intro hB (And.intro hM hPl))
    have HKD := hide hKD
    clear hbx hM hPl hO hB hKD HI0 HS HW
    gi_wp2
    refine ⟨trivial, (callsIn_wide.2 hri).mono ?_⟩
    rintro e w4 ⟨v4, rfl, ho4, hb4⟩
    have H4 := hide ho4
    have HB4 := hide hb4
    clear hri
    generalize hks : gset z (len - 2) = ks at *
    generalize hn : ks.length = n at *
    obtain ⟨a4, c4, rfl⟩ := owns_slice ho4
    have hs4 := hb4.size
    have hc4 := cell_thru hcB hb4
    clear ho4 hb4
    gi_wp2
    gi_loopg [6, 8, 26] n (fun q s6 s8 s26 wr => ∃ k : Nat, k + q = n ∧ s26 = .int .i64 (k : Nat) ∧ wr.ownsRow w4.heap.size 42 2 s6 k (pocl (ks.take k) fun g => getG es g (.slice none 0 0)) ∧ Below w4.heap.size w4 wr)
    case atStart => exact ⟨0, by omega, rfl, World.ownsRow_nil w4 _ _ 2, Below.refl _ _⟩
    case round =>
      obtain ⟨k, hkq, rfl, hrow, hbl⟩ := hrel
      cases gk with
      | zero =>
        obtain rfl : k = n := by omega
        have hkz : ¬ ((k : Int) < (k : Int)) := by omega
        have HR := hide hrow
        have HBL := hide hbl
        clear hrow hbl
        gi_wp2
        have hKX : X.heap[D]? = some (.deferred (some [])) := HKD.out
        have hDX : D < X.heap.size := (Array.getElem?_eq_some_iff.1 hKX).1
        have hK4 : w4.heap[D]? = some (.deferred (some [])) := (HB4.out.block D hDX).trans hKX
        have hKr : wr.heap[D]? = some (.deferred (some [])) := (HBL.out.block D (by omega)).trans hK4
        refine ⟨by simp, .inl ⟨D, _, rfl, run_takeDeferred hKr, ?_⟩⟩
        have h5 := HB.out.1.size
        have hrow : wr.ownsRow w.heap.size 42 2 u6 k (pocl ks fun g => getG es g (.slice none 0 0)) := by
          have h := HR.out
          rw [List.take_of_length_le (by omega)] at h
          exact ⟨h.1, h.2.imp (fun h => h) (fun ⟨g, c, u, h1, h2, h3⟩ => ⟨g, c, u, h1, by omega, h3⟩)⟩
        have hbX : Below X.heap.size X wr := HB4.out.trans (HBL.out.mono hs4)
        have hbb : Below w.heap.size w wr := HB.out.1.trans (hbX.mono h5)
        refine ⟨_, results_tmp rfl _ _ _, u6, rfl, ⟨fun g => getG es g (.slice none 0 0), ?_⟩, hbb.trans (belowK_b (w := w) (Nat.le_refl _) wr D _ _ (by have := HN.out.2.2; omega) hKr rfl rfl)⟩
        refine ⟨by rw [hks, hn]; exact ownsRow_putObj hrow _ hKr rfl, fun g hg => ownsRow_putObj (owns_thruS (HB.out.2.2.get g).1 hbX) _ hKr rfl, fun g hg h hh b h1 h2 => ?_⟩
        exact HB.out.2.2.apart _ (hmem g (hks ▸ hg)) _ (hmem h (hks ▸ hh)) b h1 h2
      | succ q =>
        have hkn : k < n := by omega
        have hkz : (k : Int) < (n : Int) := by omega
        have hk0 : (0 : Int) ≤ (k : Int) := by omega
        obtain ⟨g4, rfl, hnc, hcm, hcell⟩ := row_gcl H4.out hn hkn
        have hxm : ks.getD k 0 ∈ ks := by rw [List.getD_eq_getElem?_getD, List.getElem?_eq_getElem (by omega)]; exact List.getElem_mem _
        have hx : Okg (ks.getD k 0) := hok _ hxm
        have htk : pocl (ks.take (k + 1)) (fun g => getG es g (.slice none 0 0)) = pocl (ks.take k) (fun g => getG es g (.slice none 0 0)) ++ [gtx (ks.getD k 0), getG es (ks.getD k 0) (.slice none 0 0)] := by
          rw [List.take_add_one, List.getElem?_eq_getElem (by omega)]
          show pocl (ks.take k ++ [ks[k]]) _ = _
          rw [pocl_snoc, List.getD_eq_getElem?_getD, List.getElem?_eq_getElem (by omega)]
          rfl
        have hT : ∀ W, Calls Tryz.prog 23 #[gv (ks.getD k 0)] W fun e w' => e = .returned (gtx (ks.getD k 0)) ∧ w' = W.alloc (.cells (gl (ks.getD k 0)).toArray 51) := fun W => callsIn_wide.1 (gtext_in 0 (ks.getD k 0) hx W)
        obtain ⟨T, hTe⟩ : ∃ T, gtx (ks.getD k 0) = .string T := ⟨_, rfl⟩
        obtain ⟨aV, cV, hV⟩ := owns_slice ((HB.out.2.2.get (ks.getD k 0)).1)
        have hL : ∀ W, Below wr.heap.size wr W → (Instr.lookup 46 (.map (some w.heap.size)) (gv (ks.getD k 0)) false).run Tryz.prog W = .ok (getG es (ks.getD k 0) (.slice none 0 0)) W := fun W hW => by
          have hMW : MapG W w.heap.size es := HB.out.2.1.keep (((hW.block _ (by have := hbl.size; have := HB.out.2.1.lt; omega)).trans (hbl.block _ (by have := HB.out.2.1.lt; omega))).trans (HB4.out.block _ HB.out.2.1.lt))
          exact hMW.look hx Tryz.underlying46 rfl
        have c0 := cell_thru (hcell.1) hbl
        have c1 := cell_thru (hcell.2.1) hbl
        have c2 := cell_thru (hcell.2.2) hbl
        have c3 := cell_thru hc4 hbl
        have hsz4 := hbl.size
        have HR := hide hrow
        have HBL := hide hbl
        have HTK := hide htk
        have HV := hide hV
        rw [hV] at hL
        clear hrow hbl hcell htk
        generalize (plL z (List.range (len - 2)) (ks.getD k 0)).length = nV at *
        unfold gv gl at hT
        unfold gv gl at hL
        rw [hTe] at hT HTK
        generalize ks.getD k 0 / 65536 = d0 at *
        generalize ks.getD k 0 / 256 % 256 = d1 at *
        generalize ks.getD k 0 % 256 = d2 at *
        clear hTe hx hok hV
        gi_wp2
        obtain ⟨w5, hw5⟩ : ∃ w5, wr.alloc (.cells #[.int .u8 (d0 : Nat), .int .u8 (d1 : Nat), .int .u8 (d2 : Nat)] 51) = w5 := ⟨_, rfl⟩
        have hb5 : Below wr.heap.size wr w5 := by rw [← hw5]; exact below_alloc _ _
        have e0 : w5.cell? ⟨wr.heap.size, 0, none⟩ = some (.int .u8 (d0 : Nat)) := by rw [← hw5]; simp
        have e1 : w5.cell? ⟨wr.heap.size, 1, none⟩ = some (.int .u8 (d1 : Nat)) := by rw [← hw5]; simp
        have e2 : w5.cell? ⟨wr.heap.size, 2, none⟩ = some (.int .u8 (d2 : Nat)) := by rw [← hw5]; simp
        have hs5 := hb5.size
        rw [hw5]
        refine gplR wide_plain (w.heap.size + 1) wr.heap.size d0 d1 d2 w.heap.size u6 aV nV cV T _ _ _ w5 rfl rfl rfl rfl (cell_thru c3 hb5) (fun W hW => hL W (hb5.trans (hW.mono hs5))) e0 e1 e2 hT ?_
        clear c0 c1 c2 c3 e0 e1 e2 hL hT hw5
        intro vs w6 hb6 h30 h37
        obtain ⟨g7, h37, m0, m1⟩ := h37
        simp only [List.foldl_cons, List.foldl_nil, List.setIfInBounds_toArray, List.set_cons_succ, List.set_cons_zero]
        rw [h30, h37]
        generalize vs 31 = z31
        generalize vs 32 = z32
        generalize vs 33 = z33
        generalize vs 34 = z34
        generalize vs 35 = z35
        generalize vs 36 = z36
        have hs6 := hb6.size
        have hrA := owns_thruS HR.out (hb5.trans (hb6.mono hs5))
        have hnew : ∀ j u, ([.string T, .slice aV nV cV] : List Value)[j]? = some u → w6.cell? ((⟨g7, 0, none⟩ : Addr).add j) = some u := fun j u h => by
          rw [show (⟨g7, 0, none⟩ : Addr).add j = ⟨g7, j, none⟩ by unfold Addr.add; split <;> simp_all]
          match j, h with
          | 0, h => cases h; exact m0
          | 1, h => cases h; exact m1
        obtain ⟨i0, hi, hq0, hq1, hq2⟩ := info_parts info_posting
        refine op_appendS wide_plain (o := gplR_o8) rfl rfl (.tmp 30) (.tmp 37) 27 rfl 42 i0 _ 2 40 Tryz.underlying27 hi hq0 hq1 hq2 rfl (by decide) w4.heap.size u6 k _ rfl hrA ⟨g7, 0, none⟩ 1 1 [.string T, .slice aV nV cV] rfl rfl hnew (by intro u hu; simp at hu; rcases hu with rfl | rfl <;> rfl) (by unfold maxLen; omega) (by omega) (by omega) ?_
        intro A' C' w7 hown' hG' _
        refine wpOpIn_plain (o := gplR_o9) rfl rfl (oper_inK (fun _ => trivial) (fun K hK => ?_))
        rw [Oper.semAt_plain Fence.wide _ _ (by intro c h; cases h)]
        simp only [gplR_o9]
        go_simp
        refine hK _ _ ?_
        clear hK K
        gi_wp2
        gi_roundg q
        case measure => omega
        case rel =>
          exact ⟨k + 1, by omega, by go_num, by rw [HTK.out, HV.out]; exact hown', HBL.out.trans (((hb5.trans (hb6.mono hs5)).mono hsz4).trans ((hG'.kept (F := fun g => u6.ownBlock = some g) (fun _ h => h)).below (fun g hg => (owns_cells HR.out g hg).2.1) (by omega)))⟩
end Go.Proofs.YtpdlapnliiengaaGreat
