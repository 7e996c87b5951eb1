/-
  A region whose order of operations is open, by an invariant: one obligation an operation, whatever order is picked.
-/
import Derived.WalkKit
import Derived.RegionTactic
namespace Go.Proofs.Ytlmjplpledilhaa
open Go.RowKit

section
variable {P : Program} {ops : Array Oper} {Q : Exit → Act → World → Prop} {md : Region.Mode}

/-- How many operations have not come up. -/
def leftN (N : Nat) (listed : Array Bool) : Nat := ((List.range N).filter fun i => !listed.getD i false).length
theorem leftN_zero {N : Nat} {listed : Array Bool} (h : leftN N listed = 0) {i : Nat} (hi : i < N) : listed.getD i false = true := by
  have h1 := List.eq_nil_of_length_eq_zero h
  have h2 := List.filter_eq_nil_iff.1 h1 i (List.mem_range.2 hi)
  simpa using h2
theorem getD_set (listed : Array Bool) (i j : Nat) (hi : i < listed.size) : (listed.setIfInBounds i true).getD j false = (if i = j then true else listed.getD j false) := by
  simp only [Array.getD_eq_getD_getElem?, Array.getElem?_setIfInBounds]
  by_cases e : i = j
  · subst e; simp [hi]
  · simp [e]
theorem filter_lt (l : List Nat) (p q : Nat → Bool) (i : Nat) (hi : i ∈ l) (hpi : p i = true) (hqi : q i = false) (h : ∀ j, q j = true → p j = true) : (l.filter q).length < (l.filter p).length := by
  induction l with
  | nil => cases hi
  | cons a l ih =>
    rcases List.mem_cons.1 hi with rfl | hm
    · rw [List.filter_cons_of_pos hpi, List.filter_cons_of_neg (by simp [hqi])]
      have : (l.filter q).length ≤ (l.filter p).length := by
        have hs : l.filter q = (l.filter p).filter q := by
          rw [List.filter_filter]
          apply List.filter_congr
          intro j _
          cases hj : q j with
          | false => rfl
          | true => simp [h j hj]
        rw [hs]
        exact List.length_filter_le _ _
      simp; omega
    · have := ih hm
      by_cases hp : p a = true
      · rw [List.filter_cons_of_pos hp]
        by_cases hq : q a = true
        · rw [List.filter_cons_of_pos hq]; simp; omega
        · rw [List.filter_cons_of_neg hq]; simp; omega
      · have hq : ¬ q a = true := fun h' => hp (h a h')
        rw [List.filter_cons_of_neg hp, List.filter_cons_of_neg hq]
        exact this
theorem leftN_set {N : Nat} {listed : Array Bool} (hs : listed.size = N) {i : Nat} (hi : i < N) (h : listed.getD i false = false) : leftN N (listed.setIfInBounds i true) < leftN N listed := by
  unfold leftN
  refine filter_lt _ _ _ i (List.mem_range.2 hi) (by simp only [h]; rfl) ?_ ?_
  · show (!(listed.setIfInBounds i true).getD i false) = false
    rw [getD_set _ _ _ (by omega), if_pos rfl]; rfl
  · intro j hj
    have hj' : (!(listed.setIfInBounds i true).getD j false) = true := hj
    rw [getD_set _ _ _ (by omega)] at hj'
    by_cases e : i = j
    · rw [if_pos e] at hj'; cases hj'
    · rw [if_neg e] at hj'; exact hj'

/-- An invariant that every operation that may come up keeps serves every order. -/
theorem wpAny_inv (I : Array Bool → Act → World → Prop) (hI : ∀ listed a w, I listed a w → listed.size = ops.size)
    (hstep : ∀ listed a w, I listed a w → ∀ (i : Nat) (o : Oper), ops[i]? = some o → listed.getD i false = false → (∀ e ∈ o.after, Region.binds md e = true → listed.getD e.on false = true) → wpOp P ops Q i (I (listed.setIfInBounds i true)) a w)
    (hdone : ∀ listed a w, I listed a w → Region.ready md ops listed = [] → Q .normal a w) :
    ∀ fuel listed a w, leftN ops.size listed ≤ fuel → I listed a w → wpAny P md ops Q fuel listed a w := by
  intro fuel
  induction fuel with
  | zero =>
    intro listed a w hl hi
    have hr : Region.ready md ops listed = [] := by
      apply List.eq_nil_iff_forall_not_mem.2
      intro j hj
      obtain ⟨h1, o, ho, _⟩ := mem_ready.1 hj
      have hlt : j < ops.size := (Array.getElem?_eq_some_iff.1 ho).1
      have h2 := leftN_zero (Nat.le_zero.1 hl) hlt
      have hs := hI _ _ _ hi
      have hx : listed.getD j true = listed.getD j false := by
        simp only [Array.getD_eq_getD_getElem?, Array.getElem?_eq_getElem (show j < listed.size by omega)]; rfl
      rw [hx, h2] at h1
      cases h1
    exact ⟨hr, hdone _ _ _ hi hr⟩
  | succ fuel ih =>
    intro listed a w hl hi
    refine ⟨fun hr => hdone _ _ _ hi hr, fun i hir => ?_⟩
    obtain ⟨h1, o, ho, hall⟩ := mem_ready.1 hir
    have hlt : i < ops.size := (Array.getElem?_eq_some_iff.1 ho).1
    have hs := hI _ _ _ hi
    have hx : listed.getD i true = listed.getD i false := by
      simp only [Array.getD_eq_getD_getElem?, Array.getElem?_eq_getElem (show i < listed.size by omega)]; rfl
    rw [hx] at h1
    refine wpOp_mono (fun a' w' hi' => ih _ a' w' ?_ hi') (hstep listed a w hi i o ho h1 hall)
    have := leftN_set hs hlt h1
    omega
/-- Where every operation waits for earlier ones alone, all have come up when none may. -/
theorem all_listed (hac : ∀ (i : Nat) (o : Oper), ops[i]? = some o → ∀ e ∈ o.after, e.on < i) {listed : Array Bool} (hs : listed.size = ops.size) (hr : Region.ready md ops listed = []) : ∀ i, i < ops.size → listed.getD i false = true := by
  intro i
  induction i using Nat.strongRecOn with
  | ind i ih =>
    intro hi
    cases hb : listed.getD i false with
    | true => rfl
    | false =>
      exfalso
      have hx : listed.getD i true = listed.getD i false := by
        simp only [Array.getD_eq_getD_getElem?, Array.getElem?_eq_getElem (show i < listed.size by omega)]; rfl
      have hm : i ∈ Region.ready md ops listed := mem_ready.2 ⟨by rw [hx, hb], ops[i], Array.getElem?_eq_getElem hi, fun e he _ => ih e.on (hac i _ (Array.getElem?_eq_getElem hi) e he) (by have := hac i _ (Array.getElem?_eq_getElem hi) e he; omega)⟩
      rw [hr] at hm
      cases hm

/-- **A region whose order is open, by what each operation leaves in its slot.** d i: operation i's slot; V i v w: v is right for it in the world w. -/
theorem wp_region_inv {id : Nat} (hm : P.follows .mixedOrders = true) (d : Nat → Nat) (V : Nat → Value → World → Prop) (t0 : Array Value) (w0 : World)
    (hdst : ∀ (i : Nat) (o : Oper), ops[i]? = some o → o.dst = some (d i) ∧ d i < t0.size) (hinj : ∀ i j, i < ops.size → j < ops.size → d i = d j → i = j)
    (hac : ∀ (i : Nat) (o : Oper), ops[i]? = some o → ∀ e ∈ o.after, e.on < i)
    (hV : ∀ w w', Below w.heap.size w w' → ∀ i v, V i v w → V i v w')
    (hstep : ∀ (i : Nat) (o : Oper), ops[i]? = some o → ∀ (x : Act) (w : World), Below w0.heap.size w0 w → x.defers = [] → x.tmps.size = t0.size → (∀ s, (∀ j, j < ops.size → s ≠ d j) → x.tmps.getD s undef = t0.getD s undef) →
      (∀ e ∈ o.after, Region.binds .any e = true → V e.on (x.tmps.getD (d e.on) undef) w) → wpOp P ops Q i (fun a' w' => ∃ v, a' = x.put (some (d i)) v ∧ V i v w' ∧ Below w.heap.size w w') x w)
    (hdone : ∀ (x : Act) (w : World), Below w0.heap.size w0 w → x.defers = [] → x.tmps.size = t0.size → (∀ s, (∀ j, j < ops.size → s ≠ d j) → x.tmps.getD s undef = t0.getD s undef) → (∀ i, i < ops.size → V i (x.tmps.getD (d i) undef) w) → Q .normal x w) :
    (Code.region id ops true).wp P Q { tmps := t0, defers := [] } w0 := by
  refine wp_region_any hm ?_
  refine wpAny_inv (fun listed x w => listed.size = ops.size ∧ Below w0.heap.size w0 w ∧ x.defers = [] ∧ x.tmps.size = t0.size ∧ (∀ s, (∀ j, j < ops.size → s ≠ d j) → x.tmps.getD s undef = t0.getD s undef) ∧ (∀ i, i < ops.size → listed.getD i false = true → V i (x.tmps.getD (d i) undef) w))
    (fun _ _ _ h => h.1) ?_ ?_ ops.size _ _ _ ?_ ?_
  · intro listed x w ⟨h1, h2, h3, h4, h5, h6⟩ i o ho hl hdeps
    have hlt : i < ops.size := (Array.getElem?_eq_some_iff.1 ho).1
    refine wpOp_mono ?_ (hstep i o ho x w h2 h3 h4 h5 (fun e he hb => h6 e.on (by have := hac i o ho e he; omega) (hdeps e he hb)))
    rintro a' w' ⟨v, rfl, hv, hb⟩
    refine ⟨by rw [Array.size_setIfInBounds]; exact h1, h2.trans (hb.mono h2.size), h3, by show (x.tmps.setIfInBounds (d i) v).size = _; rw [Array.size_setIfInBounds]; exact h4, fun s hs => ?_, fun j hj hjl => ?_⟩
    · show (x.tmps.setIfInBounds (d i) v).getD s undef = _
      rw [← h5 s hs]
      simp only [Array.getD_eq_getD_getElem?, Array.getElem?_setIfInBounds]
      rw [if_neg (fun e => hs i hlt e.symm)]
    · show V j ((x.tmps.setIfInBounds (d i) v).getD (d j) undef) w'
      by_cases e : i = j
      · subst e
        have hd := (hdst i o ho).2
        simp only [Array.getD_eq_getD_getElem?, Array.getElem?_setIfInBounds, if_true]
        rw [if_pos (by omega)]
        exact hv
      · have hne : d i ≠ d j := fun h => e (hinj i j hlt hj h)
        rw [getD_set _ _ _ (by omega), if_neg e] at hjl
        simp only [Array.getD_eq_getD_getElem?, Array.getElem?_setIfInBounds]
        rw [if_neg hne]
        have := hV w w' hb j _ (h6 j hj hjl)
        simpa only [Array.getD_eq_getD_getElem?] using this
  · intro listed x w ⟨h1, h2, h3, h4, h5, h6⟩ hr
    exact hdone x w h2 h3 h4 h5 (fun i hi => h6 i hi (all_listed hac h1 hr i hi))
  · unfold leftN
    exact Nat.le_trans (List.length_filter_le _ _) (by simp)
  · refine ⟨by simp, (Below.refl _ _).drew, rfl, rfl, fun _ _ => rfl, fun i hi h => ?_⟩
    simp [Array.getD_eq_getD_getElem?, hi] at h
/-- The same by a relation R of the caller's between the worlds (an append onto a row of the region's own is not Below). -/
theorem wp_region_rel {id : Nat} (hm : P.follows .mixedOrders = true) (d : Nat → Nat) (R : World → World → Prop) (V : Nat → Value → World → Prop) (t0 : Array Value) (w0 : World)
    (hdst : ∀ (i : Nat) (o : Oper), ops[i]? = some o → o.dst = some (d i) ∧ d i < t0.size) (hinj : ∀ i j, i < ops.size → j < ops.size → d i = d j → i = j)
    (hac : ∀ (i : Nat) (o : Oper), ops[i]? = some o → ∀ e ∈ o.after, e.on < i)
    (hr0 : R w0 w0.drew) (hRt : ∀ a b c, R a b → R b c → R a c)
    (hV : ∀ w w', R w w' → ∀ i v, V i v w → V i v w')
    (hstep : ∀ (i : Nat) (o : Oper), ops[i]? = some o → ∀ (x : Act) (w : World), R w0 w → x.defers = [] → x.tmps.size = t0.size → (∀ s, (∀ j, j < ops.size → s ≠ d j) → x.tmps.getD s undef = t0.getD s undef) →
      (∀ e ∈ o.after, Region.binds .any e = true → V e.on (x.tmps.getD (d e.on) undef) w) → wpOp P ops Q i (fun a' w' => ∃ v, a' = x.put (some (d i)) v ∧ V i v w' ∧ R w w') x w)
    (hdone : ∀ (x : Act) (w : World), R w0 w → x.defers = [] → x.tmps.size = t0.size → (∀ s, (∀ j, j < ops.size → s ≠ d j) → x.tmps.getD s undef = t0.getD s undef) → (∀ i, i < ops.size → V i (x.tmps.getD (d i) undef) w) → Q .normal x w) :
    (Code.region id ops true).wp P Q { tmps := t0, defers := [] } w0 := by
  refine wp_region_any hm ?_
  refine wpAny_inv (fun listed x w => listed.size = ops.size ∧ R w0 w ∧ x.defers = [] ∧ x.tmps.size = t0.size ∧ (∀ s, (∀ j, j < ops.size → s ≠ d j) → x.tmps.getD s undef = t0.getD s undef) ∧ (∀ i, i < ops.size → listed.getD i false = true → V i (x.tmps.getD (d i) undef) w))
    (fun _ _ _ h => h.1) ?_ ?_ ops.size _ _ _ ?_ ?_
  · intro listed x w ⟨h1, h2, h3, h4, h5, h6⟩ i o ho hl hdeps
    have hlt : i < ops.size := (Array.getElem?_eq_some_iff.1 ho).1
    refine wpOp_mono ?_ (hstep i o ho x w h2 h3 h4 h5 (fun e he hb => h6 e.on (by have := hac i o ho e he; omega) (hdeps e he hb)))
    rintro a' w' ⟨v, rfl, hv, hb⟩
    refine ⟨by rw [Array.size_setIfInBounds]; exact h1, hRt _ _ _ h2 hb, h3, by show (x.tmps.setIfInBounds (d i) v).size = _; rw [Array.size_setIfInBounds]; exact h4, fun s hs => ?_, fun j hj hjl => ?_⟩
    · show (x.tmps.setIfInBounds (d i) v).getD s undef = _
      rw [← h5 s hs]
      simp only [Array.getD_eq_getD_getElem?, Array.getElem?_setIfInBounds]
      rw [if_neg (fun e => hs i hlt e.symm)]
    · show V j ((x.tmps.setIfInBounds (d i) v).getD (d j) undef) w'
      by_cases e : i = j
      · subst e
        have hd := (hdst i o ho).2
        simp only [Array.getD_eq_getD_getElem?, Array.getElem?_setIfInBounds, if_true]
        rw [if_pos (by omega)]
        exact hv
      · have hne : d i ≠ d j := fun h => e (hinj i j hlt hj h)
        rw [getD_set _ _ _ (by omega), if_neg e] at hjl
        simp only [Array.getD_eq_getD_getElem?, Array.getElem?_setIfInBounds]
        rw [if_neg hne]
        have := hV w w' hb j _ (h6 j hj hjl)
        simpa only [Array.getD_eq_getD_getElem?] using this
  · intro listed x w ⟨h1, h2, h3, h4, h5, h6⟩ hr
    exact hdone x w h2 h3 h4 h5 (fun i hi => h6 i hi (all_listed hac h1 hr i hi))
  · unfold leftN
    exact Nat.le_trans (List.length_filter_le _ _) (by simp)
  · refine ⟨by simp, hr0, rfl, rfl, fun _ _ => rfl, fun i hi h => ?_⟩
    simp [Array.getD_eq_getD_getElem?, hi] at h
end

/-- A frame that is told slot by slot. -/
theorem frame_sets (x t : Array Value) (hs : x.size = t.size) (ds : List Nat) (h : ∀ s, s ∉ ds → x.getD s undef = t.getD s undef) : x = ds.foldl (fun y d => y.setIfInBounds d (x.getD d undef)) t := by
  have key : ∀ (ds : List Nat) (y : Array Value), y.size = x.size → (ds.foldl (fun y d => y.setIfInBounds d (x.getD d undef)) y).size = x.size ∧ ∀ i, i < x.size → (ds.foldl (fun y d => y.setIfInBounds d (x.getD d undef)) y).getD i undef = if i ∈ ds then x.getD i undef else y.getD i undef := by
    intro ds
    induction ds with
    | nil => intro y hy; exact ⟨hy, fun i _ => by simp⟩
    | cons d ds ih =>
      intro y hy
      obtain ⟨h1, h2⟩ := ih (y.setIfInBounds d (x.getD d undef)) (by rw [Array.size_setIfInBounds]; exact hy)
      refine ⟨h1, fun i hi => ?_⟩
      rw [List.foldl_cons, h2 i hi]
      by_cases hd : i ∈ ds
      · rw [if_pos hd, if_pos (List.mem_cons_of_mem _ hd)]
      · rw [if_neg hd]
        by_cases e : d = i
        · subst e
          rw [if_pos (List.mem_cons_self ..)]
          simp only [Array.getD_eq_getD_getElem?, Array.getElem?_setIfInBounds, if_true]
          rw [if_pos (by omega)]; rfl
        · rw [if_neg (fun hm => (List.mem_cons.1 hm).elim (fun h => e h.symm) hd)]
          simp only [Array.getD_eq_getD_getElem?, Array.getElem?_setIfInBounds]
          rw [if_neg e]
  obtain ⟨h1, h2⟩ := key ds t hs.symm
  have hall : ∀ i, i < x.size → (ds.foldl (fun y d => y.setIfInBounds d (x.getD d undef)) t).getD i undef = x.getD i undef := by
    intro i hi
    rw [h2 i hi]
    by_cases hn : i ∈ ds
    · rw [if_pos hn]
    · rw [if_neg hn, h i hn]
  generalize ds.foldl (fun y d => y.setIfInBounds d (x.getD d undef)) t = R at h1 hall
  apply Array.ext
  · exact h1.symm
  · intro i hi hi'
    have h3 := hall i hi
    simp only [Array.getD_eq_getD_getElem?, Array.getElem?_eq_getElem hi, Array.getElem?_eq_getElem hi', Option.getD_some] at h3
    exact h3.symm
end Go.Proofs.Ytlmjplpledilhaa
