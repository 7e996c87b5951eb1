/-
  A region whose order of operations is open, by an invariant: one obligation an operation, whatever order is picked.
-/
import Derived.WalkKit
import Derived.RegionTactic
import Derived.OrdersIn
import Derived.TacticsIn
namespace Go.Proofs.YtpdlapnliiengaaGreat
open Go.RowKit

section
variable {P : Program} {ops : Array Oper} {Q : Exit → Act → World → Prop} {md : Region.Mode}

/-- How many operations have not come up. -/
def leftN (N : Nat) (listed : Array Bool) : Nat := ((List.range N).filter fun i => !listed.getD i false).length
theorem leftN_zero {N : Nat} {listed : Array Bool} (h : leftN N listed = 0) {i : Nat} (hi : i < N) : listed.getD i false = true := by
  have h1 := List.eq_nil_of_length_eq_zero h
  have h2 := List.filter_eq_nil_iff.1 h1 i (List.mem_range.2 hi)
  simpa using h2
theorem getD_set (listed : Array Bool) (i j : Nat) (hi : i < listed.size) : (listed.setIfInBounds i true).getD j false = (if i = j then true else listed.getD j false) := by
  simp only [Array.getD_eq_getD_getElem?, Array.getElem?_setIfInBounds]
  by_cases e : i = j
  · subst e; simp [hi]
  · simp [e]
theorem filter_lt (l : List Nat) (p q : Nat → Bool) (i : Nat) (hi : i ∈ l) (hpi : p i = true) (hqi : q i = false) (h : ∀ j, q j = true → p j = true) : (l.filter q).length < (l.filter p).length := by
  induction l with
  | nil => cases hi
  | cons a l ih =>
    rcases List.mem_cons.1 hi with rfl | hm
    · rw [List.filter_cons_of_pos hpi, List.filter_cons_of_neg (by simp [hqi])]
      have : (l.filter q).length ≤ (l.filter p).length := by
        have hs : l.filter q = (l.filter p).filter q := by
          rw [List.filter_filter]
          apply List.filter_congr
          intro j _
          cases hj : q j with
          | false => rfl
          | true => simp [h j hj]
        rw [hs]
        exact List.length_filter_le _ _
      simp; omega
    · have := ih hm
      by_cases hp : p a = true
      · rw [List.filter_cons_of_pos hp]
        by_cases hq : q a = true
        · rw [List.filter_cons_of_pos hq]; simp; omega
        · rw [List.filter_cons_of_neg hq]; simp; omega
      · have hq : ¬ q a = true := fun h' => hp (h a h')
        rw [List.filter_cons_of_neg hp, List.filter_cons_of_neg hq]
        exact this
theorem leftN_set {N : Nat} {listed : Array Bool} (hs : listed.size = N) {i : Nat} (hi : i < N) (h : listed.getD i false = false) : leftN N (listed.setIfInBounds i true) < leftN N listed := by
  unfold leftN
  refine filter_lt _ _ _ i (List.mem_range.2 hi) (by simp only [h]; rfl) ?_ ?_
  · show (!(listed.setIfInBounds i true).getD i false) = false
    rw [getD_set _ _ _ (by omega), if_pos rfl]; rfl
  · intro j hj
    have hj' : (!(listed.setIfInBounds i true).getD j false) = true := hj
    rw [getD_set _ _ _ (by omega)] at hj'
    by_cases e : i = j
    · rw [if_pos e] at hj'; cases hj'
    · rw [if_neg e] at hj'; exact hj'

/-- An invariant that every operation that may come up keeps serves every order. -/
theorem wpAny_inv (I : Array Bool → Act → World → Prop) (hI : ∀ listed a w, I listed a w → listed.size = ops.size)
    (hstep : ∀ listed a w, I listed a w → ∀ (i : Nat) (o : Oper), ops[i]? = some o → listed.getD i false = false → (∀ e ∈ o.after, Region.binds md e = true → listed.getD e.on false = true) → wpOp P ops Q i (I (listed.setIfInBounds i true)) a w)
    (hdone : ∀ listed a w, I listed a w → Region.ready md ops listed = [] → Q .normal a w) :
    ∀ fuel listed a w, leftN ops.size listed ≤ fuel → I listed a w → wpAny P md ops Q fuel listed a w := by
  intro fuel
  induction fuel with
  | zero =>
    intro listed a w hl hi
    have hr : Region.ready md ops listed = [] := by
      apply List.eq_nil_iff_forall_not_mem.2
      intro j hj
      obtain ⟨h1, o, ho, _⟩ := mem_ready.1 hj
      have hlt : j < ops.size := (Array.getElem?_eq_some_iff.1 ho).1
      have h2 := leftN_zero (Nat.le_zero.1 hl) hlt
      have hs := hI _ _ _ hi
      have hx : listed.getD j true = listed.getD j false := by
        simp only [Array.getD_eq_getD_getElem?, Array.getElem?_eq_getElem (show j < listed.size by omega)]; rfl
      rw [hx, h2] at h1
      cases h1
    exact ⟨hr, hdone _ _ _ hi hr⟩
  | succ fuel ih =>
    intro listed a w hl hi
    refine ⟨fun hr => hdone _ _ _ hi hr, fun i hir => ?_⟩
    obtain ⟨h1, o, ho, hall⟩ := mem_ready.1 hir
    have hlt : i < ops.size := (Array.getElem?_eq_some_iff.1 ho).1
    have hs := hI _ _ _ hi
    have hx : listed.getD i true = listed.getD i false := by
      simp only [Array.getD_eq_getD_getElem?, Array.getElem?_eq_getElem (show i < listed.size by omega)]; rfl
    rw [hx] at h1
    refine wpOp_mono (fun a' w' hi' => ih _ a' w' ?_ hi') (hstep listed a w hi i o ho h1 hall)
    have := leftN_set hs hlt h1
    omega
/-- Where every operation waits for earlier ones alone, all have come up when none may. -/
theorem all_listed (hac : ∀ (i : Nat) (o : Oper), ops[i]? = some o → ∀ e ∈ o.after, e.on < i) {listed : Array Bool} (hs : listed.size = ops.size) (hr : Region.ready md ops listed = []) : ∀ i, i < ops.size → listed.getD i false = true := by
  intro i
  induction i using Nat.strongRecOn with
  | ind i ih =>
    intro hi
    cases hb : listed.getD i false with
    | true => rfl
    | false =>
      exfalso
      have hx : listed.getD i true = listed.getD i false := by
        simp only [Array.getD_eq_getD_getElem?, Array.getElem?_eq_getElem (show i < listed.size by omega)]; rfl
      have hm : i ∈ Region.ready md ops listed := mem_ready.2 ⟨by rw [hx, hb], ops[i], Array.getElem?_eq_getElem hi, fun e he _ => ih e.on (hac i _ (Array.getElem?_eq_getElem hi) e he) (by have := hac i _ (Array.getElem?_eq_getElem hi) e he; omega)⟩
      rw [hr] at hm
      cases hm

/-- **A region whose order is open, by what each operation leaves in its slot.** d i: operation i's slot; V i v w: v is right for it in the world w. -/
theorem wp_region_inv {id : Nat} (hm : P.follows .mixedOrders = true) (d : Nat → Nat) (V : Nat → Value → World → Prop) (t0 : Array Value) (w0 : World)
    (hdst : ∀ (i : Nat) (o : Oper), ops[i]? = some o → o.dst = some (d i) ∧ d i < t0.size) (hinj : ∀ i j, i < ops.size → j < ops.size → d i = d j → i = j)
    (hac : ∀ (i : Nat) (o : Oper), ops[i]? = some o → ∀ e ∈ o.after, e.on < i)
    (hV : ∀ w w', Below w.heap.size w w' → ∀ i v, V i v w → V i v w')
    (hstep : ∀ (i : Nat) (o : Oper), ops[i]? = some o → ∀ (x : Act) (w : World), Below w0.heap.size w0 w → x.defers = [] → x.tmps.size = t0.size → (∀ s, (∀ j, j < ops.size → s ≠ d j) → x.tmps.getD s undef = t0.getD s undef) →
      (∀ e ∈ o.after, Region.binds .any e = true → V e.on (x.tmps.getD (d e.on) undef) w) → wpOp P ops Q i (fun a' w' => ∃ v, a' = x.put (some (d i)) v ∧ V i v w' ∧ Below w.heap.size w w') x w)
    (hdone : ∀ (x : Act) (w : World), Below w0.heap.size w0 w → x.defers = [] → x.tmps.size = t0.size → (∀ s, (∀ j, j < ops.size → s ≠ d j) → x.tmps.getD s undef = t0.getD s undef) → (∀ i, i < ops.size → V i (x.tmps.getD (d i) undef) w) → Q .normal x w) :
    (Code.region id ops true).wp P Q { tmps := t0, defers := [] } w0 := by
  refine wp_region_any hm ?_
  refine wpAny_inv (fun listed x w => listed.size = ops.size ∧ Below w0.heap.size w0 w ∧ x.defers = [] ∧ x.tmps.size = t0.size ∧ (∀ s, (∀ j, j < ops.size → s ≠ d j) → x.tmps.getD s undef = t0.getD s undef) ∧ (∀ i, i < ops.size → listed.getD i false = true → V i (x.tmps.getD (d i) undef) w))
    (fun _ _ _ h => h.1) ?_ ?_ ops.size _ _ _ ?_ ?_
  · intro listed x w ⟨h1, h2, h3, h4, h5, h6⟩ i o ho hl hdeps
    have hlt : i < ops.size := (Array.getElem?_eq_some_iff.1 ho).1
    refine wpOp_mono ?_ (hstep i o ho x w h2 h3 h4 h5 (fun e he hb => h6 e.on (by have := hac i o ho e he; omega) (hdeps e he hb)))
    rintro a' w' ⟨v, rfl, hv, hb⟩
    refine ⟨by rw [Array.size_setIfInBounds]; exact h1, h2.trans (hb.mono h2.size), h3, by show (x.tmps.setIfInBounds (d i) v).size = _; rw [Array.size_setIfInBounds]; exact h4, fun s hs => ?_, fun j hj hjl => ?_⟩
    · show (x.tmps.setIfInBounds (d i) v).getD s undef = _
      rw [← h5 s hs]
      simp only [Array.getD_eq_getD_getElem?, Array.getElem?_setIfInBounds]
      rw [if_neg (fun e => hs i hlt e.symm)]
    · show V j ((x.tmps.setIfInBounds (d i) v).getD (d j) undef) w'
      by_cases e : i = j
      · subst e
        have hd := (hdst i o ho).2
        simp only [Array.getD_eq_getD_getElem?, Array.getElem?_setIfInBounds, if_true]
        rw [if_pos (by omega)]
        exact hv
      · have hne : d i ≠ d j := fun h => e (hinj i j hlt hj h)
        rw [getD_set _ _ _ (by omega), if_neg e] at hjl
        simp only [Array.getD_eq_getD_getElem?, Array.getElem?_setIfInBounds]
        rw [if_neg hne]
        have := hV w w' hb j _ (h6 j hj hjl)
        simpa only [Array.getD_eq_getD_getElem?] using this
  · intro listed x w ⟨h1, h2, h3, h4, h5, h6⟩ hr
    exact hdone x w h2 h3 h4 h5 (fun i hi => h6 i hi (all_listed hac h1 hr i hi))
  · unfold leftN
    exact Nat.le_trans (List.length_filter_le _ _) (by simp)
  · refine ⟨by simp, (Below.refl _ _).drew, rfl, rfl, fun _ _ => rfl, fun i hi h => ?_⟩
    simp [Array.getD_eq_getD_getElem?, hi] at h
/-- The same by a relation R of the caller's between the worlds (an append onto a row of the region's own is not Below). -/
theorem wp_region_rel {id : Nat} (hm : P.follows .mixedOrders = true) (d : Nat → Nat) (R : World → World → Prop) (V : Nat → Value → World → Prop) (t0 : Array Value) (w0 : World)
    (hdst : ∀ (i : Nat) (o : Oper), ops[i]? = some o → o.dst = some (d i) ∧ d i < t0.size) (hinj : ∀ i j, i < ops.size → j < ops.size → d i = d j → i = j)
    (hac : ∀ (i : Nat) (o : Oper), ops[i]? = some o → ∀ e ∈ o.after, e.on < i)
    (hr0 : R w0 w0.drew) (hRt : ∀ a b c, R a b → R b c → R a c)
    (hV : ∀ w w', R w w' → ∀ i v, V i v w → V i v w')
    (hstep : ∀ (i : Nat) (o : Oper), ops[i]? = some o → ∀ (x : Act) (w : World), R w0 w → x.defers = [] → x.tmps.size = t0.size → (∀ s, (∀ j, j < ops.size → s ≠ d j) → x.tmps.getD s undef = t0.getD s undef) →
      (∀ e ∈ o.after, Region.binds .any e = true → V e.on (x.tmps.getD (d e.on) undef) w) → wpOp P ops Q i (fun a' w' => ∃ v, a' = x.put (some (d i)) v ∧ V i v w' ∧ R w w') x w)
    (hdone : ∀ (x : Act) (w : World), R w0 w → x.defers = [] → x.tmps.size = t0.size → (∀ s, (∀ j, j < ops.size → s ≠ d j) → x.tmps.getD s undef = t0.getD s undef) → (∀ i, i < ops.size → V i (x.tmps.getD (d i) undef) w) → Q .normal x w) :
    (Code.region id ops true).wp P Q { tmps := t0, defers := [] } w0 := by
  refine wp_region_any hm ?_
  refine wpAny_inv (fun listed x w => listed.size = ops.size ∧ R w0 w ∧ x.defers = [] ∧ x.tmps.size = t0.size ∧ (∀ s, (∀ j, j < ops.size → s ≠ d j) → x.tmps.getD s undef = t0.getD s undef) ∧ (∀ i, i < ops.size → listed.getD i false = true → V i (x.tmps.getD (d i) undef) w))
    (fun _ _ _ h => h.1) ?_ ?_ ops.size _ _ _ ?_ ?_
  · intro listed x w ⟨h1, h2, h3, h4, h5, h6⟩ i o ho hl hdeps
    have hlt : i < ops.size := (Array.getElem?_eq_some_iff.1 ho).1
    refine wpOp_mono ?_ (hstep i o ho x w h2 h3 h4 h5 (fun e he hb => h6 e.on (by have := hac i o ho e he; omega) (hdeps e he hb)))
    rintro a' w' ⟨v, rfl, hv, hb⟩
    refine ⟨by rw [Array.size_setIfInBounds]; exact h1, hRt _ _ _ h2 hb, h3, by show (x.tmps.setIfInBounds (d i) v).size = _; rw [Array.size_setIfInBounds]; exact h4, fun s hs => ?_, fun j hj hjl => ?_⟩
    · show (x.tmps.setIfInBounds (d i) v).getD s undef = _
      rw [← h5 s hs]
      simp only [Array.getD_eq_getD_getElem?, Array.getElem?_setIfInBounds]
      rw [if_neg (fun e => hs i hlt e.symm)]
    · show V j ((x.tmps.setIfInBounds (d i) v).getD (d j) undef) w'
      by_cases e : i = j
      · subst e
        have hd := (hdst i o ho).2
        simp only [Array.getD_eq_getD_getElem?, Array.getElem?_setIfInBounds, if_true]
        rw [if_pos (by omega)]
        exact hv
      · have hne : d i ≠ d j := fun h => e (hinj i j hlt hj h)
        rw [getD_set _ _ _ (by omega), if_neg e] at hjl
        simp only [Array.getD_eq_getD_getElem?, Array.getElem?_setIfInBounds]
        rw [if_neg hne]
        have := hV w w' hb j _ (h6 j hj hjl)
        simpa only [Array.getD_eq_getD_getElem?] using this
  · intro listed x w ⟨h1, h2, h3, h4, h5, h6⟩ hr
    exact hdone x w h2 h3 h4 h5 (fun i hi => h6 i hi (all_listed hac h1 hr i hi))
  · unfold leftN
    exact Nat.le_trans (List.length_filter_le _ _) (by simp)
  · refine ⟨by simp, hr0, rfl, rfl, fun _ _ => rfl, fun i hi h => ?_⟩
    simp [Array.getD_eq_getD_getElem?, hi] at h
end

/-- A frame that is told slot by slot. -/
theorem frame_sets (x t : Array Value) (hs : x.size = t.size) (ds : List Nat) (h : ∀ s, s ∉ ds → x.getD s undef = t.getD s undef) : x = ds.foldl (fun y d => y.setIfInBounds d (x.getD d undef)) t := by
  have key : ∀ (ds : List Nat) (y : Array Value), y.size = x.size → (ds.foldl (fun y d => y.setIfInBounds d (x.getD d undef)) y).size = x.size ∧ ∀ i, i < x.size → (ds.foldl (fun y d => y.setIfInBounds d (x.getD d undef)) y).getD i undef = if i ∈ ds then x.getD i undef else y.getD i undef := by
    intro ds
    induction ds with
    | nil => intro y hy; exact ⟨hy, fun i _ => by simp⟩
    | cons d ds ih =>
      intro y hy
      obtain ⟨h1, h2⟩ := ih (y.setIfInBounds d (x.getD d undef)) (by rw [Array.size_setIfInBounds]; exact hy)
      refine ⟨h1, fun i hi => ?_⟩
      rw [List.foldl_cons, h2 i hi]
      by_cases hd : i ∈ ds
      · rw [if_pos hd, if_pos (List.mem_cons_of_mem _ hd)]
      · rw [if_neg hd]
        by_cases e : d = i
        · subst e
          rw [if_pos (List.mem_cons_self ..)]
          simp only [Array.getD_eq_getD_getElem?, Array.getElem?_setIfInBounds, if_true]
          rw [if_pos (by omega)]; rfl
        · rw [if_neg (fun hm => (List.mem_cons.1 hm).elim (fun h => e h.symm) hd)]
          simp only [Array.getD_eq_getD_getElem?, Array.getElem?_setIfInBounds]
          rw [if_neg e]
  obtain ⟨h1, h2⟩ := key ds t hs.symm
  have hall : ∀ i, i < x.size → (ds.foldl (fun y d => y.setIfInBounds d (x.getD d undef)) t).getD i undef = x.getD i undef := by
    intro i hi
    rw [h2 i hi]
    by_cases hn : i ∈ ds
    · rw [if_pos hn]
    · rw [if_neg hn, h i hn]
  generalize ds.foldl (fun y d => y.setIfInBounds d (x.getD d undef)) t = R at h1 hall
  apply Array.ext
  · exact h1.symm
  · intro i hi hi'
    have h3 := hall i hi
    simp only [Array.getD_eq_getD_getElem?, Array.getElem?_eq_getElem hi, Array.getElem?_eq_getElem hi', Option.getD_some] at h3
    exact h3.symm
end Go.Proofs.YtpdlapnliiengaaGreat

/-
  A region whose order is open, inside a fence, whose last two operations (a call of the caller's round, what is made of its answer) wait for all others.
-/
namespace Go.Proofs.YtpdlapnliiengaaGreat
open Go.RowKit

section
variable {F : Fence} {n : Nat} {P : Program} {ops : Array Oper} {Q : Exit → Act → World → Prop} {md : Region.Mode}
/-- An invariant that every operation that may come up keeps serves every order. -/
theorem wpAnyIn_inv (I : Array Bool → Act → World → Prop) (hI : ∀ listed a w, I listed a w → listed.size = ops.size)
    (hstep : ∀ listed a w, I listed a w → ∀ (i : Nat) (o : Oper), ops[i]? = some o → listed.getD i false = false → (∀ e ∈ o.after, Region.binds md e = true → listed.getD e.on false = true) → wpOpIn F n P ops Q i (I (listed.setIfInBounds i true)) a w)
    (hdone : ∀ listed a w, I listed a w → Region.ready md ops listed = [] → Q .normal a w) :
    ∀ fuel listed a w, leftN ops.size listed ≤ fuel → I listed a w → wpAnyIn F n P md ops Q fuel listed a w := by
  intro fuel
  induction fuel with
  | zero =>
    intro listed a w hl hi
    have hr : Region.ready md ops listed = [] := by
      apply List.eq_nil_iff_forall_not_mem.2
      intro j hj
      obtain ⟨h1, o, ho, _⟩ := mem_ready.1 hj
      have hlt : j < ops.size := (Array.getElem?_eq_some_iff.1 ho).1
      have h2 := leftN_zero (Nat.le_zero.1 hl) hlt
      have hs := hI _ _ _ hi
      have hx : listed.getD j true = listed.getD j false := by
        simp only [Array.getD_eq_getD_getElem?, Array.getElem?_eq_getElem (show j < listed.size by omega)]; rfl
      rw [hx, h2] at h1
      cases h1
    exact ⟨hr, hdone _ _ _ hi hr⟩
  | succ fuel ih =>
    intro listed a w hl hi
    refine ⟨fun hr => hdone _ _ _ hi hr, fun i hir => ?_⟩
    obtain ⟨h1, o, ho, hall⟩ := mem_ready.1 hir
    have hlt : i < ops.size := (Array.getElem?_eq_some_iff.1 ho).1
    have hs := hI _ _ _ hi
    have hx : listed.getD i true = listed.getD i false := by
      simp only [Array.getD_eq_getD_getElem?, Array.getElem?_eq_getElem (show i < listed.size by omega)]; rfl
    rw [hx] at h1
    refine wpOpIn_mono (fun a' w' hi' => ih _ a' w' ?_ hi') (hstep listed a w hi i o ho h1 hall)
    have := leftN_set hs hlt h1
    omega
theorem wpOpIn_plain {i : Nat} {o : Oper} {K : Act → World → Prop} {a : Act} {w : World} (ho : ops[i]? = some o) (hg : o.guard = none) (h : o.wpIn F n P a w K Q) : wpOpIn F n P ops Q i K a w := by
  unfold wpOpIn
  rw [ho]
  simp only [Region.wanted, hg, if_true]
  exact h
theorem oper_in (hF : ∀ f, F.fn f) {o : Oper} {K : Act → World → Prop} {a : Act} {w : World} (h : o.uponIn F n P a K Q ((o.semAt F.round a.eval).run P w)) : o.wpIn F n P a w K Q := ⟨fun f _ => hF f, h⟩

theorem oper_inK (hF : ∀ f, F.fn f) {o : Oper} {K : Act → World → Prop} {a : Act} {w : World} (h : ∀ K' : Act → World → Prop, (∀ a w, K a w → K' a w) → o.uponIn F n P a K' Q ((o.semAt F.round a.eval).run P w)) : o.wpIn F n P a w K Q := ⟨fun f _ => hF f, h K (fun _ _ h => h)⟩
/-- What has come up. -/
def upTo (ops : Array Oper) (listed : Array Bool) : Prop := ∀ (i : Nat) (o : Oper), ops[i]? = some o → listed.getD i false = true → ∀ e ∈ o.after, Region.binds .any e = true → listed.getD e.on false = true
theorem wpIn_region_last2 {id : Nat} (m : Nat) (hN : ops.size = m + 2) (hm : P.follows .mixedOrders = true) (d : Nat → Nat) (V : Nat → Value → World → Prop) (t0 : Array Value) (w0 : World)
    (hdst : ∀ (i : Nat) (o : Oper), ops[i]? = some o → i < m → o.dst = some (d i) ∧ d i < t0.size) (hinj : ∀ i j, i < m → j < m → d i = d j → i = j)
    (hac : ∀ (i : Nat) (o : Oper), ops[i]? = some o → ∀ e ∈ o.after, e.on < i)
    (hreach : ∀ (listed : Array Bool) (o : Oper), upTo ops listed → ops[m]? = some o → (∀ e ∈ o.after, Region.binds .any e = true → listed.getD e.on false = true) → ∀ j, j < m → listed.getD j false = true)
    (hlast : ∀ o : Oper, ops[m + 1]? = some o → ∃ e ∈ o.after, Region.binds .any e = true ∧ e.on = m)
    (hV : ∀ w w', Below w.heap.size w w' → ∀ i v, V i v w → V i v w')
    (hstep : ∀ (i : Nat) (o : Oper), ops[i]? = some o → i < m → ∀ (x : Act) (w : World), Below w0.heap.size w0 w → x.defers = [] → x.tmps.size = t0.size → (∀ s, (∀ j, j < m → s ≠ d j) → x.tmps.getD s undef = t0.getD s undef) →
      (∀ e ∈ o.after, Region.binds .any e = true → V e.on (x.tmps.getD (d e.on) undef) w) → wpOpIn F n P ops Q i (fun a' w' => ∃ v, a' = x.put (some (d i)) v ∧ V i v w' ∧ Below w.heap.size w w') x w)
    (hdone : ∀ (x : Act) (w : World), Below w0.heap.size w0 w → x.defers = [] → x.tmps.size = t0.size → (∀ s, (∀ j, j < m → s ≠ d j) → x.tmps.getD s undef = t0.getD s undef) → (∀ i, i < m → V i (x.tmps.getD (d i) undef) w) →
      wpOpIn F n P ops Q m (fun a' w' => wpOpIn F n P ops Q (m + 1) (Q .normal) a' w') x w) :
    (Code.region id ops true).wpIn F n P Q { tmps := t0, defers := [] } w0 := by
  refine wpIn_region_any hm ?_
  refine wpAnyIn_inv (fun listed x w => listed.size = ops.size ∧ upTo ops listed ∧
      ((listed.getD m false = false ∧ listed.getD (m + 1) false = false ∧ Below w0.heap.size w0 w ∧ x.defers = [] ∧ x.tmps.size = t0.size ∧ (∀ s, (∀ j, j < m → s ≠ d j) → x.tmps.getD s undef = t0.getD s undef) ∧ (∀ i, i < m → listed.getD i false = true → V i (x.tmps.getD (d i) undef) w)) ∨
       ((∀ j, j ≤ m → listed.getD j false = true) ∧ listed.getD (m + 1) false = false ∧ wpOpIn F n P ops Q (m + 1) (Q .normal) x w) ∨
       ((∀ j, j ≤ m + 1 → listed.getD j false = true) ∧ Q .normal x w)))
    (fun _ _ _ h => h.1) ?_ ?_ ops.size _ _ _ ?_ ?_
  · intro listed x w ⟨h1, hup, hph⟩ i o ho hl hdeps
    have hlt : i < ops.size := (Array.getElem?_eq_some_iff.1 ho).1
    have hup' : upTo ops (listed.setIfInBounds i true) := by
      intro j o' ho' hj e he hb
      rw [getD_set _ _ _ (by omega)] at hj ⊢
      by_cases e1 : i = e.on
      · rw [if_pos e1]
      · rw [if_neg e1]
        by_cases e2 : i = j
        · subst e2
          rw [ho] at ho'
          cases ho'
          exact hdeps e he hb
        · rw [if_neg e2] at hj
          exact hup j o' ho' hj e he hb
    rcases hph with ⟨hm0, hm1, h2, h3, h4, h5, h6⟩ | ⟨ha, hb, hw⟩ | ⟨ha, hw⟩
    · rcases Nat.lt_trichotomy i m with him | him | him
      · refine wpOpIn_mono ?_ (hstep i o ho him x w h2 h3 h4 h5 (fun e he hb => h6 e.on (by have := hac i o ho e he; omega) (hdeps e he hb)))
        rintro a' w' ⟨v, rfl, hv, hbl⟩
        refine ⟨by rw [Array.size_setIfInBounds]; exact h1, hup', .inl ⟨?_, ?_, h2.trans (hbl.mono h2.size), h3, by show (x.tmps.setIfInBounds (d i) v).size = _; rw [Array.size_setIfInBounds]; exact h4, fun s hs => ?_, fun j hj hjl => ?_⟩⟩
        · rw [getD_set _ _ _ (by omega), if_neg (by omega)]; exact hm0
        · rw [getD_set _ _ _ (by omega), if_neg (by omega)]; exact hm1
        · show (x.tmps.setIfInBounds (d i) v).getD s undef = _
          rw [← h5 s hs]
          simp only [Array.getD_eq_getD_getElem?, Array.getElem?_setIfInBounds]
          rw [if_neg (fun e => hs i him e.symm)]
        · show V j ((x.tmps.setIfInBounds (d i) v).getD (d j) undef) w'
          by_cases e : i = j
          · subst e
            have hd := (hdst i o ho him).2
            simp only [Array.getD_eq_getD_getElem?, Array.getElem?_setIfInBounds, if_true]
            rw [if_pos (by omega)]
            exact hv
          · have hne : d i ≠ d j := fun h => e (hinj i j him hj h)
            rw [getD_set _ _ _ (by omega), if_neg e] at hjl
            simp only [Array.getD_eq_getD_getElem?, Array.getElem?_setIfInBounds]
            rw [if_neg hne]
            have := hV w w' hbl j _ (h6 j hj hjl)
            simpa only [Array.getD_eq_getD_getElem?] using this
      · subst him
        have hall := hreach listed o hup ho hdeps
        refine wpOpIn_mono ?_ (hdone x w h2 h3 h4 h5 (fun j hj => h6 j hj (hall j hj)))
        intro a' w' hq
        refine ⟨by rw [Array.size_setIfInBounds]; exact h1, hup', .inr (.inl ⟨fun j hj => ?_, ?_, hq⟩)⟩
        · rw [getD_set _ _ _ (by omega)]
          by_cases e : i = j
          · rw [if_pos e]
          · rw [if_neg e]; exact hall j (by omega)
        · rw [getD_set _ _ _ (by omega), if_neg (by omega)]; exact hm1
      · have hi : i = m + 1 := by omega
        subst hi
        obtain ⟨e, he, hbi, heo⟩ := hlast o ho
        have := hdeps e he hbi
        rw [heo, hm0] at this
        cases this
    · have hi : i = m + 1 := by
        rcases Nat.lt_or_ge m i with h | h
        · omega
        · have := ha i h
          rw [hl] at this
          cases this
      subst hi
      refine wpOpIn_mono ?_ hw
      intro a' w' hq
      refine ⟨by rw [Array.size_setIfInBounds]; exact h1, hup', .inr (.inr ⟨fun j hj => ?_, hq⟩)⟩
      rw [getD_set _ _ _ (by omega)]
      by_cases e : m + 1 = j
      · rw [if_pos e]
      · rw [if_neg e]; exact ha j (by omega)
    · have := ha i (by omega)
      rw [hl] at this
      cases this
  · intro listed x w ⟨h1, _, hph⟩ hr
    have hall := all_listed hac h1 hr
    rcases hph with ⟨hm0, _⟩ | ⟨_, hb, _⟩ | ⟨_, hw⟩
    · rw [hall m (by omega)] at hm0; cases hm0
    · rw [hall (m + 1) (by omega)] at hb; cases hb
    · exact hw
  · unfold leftN
    exact Nat.le_trans (List.length_filter_le _ _) (by simp)
  · have h0 : ∀ i, (Array.replicate ops.size false).getD i false = false := fun i => by
      rw [Array.getD_eq_getD_getElem?, Array.getElem?_replicate]
      split <;> rfl
    have hu : upTo ops (Array.replicate ops.size false) := by
      intro i o _ h
      rw [h0] at h
      cases h
    refine ⟨by simp, hu, .inl ⟨h0 m, h0 (m + 1), (Below.refl _ _).drew, rfl, rfl, fun _ _ => rfl, fun i _ h => (by rw [h0] at h; cases h)⟩⟩
end
end Go.Proofs.YtpdlapnliiengaaGreat

/-
  A region whose order is open, with one operation (the pivot) that changes what was made before: an append onto a row of the caller's own. Behind it other facts hold. A last operation without a slot (a store) may wait for all others.
-/
namespace Go.Proofs.YtpdlapnliiengaaGreat
open Go.RowKit

theorem act_putD {df : List Deferred} (x : Act) (h : x.defers = df) (d : Nat) (v : Value) : ({ tmps := x.tmps.setIfInBounds d v, defers := df } : Act) = x.put (some d) v := by
  cases x; cases h; rfl
section
variable {P : Program} {ops : Array Oper} {Q : Exit → Act → World → Prop}
theorem wp_region_pivot {id : Nat} (m p : Nat) (hm : P.follows .mixedOrders = true) (hsz : ops.size = m ∨ (ops.size = m + 1 ∧ ∀ (listed : Array Bool) (o : Oper), upTo ops listed → ops[m]? = some o → (∀ e ∈ o.after, Region.binds .any e = true → listed.getD e.on false = true) → ∀ j, j < m → listed.getD j false = true))
    (hpm : p < m) (pre : Nat → Bool) (d : Nat → Nat) (V : Bool → Nat → Value → World → Prop) (G : World → Prop) (t0 : Array Value) (df : List Deferred) (w0 : World)
    (hdst : ∀ (i : Nat) (o : Oper), ops[i]? = some o → i < m → o.dst = some (d i) ∧ d i < t0.size) (hinj : ∀ i j, i < m → j < m → d i = d j → i = j)
    (hac : ∀ (i : Nat) (o : Oper), ops[i]? = some o → ∀ e ∈ o.after, e.on < i)
    (hreach : ∀ (listed : Array Bool) (o : Oper), upTo ops listed → ops[p]? = some o → (∀ e ∈ o.after, Region.binds .any e = true → listed.getD e.on false = true) → ∀ j, j < m → pre j = true → listed.getD j false = true)
    (hprep : pre p = false)
    (hV : ∀ b w w', Below w.heap.size w w' → ∀ i v, V b i v w → V b i v w') (hG : ∀ w w', Below w.heap.size w w' → G w → G w')
    (hstep : ∀ (b : Bool) (i : Nat) (o : Oper), ops[i]? = some o → i < m → i ≠ p → (b = true → pre i = false) → ∀ (x : Act) (w : World), (b = false → Below w0.heap.size w0 w) → (b = true → G w) → x.defers = df → x.tmps.size = t0.size → (∀ s, (∀ j, j < m → s ≠ d j) → x.tmps.getD s undef = t0.getD s undef) →
      (∀ e ∈ o.after, Region.binds .any e = true → V b e.on (x.tmps.getD (d e.on) undef) w) → wpOp P ops Q i (fun a' w' => ∃ v, a' = x.put (some (d i)) v ∧ V b i v w' ∧ Below w.heap.size w w') x w)
    (hpiv : ∀ (o : Oper), ops[p]? = some o → ∀ (x : Act) (w : World), Below w0.heap.size w0 w → x.defers = df → x.tmps.size = t0.size → (∀ s, (∀ j, j < m → s ≠ d j) → x.tmps.getD s undef = t0.getD s undef) →
      (∀ e ∈ o.after, Region.binds .any e = true → V false e.on (x.tmps.getD (d e.on) undef) w) → wpOp P ops Q p (fun a' w' => ∃ v, a' = x.put (some (d p)) v ∧ V true p v w' ∧ G w' ∧ ∀ i u, V false i u w → V true i u w') x w)
    (hdone : ∀ (x : Act) (w : World), G w → x.defers = df → x.tmps.size = t0.size → (∀ s, (∀ j, j < m → s ≠ d j) → x.tmps.getD s undef = t0.getD s undef) → (∀ i, i < m → V true i (x.tmps.getD (d i) undef) w) →
      (ops.size = m → Q .normal x w) ∧ (ops.size = m + 1 → wpOp P ops Q m (Q .normal) x w)) :
    (Code.region id ops true).wp P Q { tmps := t0, defers := df } w0 := by
  refine wp_region_any hm ?_
  refine wpAny_inv (fun listed x w => listed.size = ops.size ∧ upTo ops listed ∧
      ((∃ b : Bool, listed.getD p false = b ∧ listed.getD m false = false ∧ (b = true → ∀ j, j < m → pre j = true → listed.getD j false = true) ∧ (b = false → Below w0.heap.size w0 w) ∧ (b = true → G w) ∧ x.defers = df ∧ x.tmps.size = t0.size ∧ (∀ s, (∀ j, j < m → s ≠ d j) → x.tmps.getD s undef = t0.getD s undef) ∧ (∀ i, i < m → listed.getD i false = true → V b i (x.tmps.getD (d i) undef) w)) ∨
       (ops.size = m + 1 ∧ (∀ j, j < m + 1 → listed.getD j false = true) ∧ Q .normal x w)))
    (fun _ _ _ h => h.1) ?_ ?_ ops.size _ _ _ ?_ ?_
  · intro listed x w ⟨h1, hup, hph⟩ i o ho hl hdeps
    have hlt : i < ops.size := (Array.getElem?_eq_some_iff.1 ho).1
    have hle : ops.size ≤ m + 1 := by rcases hsz with h | ⟨h, _⟩ <;> omega
    have hup' : upTo ops (listed.setIfInBounds i true) := by
      intro j o' ho' hj e he hb
      rw [getD_set _ _ _ (by omega)] at hj ⊢
      by_cases e1 : i = e.on
      · rw [if_pos e1]
      · rw [if_neg e1]
        by_cases e2 : i = j
        · subst e2
          rw [ho] at ho'
          cases ho'
          exact hdeps e he hb
        · rw [if_neg e2] at hj
          exact hup j o' ho' hj e he hb
    rcases hph with ⟨b, hb, hlm, hpr, hB, hGw, h3, h4, h5, h6⟩ | ⟨hs1, ha, hq⟩
    · by_cases him : i < m
      · have frame : ∀ v : Value, ∀ s, (∀ j, j < m → s ≠ d j) → (x.tmps.setIfInBounds (d i) v).getD s undef = t0.getD s undef := fun v s hs => by
          rw [← h5 s hs]
          simp only [Array.getD_eq_getD_getElem?, Array.getElem?_setIfInBounds]
          rw [if_neg (fun e => hs i him e.symm)]
        have same : ∀ v : Value, (x.tmps.setIfInBounds (d i) v).getD (d i) undef = v := fun v => by
          have hd := (hdst i o ho him).2
          simp only [Array.getD_eq_getD_getElem?, Array.getElem?_setIfInBounds, if_true]
          rw [if_pos (by omega)]
          rfl
        have other : ∀ (v : Value) j, j < m → i ≠ j → (x.tmps.setIfInBounds (d i) v).getD (d j) undef = x.tmps.getD (d j) undef := fun v j hj e => by
          have hne : d i ≠ d j := fun h => e (hinj i j him hj h)
          simp only [Array.getD_eq_getD_getElem?, Array.getElem?_setIfInBounds]
          rw [if_neg hne]
        by_cases hip : i = p
        · subst hip
          have hbf : b = false := by rw [← hb, hl]
          subst hbf
          refine wpOp_mono ?_ (hpiv o ho x w (hB rfl) h3 h4 h5 (fun e he hb => h6 e.on (by have := hac i o ho e he; omega) (hdeps e he hb)))
          rintro a' w' ⟨v, rfl, hv, hg, hvv⟩
          have hall := hreach listed o hup ho hdeps
          refine ⟨by rw [Array.size_setIfInBounds]; exact h1, hup', .inl ⟨true, ?_, ?_, fun _ j hj hp => ?_, (by intro h; cases h), fun _ => hg, h3, by show (x.tmps.setIfInBounds (d i) v).size = _; rw [Array.size_setIfInBounds]; exact h4, frame v, fun j hj hjl => ?_⟩⟩
          · rw [getD_set _ _ _ (by omega), if_pos rfl]
          · rw [getD_set _ _ _ (by omega), if_neg (by omega)]; exact hlm
          · rw [getD_set _ _ _ (by omega)]
            by_cases e : i = j
            · rw [if_pos e]
            · rw [if_neg e]; exact hall j hj hp
          · show V true j ((x.tmps.setIfInBounds (d i) v).getD (d j) undef) w'
            by_cases e : i = j
            · subst e; rw [same]; exact hv
            · rw [other v j hj e]
              rw [getD_set _ _ _ (by omega), if_neg e] at hjl
              exact hvv j _ (h6 j hj hjl)
        · have hpi : b = true → pre i = false := fun hbt => by
            cases hpp : pre i with
            | false => rfl
            | true => have := hpr hbt i him hpp; rw [hl] at this; cases this
          refine wpOp_mono ?_ (hstep b i o ho him hip hpi x w hB hGw h3 h4 h5 (fun e he hb => h6 e.on (by have := hac i o ho e he; omega) (hdeps e he hb)))
          rintro a' w' ⟨v, rfl, hv, hbl⟩
          refine ⟨by rw [Array.size_setIfInBounds]; exact h1, hup', .inl ⟨b, ?_, ?_, fun hbt j hj hp => ?_, fun h => (hB h).trans (hbl.mono (hB h).size), fun h => hG _ _ hbl (hGw h), h3, by show (x.tmps.setIfInBounds (d i) v).size = _; rw [Array.size_setIfInBounds]; exact h4, frame v, fun j hj hjl => ?_⟩⟩
          · rw [getD_set _ _ _ (by omega), if_neg hip]; exact hb
          · rw [getD_set _ _ _ (by omega), if_neg (by omega)]; exact hlm
          · rw [getD_set _ _ _ (by omega)]
            by_cases e : i = j
            · rw [if_pos e]
            · rw [if_neg e]; exact hpr hbt j hj hp
          · show V b j ((x.tmps.setIfInBounds (d i) v).getD (d j) undef) w'
            by_cases e : i = j
            · subst e; rw [same]; exact hv
            · rw [other v j hj e]
              rw [getD_set _ _ _ (by omega), if_neg e] at hjl
              exact hV b w w' hbl j _ (h6 j hj hjl)
      · have hi : i = m := by omega
        subst hi
        rcases hsz with h | ⟨hs1, hlast⟩
        · omega
        have hall := hlast listed o hup ho hdeps
        have hbt : b = true := by rw [← hb]; exact hall p hpm
        subst hbt
        refine wpOp_mono ?_ ((hdone x w (hGw rfl) h3 h4 h5 (fun j hj => h6 j hj (hall j hj))).2 hs1)
        intro a' w' hq
        refine ⟨by rw [Array.size_setIfInBounds]; exact h1, hup', .inr ⟨hs1, fun j hj => ?_, hq⟩⟩
        rw [getD_set _ _ _ (by omega)]
        by_cases e : i = j
        · rw [if_pos e]
        · rw [if_neg e]; exact hall j (by omega)
    · have := ha i (by omega)
      rw [hl] at this
      cases this
  · intro listed x w ⟨h1, _, hph⟩ hr
    have hall := all_listed hac h1 hr
    rcases hph with ⟨b, hb, hlm, hpr, hB, hGw, h3, h4, h5, h6⟩ | ⟨_, _, hq⟩
    · rcases hsz with h | ⟨hs1, _⟩
      · have hbt : b = true := by rw [← hb]; exact hall p (by omega)
        subst hbt
        exact (hdone x w (hGw rfl) h3 h4 h5 (fun j hj => h6 j hj (hall j (by omega)))).1 h
      · rw [hall m (by omega)] at hlm; cases hlm
    · exact hq
  · unfold leftN
    exact Nat.le_trans (List.length_filter_le _ _) (by simp)
  · have h0 : ∀ i, (Array.replicate ops.size false).getD i false = false := fun i => by
      rw [Array.getD_eq_getD_getElem?, Array.getElem?_replicate]
      split <;> rfl
    have hu : upTo ops (Array.replicate ops.size false) := by
      intro i o _ h
      rw [h0] at h
      cases h
    exact ⟨by simp, hu, .inl ⟨false, h0 p, h0 m, (by intro h; cases h), fun _ => (Below.refl _ _).drew, (by intro h; cases h), rfl, rfl, fun _ _ => rfl, fun i _ h => (by rw [h0] at h; cases h)⟩⟩
end
end Go.Proofs.YtpdlapnliiengaaGreat

/-
  A region whose order is open, whose calls change a state: what is so until an operation has come up.
-/
namespace Go.Proofs.YtpdlapnliiengaaGreat
open Go.RowKit

section
variable {P : Program} {ops : Array Oper} {Q : Exit → Act → World → Prop}
theorem wp_region_st {id : Nat} (hm : P.follows .mixedOrders = true) (d : Nat → Nat) (V : Nat → Value → Prop) (J : (Nat → Bool) → World → Prop) (t0 : Array Value) (w0 : World)
    (hdst : ∀ (i : Nat) (o : Oper), ops[i]? = some o → o.dst = some (d i) ∧ d i < t0.size) (hinj : ∀ i j, i < ops.size → j < ops.size → d i = d j → i = j)
    (hac : ∀ (i : Nat) (o : Oper), ops[i]? = some o → ∀ e ∈ o.after, e.on < i)
    (hJ0 : J (fun _ => false) w0.drew)
    (hstep : ∀ (i : Nat) (o : Oper), ops[i]? = some o → ∀ (f : Nat → Bool) (x : Act) (w : World), f i = false → J f w → x.defers = [] → x.tmps.size = t0.size → (∀ s, (∀ j, j < ops.size → s ≠ d j) → x.tmps.getD s undef = t0.getD s undef) →
      (∀ e ∈ o.after, Region.binds .any e = true → V e.on (x.tmps.getD (d e.on) undef)) → wpOp P ops Q i (fun a' w' => ∃ v, a' = x.put (some (d i)) v ∧ V i v ∧ J (fun j => if i = j then true else f j) w') x w)
    (hdone : ∀ (f : Nat → Bool) (x : Act) (w : World), (∀ j, j < ops.size → f j = true) → J f w → x.defers = [] → x.tmps.size = t0.size → (∀ s, (∀ j, j < ops.size → s ≠ d j) → x.tmps.getD s undef = t0.getD s undef) → (∀ i, i < ops.size → V i (x.tmps.getD (d i) undef)) → Q .normal x w) :
    (Code.region id ops true).wp P Q { tmps := t0, defers := [] } w0 := by
  refine wp_region_any hm ?_
  refine wpAny_inv (fun listed x w => listed.size = ops.size ∧ J (fun j => listed.getD j false) w ∧ x.defers = [] ∧ x.tmps.size = t0.size ∧ (∀ s, (∀ j, j < ops.size → s ≠ d j) → x.tmps.getD s undef = t0.getD s undef) ∧ (∀ i, i < ops.size → listed.getD i false = true → V i (x.tmps.getD (d i) undef)))
    (fun _ _ _ h => h.1) ?_ ?_ ops.size _ _ _ ?_ ?_
  · intro listed x w ⟨h1, h2, h3, h4, h5, h6⟩ i o ho hl hdeps
    have hlt : i < ops.size := (Array.getElem?_eq_some_iff.1 ho).1
    refine wpOp_mono ?_ (hstep i o ho _ x w hl h2 h3 h4 h5 (fun e he hb => h6 e.on (by have := hac i o ho e he; omega) (hdeps e he hb)))
    rintro a' w' ⟨v, rfl, hv, hb⟩
    refine ⟨by rw [Array.size_setIfInBounds]; exact h1, ?_, h3, by show (x.tmps.setIfInBounds (d i) v).size = _; rw [Array.size_setIfInBounds]; exact h4, fun s hs => ?_, fun j hj hjl => ?_⟩
    · have e : (fun j => (listed.setIfInBounds i true).getD j false) = fun j => if i = j then true else listed.getD j false := by
        funext j
        rw [getD_set _ _ _ (by omega)]
      rw [e]
      exact hb
    · show (x.tmps.setIfInBounds (d i) v).getD s undef = _
      rw [← h5 s hs]
      simp only [Array.getD_eq_getD_getElem?, Array.getElem?_setIfInBounds]
      rw [if_neg (fun e => hs i hlt e.symm)]
    · show V j ((x.tmps.setIfInBounds (d i) v).getD (d j) undef)
      by_cases e : i = j
      · subst e
        have hd := (hdst i o ho).2
        simp only [Array.getD_eq_getD_getElem?, Array.getElem?_setIfInBounds, if_true]
        rw [if_pos (by omega)]
        exact hv
      · have hne : d i ≠ d j := fun h => e (hinj i j hlt hj h)
        rw [getD_set _ _ _ (by omega), if_neg e] at hjl
        simp only [Array.getD_eq_getD_getElem?, Array.getElem?_setIfInBounds]
        rw [if_neg hne]
        have := h6 j hj hjl
        simpa only [Array.getD_eq_getD_getElem?] using this
  · intro listed x w ⟨h1, h2, h3, h4, h5, h6⟩ hr
    exact hdone _ x w (fun i hi => all_listed hac h1 hr i hi) h2 h3 h4 h5 (fun i hi => h6 i hi (all_listed hac h1 hr i hi))
  · unfold leftN
    exact Nat.le_trans (List.length_filter_le _ _) (by simp)
  · have h0 : ∀ i, (Array.replicate ops.size false).getD i false = false := fun i => by
      rw [Array.getD_eq_getD_getElem?, Array.getElem?_replicate]
      split <;> rfl
    refine ⟨by simp, ?_, rfl, rfl, fun _ _ => rfl, fun i hi h => by rw [h0] at h; cases h⟩
    rw [show (fun j => (Array.replicate ops.size false).getD j false) = fun _ => false from funext h0]
    exact hJ0
end
end Go.Proofs.YtpdlapnliiengaaGreat
