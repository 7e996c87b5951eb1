/-
  A region whose order of operations is open, by an invariant: one obligation an operation, whatever order is picked.
-/
import Derived.WalkKit
import Derived.RegionTactic
import Derived.OrdersIn
import Derived.TacticsIn
set_option linter.unusedVariables false
set_option linter.unusedSimpArgs false
namespace Go.Proofs.YtpmldopbjlnknaaGreat
open Go.RowKit
section
variable {P : Program} {ops : Array Oper} {Q : Exit → Act → World → Prop} {md : Region.Mode}
def leftN (N : Nat) (listed : Array Bool) : Nat := ((List.range N).filter fun i => !listed.getD i false).length
theorem leftN_zero {N : Nat} {listed : Array Bool} (h : leftN N listed = 0) {i : Nat} (hi : i < N) : listed.getD i false = true := by
 have h1 := List.eq_nil_of_length_eq_zero h
 have h2 := List.filter_eq_nil_iff.1 h1 i (List.mem_range.2 hi)
 simpa using h2
theorem getD_set (listed : Array Bool) (i j : Nat) (hi : i < listed.size) : (listed.setIfInBounds i true).getD j false = (if i = j then true else listed.getD j false) := by
 simp only [Array.getD_eq_getD_getElem?, Array.getElem?_setIfInBounds]
 by_cases e : i = j
 ·subst e; simp [hi]
 ·simp [e]
theorem filter_lt (l : List Nat) (p q : Nat → Bool) (i : Nat) (hi : i ∈ l) (hpi : p i = true) (hqi : q i = false) (h : ∀ j, q j = true → p j = true) : (l.filter q).length < (l.filter p).length := by
 induction l with
 | nil => cases hi
 | cons a l ih =>
   rcases List.mem_cons.1 hi with rfl | hm
   ·rw [List.filter_cons_of_pos hpi, List.filter_cons_of_neg (by simp [hqi])]
    have : (l.filter q).length ≤ (l.filter p).length := by
     have hs : l.filter q = (l.filter p).filter q := by
      rw [List.filter_filter]
      apply List.filter_congr
      intro j _
      cases hj : q j with
      | false => rfl
      | true => simp [h j hj]
     rw [hs]
     exact List.length_filter_le _ _
    simp; omega
   ·have := ih hm
    by_cases hp : p a = true
    ·rw [List.filter_cons_of_pos hp]
     by_cases hq : q a = true
     ·rw [List.filter_cons_of_pos hq]; simp; omega
     ·rw [List.filter_cons_of_neg hq]; simp; omega
    ·have hq : ¬ q a = true := fun h' => hp (h a h')
     rw [List.filter_cons_of_neg hp, List.filter_cons_of_neg hq]
     exact this
theorem leftN_set {N : Nat} {listed : Array Bool} (hs : listed.size = N) {i : Nat} (hi : i < N) (h : listed.getD i false = false) : leftN N (listed.setIfInBounds i true) < leftN N listed := by
 unfold leftN
 refine filter_lt _ _ _ i (List.mem_range.2 hi) (by simp only [h]; rfl) ?_ ?_
 ·show (!(listed.setIfInBounds i true).getD i false) = false
  rw [getD_set _ _ _ (by omega), if_pos rfl]; rfl
 ·intro j hj
  have hj' : (!(listed.setIfInBounds i true).getD j false) = true := hj
  rw [getD_set _ _ _ (by omega)] at hj'
  by_cases e : i = j
  ·rw [if_pos e] at hj'; cases hj'
  ·rw [if_neg e] at hj'; exact hj'
end
theorem frame_sets (x t : Array Value) (hs : x.size = t.size) (ds : List Nat) (h : ∀ s, s ∉ ds → x.getD s undef = t.getD s undef) : x = ds.foldl (fun y d => y.setIfInBounds d (x.getD d undef)) t := by
 have key : ∀ (ds : List Nat) (y : Array Value), y.size = x.size → (ds.foldl (fun y d => y.setIfInBounds d (x.getD d undef)) y).size = x.size ∧ ∀ i, i < x.size → (ds.foldl (fun y d => y.setIfInBounds d (x.getD d undef)) y).getD i undef = if i ∈ ds then x.getD i undef else y.getD i undef := by
  intro ds
  induction ds with
  | nil => intro y hy; exact ⟨hy, fun i _ => by simp⟩
  | cons d ds ih =>
    intro y hy
    obtain ⟨h1, h2⟩ := ih (y.setIfInBounds d (x.getD d undef)) (by rw [Array.size_setIfInBounds]; exact hy)
    refine ⟨h1, fun i hi => ?_⟩
    rw [List.foldl_cons, h2 i hi]
    by_cases hd : i ∈ ds
    ·rw [if_pos hd, if_pos (List.mem_cons_of_mem _ hd)]
    ·rw [if_neg hd]
     by_cases e : d = i
     ·subst e
      rw [if_pos (List.mem_cons_self ..)]
      simp only [Array.getD_eq_getD_getElem?, Array.getElem?_setIfInBounds, if_true]
      rw [if_pos (by omega)]; rfl
     ·rw [if_neg (fun hm => (List.mem_cons.1 hm).elim (fun h => e h.symm) hd)]
      simp only [Array.getD_eq_getD_getElem?, Array.getElem?_setIfInBounds]
      rw [if_neg e]
 obtain ⟨h1, h2⟩ := key ds t hs.symm
 have hall : ∀ i, i < x.size → (ds.foldl (fun y d => y.setIfInBounds d (x.getD d undef)) t).getD i undef = x.getD i undef := by
  intro i hi
  rw [h2 i hi]
  by_cases hn : i ∈ ds
  ·rw [if_pos hn]
  ·rw [if_neg hn, h i hn]
 generalize ds.foldl (fun y d => y.setIfInBounds d (x.getD d undef)) t = R at h1 hall
 apply Array.ext
 ·exact h1.symm
 ·intro i hi hi'
  have h3 := hall i hi
  simp only [Array.getD_eq_getD_getElem?, Array.getElem?_eq_getElem hi, Array.getElem?_eq_getElem hi', Option.getD_some] at h3
  exact h3.symm
open Go.RowKit
section
variable {F : Fence} {n : Nat} {P : Program} {ops : Array Oper} {Q : Exit → Act → World → Prop} {md : Region.Mode}
theorem wpAnyIn_inv (I : Array Bool → Act → World → Prop) (hI : ∀ listed a w, I listed a w → listed.size = ops.size)
  (hstep : ∀ listed a w, I listed a w → ∀ (i : Nat) (o : Oper), ops[i]? = some o → listed.getD i false = false → (∀ e ∈ o.after, Region.binds md e = true → listed.getD e.on false = true) → wpOpIn F n P ops Q i (I (listed.setIfInBounds i true)) a w)
  (hdone : ∀ listed a w, I listed a w → Region.ready md ops listed = [] → Q .normal a w) :
  ∀ fuel listed a w, leftN ops.size listed ≤ fuel → I listed a w → wpAnyIn F n P md ops Q fuel listed a w := by
 intro fuel
 induction fuel with
 | zero =>
   intro listed a w hl hi
   have hr : Region.ready md ops listed = [] := by
    apply List.eq_nil_iff_forall_not_mem.2
    intro j hj
    obtain ⟨h1, o, ho, _⟩ := mem_ready.1 hj
    have hlt : j < ops.size := (Array.getElem?_eq_some_iff.1 ho).1
    have h2 := leftN_zero (Nat.le_zero.1 hl) hlt
    have hs := hI _ _ _ hi
    have hx : listed.getD j true = listed.getD j false := by
     simp only [Array.getD_eq_getD_getElem?, Array.getElem?_eq_getElem (show j < listed.size by omega)]; rfl
    rw [hx, h2] at h1
    cases h1
   exact ⟨hr, hdone _ _ _ hi hr⟩
 | succ fuel ih =>
   intro listed a w hl hi
   refine ⟨fun hr => hdone _ _ _ hi hr, fun i hir => ?_⟩
   obtain ⟨h1, o, ho, hall⟩ := mem_ready.1 hir
   have hlt : i < ops.size := (Array.getElem?_eq_some_iff.1 ho).1
   have hs := hI _ _ _ hi
   have hx : listed.getD i true = listed.getD i false := by
    simp only [Array.getD_eq_getD_getElem?, Array.getElem?_eq_getElem (show i < listed.size by omega)]; rfl
   rw [hx] at h1
   refine wpOpIn_mono (fun a' w' hi' => ih _ a' w' ?_ hi') (hstep listed a w hi i o ho h1 hall)
   have := leftN_set hs hlt h1
   omega
theorem wpOpIn_plain {i : Nat} {o : Oper} {K : Act → World → Prop} {a : Act} {w : World} (ho : ops[i]? = some o) (hg : o.guard = none) (h : o.wpIn F n P a w K Q) : wpOpIn F n P ops Q i K a w := by
 unfold wpOpIn
 rw [ho]
 simp only [Region.wanted, hg, if_true]
 exact h
theorem oper_inK (hF : ∀ f, F.fn f) {o : Oper} {K : Act → World → Prop} {a : Act} {w : World} (h : ∀ K' : Act → World → Prop, (∀ a w, K a w → K' a w) → o.uponIn F n P a K' Q ((o.semAt F.round a.eval).run P w)) : o.wpIn F n P a w K Q := ⟨fun f _ => hF f, h K (fun _ _ h => h)⟩
def upTo (ops : Array Oper) (listed : Array Bool) : Prop := ∀ (i : Nat) (o : Oper), ops[i]? = some o → listed.getD i false = true → ∀ e ∈ o.after, Region.binds .any e = true → listed.getD e.on false = true
end
open Go.RowKit
theorem act_putD {df : List Deferred} (x : Act) (h : x.defers = df) (d : Nat) (v : Value) : ({ tmps := x.tmps.setIfInBounds d v, defers := df } : Act) = x.put (some d) v := by
 cases x; cases h; rfl
section
variable {P : Program} {ops : Array Oper} {Q : Exit → Act → World → Prop}
end
open Go.RowKit
section
variable {P : Program} {ops : Array Oper} {Q : Exit → Act → World → Prop}
end
end Go.Proofs.YtpmldopbjlnknaaGreat
