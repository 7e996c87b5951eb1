/-
  A region whose order is open, inside a fence, whose last two operations (a call of the caller's round, what is made of its answer) wait for all others.
-/
import Derived.Test.YtlmjplpledilhaaRegion
import Derived.OrdersIn
import Derived.TacticsIn
namespace Go.Proofs.Ytlmjplpledilhaa
open Go.RowKit

section
variable {F : Fence} {n : Nat} {P : Program} {ops : Array Oper} {Q : Exit → Act → World → Prop} {md : Region.Mode}
/-- An invariant that every operation that may come up keeps serves every order. -/
theorem wpAnyIn_inv (I : Array Bool → Act → World → Prop) (hI : ∀ listed a w, I listed a w → listed.size = ops.size)
    (hstep : ∀ listed a w, I listed a w → ∀ (i : Nat) (o : Oper), ops[i]? = some o → listed.getD i false = false → (∀ e ∈ o.after, Region.binds md e = true → listed.getD e.on false = true) → wpOpIn F n P ops Q i (I (listed.setIfInBounds i true)) a w)
    (hdone : ∀ listed a w, I listed a w → Region.ready md ops listed = [] → Q .normal a w) :
    ∀ fuel listed a w, leftN ops.size listed ≤ fuel → I listed a w → wpAnyIn F n P md ops Q fuel listed a w := by
  intro fuel
  induction fuel with
  | zero =>
    intro listed a w hl hi
    have hr : Region.ready md ops listed = [] := by
      apply List.eq_nil_iff_forall_not_mem.2
      intro j hj
      obtain ⟨h1, o, ho, _⟩ := mem_ready.1 hj
      have hlt : j < ops.size := (Array.getElem?_eq_some_iff.1 ho).1
      have h2 := leftN_zero (Nat.le_zero.1 hl) hlt
      have hs := hI _ _ _ hi
      have hx : listed.getD j true = listed.getD j false := by
        simp only [Array.getD_eq_getD_getElem?, Array.getElem?_eq_getElem (show j < listed.size by omega)]; rfl
      rw [hx, h2] at h1
      cases h1
    exact ⟨hr, hdone _ _ _ hi hr⟩
  | succ fuel ih =>
    intro listed a w hl hi
    refine ⟨fun hr => hdone _ _ _ hi hr, fun i hir => ?_⟩
    obtain ⟨h1, o, ho, hall⟩ := mem_ready.1 hir
    have hlt : i < ops.size := (Array.getElem?_eq_some_iff.1 ho).1
    have hs := hI _ _ _ hi
    have hx : listed.getD i true = listed.getD i false := by
      simp only [Array.getD_eq_getD_getElem?, Array.getElem?_eq_getElem (show i < listed.size by omega)]; rfl
    rw [hx] at h1
    refine wpOpIn_mono (fun a' w' hi' => ih _ a' w' ?_ hi') (hstep listed a w hi i o ho h1 hall)
    have := leftN_set hs hlt h1
    omega
theorem wpOpIn_plain {i : Nat} {o : Oper} {K : Act → World → Prop} {a : Act} {w : World} (ho : ops[i]? = some o) (hg : o.guard = none) (h : o.wpIn F n P a w K Q) : wpOpIn F n P ops Q i K a w := by
  unfold wpOpIn
  rw [ho]
  simp only [Region.wanted, hg, if_true]
  exact h
theorem oper_in (hF : ∀ f, F.fn f) {o : Oper} {K : Act → World → Prop} {a : Act} {w : World} (h : o.uponIn F n P a K Q ((o.semAt F.round a.eval).run P w)) : o.wpIn F n P a w K Q := ⟨fun f _ => hF f, h⟩

theorem oper_inK (hF : ∀ f, F.fn f) {o : Oper} {K : Act → World → Prop} {a : Act} {w : World} (h : ∀ K' : Act → World → Prop, (∀ a w, K a w → K' a w) → o.uponIn F n P a K' Q ((o.semAt F.round a.eval).run P w)) : o.wpIn F n P a w K Q := ⟨fun f _ => hF f, h K (fun _ _ h => h)⟩
/-- What has come up. -/
def upTo (ops : Array Oper) (listed : Array Bool) : Prop := ∀ (i : Nat) (o : Oper), ops[i]? = some o → listed.getD i false = true → ∀ e ∈ o.after, Region.binds .any e = true → listed.getD e.on false = true
theorem wpIn_region_last2 {id : Nat} (m : Nat) (hN : ops.size = m + 2) (hm : P.follows .mixedOrders = true) (d : Nat → Nat) (V : Nat → Value → World → Prop) (t0 : Array Value) (w0 : World)
    (hdst : ∀ (i : Nat) (o : Oper), ops[i]? = some o → i < m → o.dst = some (d i) ∧ d i < t0.size) (hinj : ∀ i j, i < m → j < m → d i = d j → i = j)
    (hac : ∀ (i : Nat) (o : Oper), ops[i]? = some o → ∀ e ∈ o.after, e.on < i)
    (hreach : ∀ (listed : Array Bool) (o : Oper), upTo ops listed → ops[m]? = some o → (∀ e ∈ o.after, Region.binds .any e = true → listed.getD e.on false = true) → ∀ j, j < m → listed.getD j false = true)
    (hlast : ∀ o : Oper, ops[m + 1]? = some o → ∃ e ∈ o.after, Region.binds .any e = true ∧ e.on = m)
    (hV : ∀ w w', Below w.heap.size w w' → ∀ i v, V i v w → V i v w')
    (hstep : ∀ (i : Nat) (o : Oper), ops[i]? = some o → i < m → ∀ (x : Act) (w : World), Below w0.heap.size w0 w → x.defers = [] → x.tmps.size = t0.size → (∀ s, (∀ j, j < m → s ≠ d j) → x.tmps.getD s undef = t0.getD s undef) →
      (∀ e ∈ o.after, Region.binds .any e = true → V e.on (x.tmps.getD (d e.on) undef) w) → wpOpIn F n P ops Q i (fun a' w' => ∃ v, a' = x.put (some (d i)) v ∧ V i v w' ∧ Below w.heap.size w w') x w)
    (hdone : ∀ (x : Act) (w : World), Below w0.heap.size w0 w → x.defers = [] → x.tmps.size = t0.size → (∀ s, (∀ j, j < m → s ≠ d j) → x.tmps.getD s undef = t0.getD s undef) → (∀ i, i < m → V i (x.tmps.getD (d i) undef) w) →
      wpOpIn F n P ops Q m (fun a' w' => wpOpIn F n P ops Q (m + 1) (Q .normal) a' w') x w) :
    (Code.region id ops true).wpIn F n P Q { tmps := t0, defers := [] } w0 := by
  refine wpIn_region_any hm ?_
  refine wpAnyIn_inv (fun listed x w => listed.size = ops.size ∧ upTo ops listed ∧
      ((listed.getD m false = false ∧ listed.getD (m + 1) false = false ∧ Below w0.heap.size w0 w ∧ x.defers = [] ∧ x.tmps.size = t0.size ∧ (∀ s, (∀ j, j < m → s ≠ d j) → x.tmps.getD s undef = t0.getD s undef) ∧ (∀ i, i < m → listed.getD i false = true → V i (x.tmps.getD (d i) undef) w)) ∨
       ((∀ j, j ≤ m → listed.getD j false = true) ∧ listed.getD (m + 1) false = false ∧ wpOpIn F n P ops Q (m + 1) (Q .normal) x w) ∨
       ((∀ j, j ≤ m + 1 → listed.getD j false = true) ∧ Q .normal x w)))
    (fun _ _ _ h => h.1) ?_ ?_ ops.size _ _ _ ?_ ?_
  · intro listed x w ⟨h1, hup, hph⟩ i o ho hl hdeps
    have hlt : i < ops.size := (Array.getElem?_eq_some_iff.1 ho).1
    have hup' : upTo ops (listed.setIfInBounds i true) := by
      intro j o' ho' hj e he hb
      rw [getD_set _ _ _ (by omega)] at hj ⊢
      by_cases e1 : i = e.on
      · rw [if_pos e1]
      · rw [if_neg e1]
        by_cases e2 : i = j
        · subst e2
          rw [ho] at ho'
          cases ho'
          exact hdeps e he hb
        · rw [if_neg e2] at hj
          exact hup j o' ho' hj e he hb
    rcases hph with ⟨hm0, hm1, h2, h3, h4, h5, h6⟩ | ⟨ha, hb, hw⟩ | ⟨ha, hw⟩
    · rcases Nat.lt_trichotomy i m with him | him | him
      · refine wpOpIn_mono ?_ (hstep i o ho him x w h2 h3 h4 h5 (fun e he hb => h6 e.on (by have := hac i o ho e he; omega) (hdeps e he hb)))
        rintro a' w' ⟨v, rfl, hv, hbl⟩
        refine ⟨by rw [Array.size_setIfInBounds]; exact h1, hup', .inl ⟨?_, ?_, h2.trans (hbl.mono h2.size), h3, by show (x.tmps.setIfInBounds (d i) v).size = _; rw [Array.size_setIfInBounds]; exact h4, fun s hs => ?_, fun j hj hjl => ?_⟩⟩
        · rw [getD_set _ _ _ (by omega), if_neg (by omega)]; exact hm0
        · rw [getD_set _ _ _ (by omega), if_neg (by omega)]; exact hm1
        · show (x.tmps.setIfInBounds (d i) v).getD s undef = _
          rw [← h5 s hs]
          simp only [Array.getD_eq_getD_getElem?, Array.getElem?_setIfInBounds]
          rw [if_neg (fun e => hs i him e.symm)]
        · show V j ((x.tmps.setIfInBounds (d i) v).getD (d j) undef) w'
          by_cases e : i = j
          · subst e
            have hd := (hdst i o ho him).2
            simp only [Array.getD_eq_getD_getElem?, Array.getElem?_setIfInBounds, if_true]
            rw [if_pos (by omega)]
            exact hv
          · have hne : d i ≠ d j := fun h => e (hinj i j him hj h)
            rw [getD_set _ _ _ (by omega), if_neg e] at hjl
            simp only [Array.getD_eq_getD_getElem?, Array.getElem?_setIfInBounds]
            rw [if_neg hne]
            have := hV w w' hbl j _ (h6 j hj hjl)
            simpa only [Array.getD_eq_getD_getElem?] using this
      · subst him
        have hall := hreach listed o hup ho hdeps
        refine wpOpIn_mono ?_ (hdone x w h2 h3 h4 h5 (fun j hj => h6 j hj (hall j hj)))
        intro a' w' hq
        refine ⟨by rw [Array.size_setIfInBounds]; exact h1, hup', .inr (.inl ⟨fun j hj => ?_, ?_, hq⟩)⟩
        · rw [getD_set _ _ _ (by omega)]
          by_cases e : i = j
          · rw [if_pos e]
          · rw [if_neg e]; exact hall j (by omega)
        · rw [getD_set _ _ _ (by omega), if_neg (by omega)]; exact hm1
      · have hi : i = m + 1 := by omega
        subst hi
        obtain ⟨e, he, hbi, heo⟩ := hlast o ho
        have := hdeps e he hbi
        rw [heo, hm0] at this
        cases this
    · have hi : i = m + 1 := by
        rcases Nat.lt_or_ge m i with h | h
        · omega
        · have := ha i h
          rw [hl] at this
          cases this
      subst hi
      refine wpOpIn_mono ?_ hw
      intro a' w' hq
      refine ⟨by rw [Array.size_setIfInBounds]; exact h1, hup', .inr (.inr ⟨fun j hj => ?_, hq⟩)⟩
      rw [getD_set _ _ _ (by omega)]
      by_cases e : m + 1 = j
      · rw [if_pos e]
      · rw [if_neg e]; exact ha j (by omega)
    · have := ha i (by omega)
      rw [hl] at this
      cases this
  · intro listed x w ⟨h1, _, hph⟩ hr
    have hall := all_listed hac h1 hr
    rcases hph with ⟨hm0, _⟩ | ⟨_, hb, _⟩ | ⟨_, hw⟩
    · rw [hall m (by omega)] at hm0; cases hm0
    · rw [hall (m + 1) (by omega)] at hb; cases hb
    · exact hw
  · unfold leftN
    exact Nat.le_trans (List.length_filter_le _ _) (by simp)
  · have h0 : ∀ i, (Array.replicate ops.size false).getD i false = false := fun i => by
      rw [Array.getD_eq_getD_getElem?, Array.getElem?_replicate]
      split <;> rfl
    have hu : upTo ops (Array.replicate ops.size false) := by
      intro i o _ h
      rw [h0] at h
      cases h
    refine ⟨by simp, hu, .inl ⟨h0 m, h0 (m + 1), (Below.refl _ _).drew, rfl, rfl, fun _ _ => rfl, fun i _ h => (by rw [h0] at h; cases h)⟩⟩
end
end Go.Proofs.Ytlmjplpledilhaa
