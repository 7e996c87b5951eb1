/-
  A region whose order is open, with one operation (the pivot) that changes what was made before: an append onto a row of the caller's own. Behind it other facts hold. A last operation without a slot (a store) may wait for all others.
-/
import Derived.Test.YtlmjplpledilhaaRegionIn
namespace Go.Proofs.Ytlmjplpledilhaa
open Go.RowKit

theorem act_putD {df : List Deferred} (x : Act) (h : x.defers = df) (d : Nat) (v : Value) : ({ tmps := x.tmps.setIfInBounds d v, defers := df } : Act) = x.put (some d) v := by
  cases x; cases h; rfl
section
variable {P : Program} {ops : Array Oper} {Q : Exit → Act → World → Prop}
theorem wp_region_pivot {id : Nat} (m p : Nat) (hm : P.follows .mixedOrders = true) (hsz : ops.size = m ∨ (ops.size = m + 1 ∧ ∀ (listed : Array Bool) (o : Oper), upTo ops listed → ops[m]? = some o → (∀ e ∈ o.after, Region.binds .any e = true → listed.getD e.on false = true) → ∀ j, j < m → listed.getD j false = true))
    (hpm : p < m) (pre : Nat → Bool) (d : Nat → Nat) (V : Bool → Nat → Value → World → Prop) (G : World → Prop) (t0 : Array Value) (df : List Deferred) (w0 : World)
    (hdst : ∀ (i : Nat) (o : Oper), ops[i]? = some o → i < m → o.dst = some (d i) ∧ d i < t0.size) (hinj : ∀ i j, i < m → j < m → d i = d j → i = j)
    (hac : ∀ (i : Nat) (o : Oper), ops[i]? = some o → ∀ e ∈ o.after, e.on < i)
    (hreach : ∀ (listed : Array Bool) (o : Oper), upTo ops listed → ops[p]? = some o → (∀ e ∈ o.after, Region.binds .any e = true → listed.getD e.on false = true) → ∀ j, j < m → pre j = true → listed.getD j false = true)
    (hprep : pre p = false)
    (hV : ∀ b w w', Below w.heap.size w w' → ∀ i v, V b i v w → V b i v w') (hG : ∀ w w', Below w.heap.size w w' → G w → G w')
    (hstep : ∀ (b : Bool) (i : Nat) (o : Oper), ops[i]? = some o → i < m → i ≠ p → (b = true → pre i = false) → ∀ (x : Act) (w : World), (b = false → Below w0.heap.size w0 w) → (b = true → G w) → x.defers = df → x.tmps.size = t0.size → (∀ s, (∀ j, j < m → s ≠ d j) → x.tmps.getD s undef = t0.getD s undef) →
      (∀ e ∈ o.after, Region.binds .any e = true → V b e.on (x.tmps.getD (d e.on) undef) w) → wpOp P ops Q i (fun a' w' => ∃ v, a' = x.put (some (d i)) v ∧ V b i v w' ∧ Below w.heap.size w w') x w)
    (hpiv : ∀ (o : Oper), ops[p]? = some o → ∀ (x : Act) (w : World), Below w0.heap.size w0 w → x.defers = df → x.tmps.size = t0.size → (∀ s, (∀ j, j < m → s ≠ d j) → x.tmps.getD s undef = t0.getD s undef) →
      (∀ e ∈ o.after, Region.binds .any e = true → V false e.on (x.tmps.getD (d e.on) undef) w) → wpOp P ops Q p (fun a' w' => ∃ v, a' = x.put (some (d p)) v ∧ V true p v w' ∧ G w' ∧ ∀ i u, V false i u w → V true i u w') x w)
    (hdone : ∀ (x : Act) (w : World), G w → x.defers = df → x.tmps.size = t0.size → (∀ s, (∀ j, j < m → s ≠ d j) → x.tmps.getD s undef = t0.getD s undef) → (∀ i, i < m → V true i (x.tmps.getD (d i) undef) w) →
      (ops.size = m → Q .normal x w) ∧ (ops.size = m + 1 → wpOp P ops Q m (Q .normal) x w)) :
    (Code.region id ops true).wp P Q { tmps := t0, defers := df } w0 := by
  refine wp_region_any hm ?_
  refine wpAny_inv (fun listed x w => listed.size = ops.size ∧ upTo ops listed ∧
      ((∃ b : Bool, listed.getD p false = b ∧ listed.getD m false = false ∧ (b = true → ∀ j, j < m → pre j = true → listed.getD j false = true) ∧ (b = false → Below w0.heap.size w0 w) ∧ (b = true → G w) ∧ x.defers = df ∧ x.tmps.size = t0.size ∧ (∀ s, (∀ j, j < m → s ≠ d j) → x.tmps.getD s undef = t0.getD s undef) ∧ (∀ i, i < m → listed.getD i false = true → V b i (x.tmps.getD (d i) undef) w)) ∨
       (ops.size = m + 1 ∧ (∀ j, j < m + 1 → listed.getD j false = true) ∧ Q .normal x w)))
    (fun _ _ _ h => h.1) ?_ ?_ ops.size _ _ _ ?_ ?_
  · intro listed x w ⟨h1, hup, hph⟩ i o ho hl hdeps
    have hlt : i < ops.size := (Array.getElem?_eq_some_iff.1 ho).1
    have hle : ops.size ≤ m + 1 := by rcases hsz with h | ⟨h, _⟩ <;> omega
    have hup' : upTo ops (listed.setIfInBounds i true) := by
      intro j o' ho' hj e he hb
      rw [getD_set _ _ _ (by omega)] at hj ⊢
      by_cases e1 : i = e.on
      · rw [if_pos e1]
      · rw [if_neg e1]
        by_cases e2 : i = j
        · subst e2
          rw [ho] at ho'
          cases ho'
          exact hdeps e he hb
        · rw [if_neg e2] at hj
          exact hup j o' ho' hj e he hb
    rcases hph with ⟨b, hb, hlm, hpr, hB, hGw, h3, h4, h5, h6⟩ | ⟨hs1, ha, hq⟩
    · by_cases him : i < m
      · have frame : ∀ v : Value, ∀ s, (∀ j, j < m → s ≠ d j) → (x.tmps.setIfInBounds (d i) v).getD s undef = t0.getD s undef := fun v s hs => by
          rw [← h5 s hs]
          simp only [Array.getD_eq_getD_getElem?, Array.getElem?_setIfInBounds]
          rw [if_neg (fun e => hs i him e.symm)]
        have same : ∀ v : Value, (x.tmps.setIfInBounds (d i) v).getD (d i) undef = v := fun v => by
          have hd := (hdst i o ho him).2
          simp only [Array.getD_eq_getD_getElem?, Array.getElem?_setIfInBounds, if_true]
          rw [if_pos (by omega)]
          rfl
        have other : ∀ (v : Value) j, j < m → i ≠ j → (x.tmps.setIfInBounds (d i) v).getD (d j) undef = x.tmps.getD (d j) undef := fun v j hj e => by
          have hne : d i ≠ d j := fun h => e (hinj i j him hj h)
          simp only [Array.getD_eq_getD_getElem?, Array.getElem?_setIfInBounds]
          rw [if_neg hne]
        by_cases hip : i = p
        · subst hip
          have hbf : b = false := by rw [← hb, hl]
          subst hbf
          refine wpOp_mono ?_ (hpiv o ho x w (hB rfl) h3 h4 h5 (fun e he hb => h6 e.on (by have := hac i o ho e he; omega) (hdeps e he hb)))
          rintro a' w' ⟨v, rfl, hv, hg, hvv⟩
          have hall := hreach listed o hup ho hdeps
          refine ⟨by rw [Array.size_setIfInBounds]; exact h1, hup', .inl ⟨true, ?_, ?_, fun _ j hj hp => ?_, (by intro h; cases h), fun _ => hg, h3, by show (x.tmps.setIfInBounds (d i) v).size = _; rw [Array.size_setIfInBounds]; exact h4, frame v, fun j hj hjl => ?_⟩⟩
          · rw [getD_set _ _ _ (by omega), if_pos rfl]
          · rw [getD_set _ _ _ (by omega), if_neg (by omega)]; exact hlm
          · rw [getD_set _ _ _ (by omega)]
            by_cases e : i = j
            · rw [if_pos e]
            · rw [if_neg e]; exact hall j hj hp
          · show V true j ((x.tmps.setIfInBounds (d i) v).getD (d j) undef) w'
            by_cases e : i = j
            · subst e; rw [same]; exact hv
            · rw [other v j hj e]
              rw [getD_set _ _ _ (by omega), if_neg e] at hjl
              exact hvv j _ (h6 j hj hjl)
        · have hpi : b = true → pre i = false := fun hbt => by
            cases hpp : pre i with
            | false => rfl
            | true => have := hpr hbt i him hpp; rw [hl] at this; cases this
          refine wpOp_mono ?_ (hstep b i o ho him hip hpi x w hB hGw h3 h4 h5 (fun e he hb => h6 e.on (by have := hac i o ho e he; omega) (hdeps e he hb)))
          rintro a' w' ⟨v, rfl, hv, hbl⟩
          refine ⟨by rw [Array.size_setIfInBounds]; exact h1, hup', .inl ⟨b, ?_, ?_, fun hbt j hj hp => ?_, fun h => (hB h).trans (hbl.mono (hB h).size), fun h => hG _ _ hbl (hGw h), h3, by show (x.tmps.setIfInBounds (d i) v).size = _; rw [Array.size_setIfInBounds]; exact h4, frame v, fun j hj hjl => ?_⟩⟩
          · rw [getD_set _ _ _ (by omega), if_neg hip]; exact hb
          · rw [getD_set _ _ _ (by omega), if_neg (by omega)]; exact hlm
          · rw [getD_set _ _ _ (by omega)]
            by_cases e : i = j
            · rw [if_pos e]
            · rw [if_neg e]; exact hpr hbt j hj hp
          · show V b j ((x.tmps.setIfInBounds (d i) v).getD (d j) undef) w'
            by_cases e : i = j
            · subst e; rw [same]; exact hv
            · rw [other v j hj e]
              rw [getD_set _ _ _ (by omega), if_neg e] at hjl
              exact hV b w w' hbl j _ (h6 j hj hjl)
      · have hi : i = m := by omega
        subst hi
        rcases hsz with h | ⟨hs1, hlast⟩
        · omega
        have hall := hlast listed o hup ho hdeps
        have hbt : b = true := by rw [← hb]; exact hall p hpm
        subst hbt
        refine wpOp_mono ?_ ((hdone x w (hGw rfl) h3 h4 h5 (fun j hj => h6 j hj (hall j hj))).2 hs1)
        intro a' w' hq
        refine ⟨by rw [Array.size_setIfInBounds]; exact h1, hup', .inr ⟨hs1, fun j hj => ?_, hq⟩⟩
        rw [getD_set _ _ _ (by omega)]
        by_cases e : i = j
        · rw [if_pos e]
        · rw [if_neg e]; exact hall j (by omega)
    · have := ha i (by omega)
      rw [hl] at this
      cases this
  · intro listed x w ⟨h1, _, hph⟩ hr
    have hall := all_listed hac h1 hr
    rcases hph with ⟨b, hb, hlm, hpr, hB, hGw, h3, h4, h5, h6⟩ | ⟨_, _, hq⟩
    · rcases hsz with h | ⟨hs1, _⟩
      · have hbt : b = true := by rw [← hb]; exact hall p (by omega)
        subst hbt
        exact (hdone x w (hGw rfl) h3 h4 h5 (fun j hj => h6 j hj (hall j (by omega)))).1 h
      · rw [hall m (by omega)] at hlm; cases hlm
    · exact hq
  · unfold leftN
    exact Nat.le_trans (List.length_filter_le _ _) (by simp)
  · have h0 : ∀ i, (Array.replicate ops.size false).getD i false = false := fun i => by
      rw [Array.getD_eq_getD_getElem?, Array.getElem?_replicate]
      split <;> rfl
    have hu : upTo ops (Array.replicate ops.size false) := by
      intro i o _ h
      rw [h0] at h
      cases h
    exact ⟨by simp, hu, .inl ⟨false, h0 p, h0 m, (by intro h; cases h), fun _ => (Below.refl _ _).drew, (by intro h; cases h), rfl, rfl, fun _ _ => rfl, fun i _ h => (by rw [h0] at h; cases h)⟩⟩
end
end Go.Proofs.Ytlmjplpledilhaa
