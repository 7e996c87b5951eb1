/-
  A region whose order is open, some of whose operations (C) come one behind the other and change what is there (T k: what holds behind k of them); the rest as in RegT.
-/
import Derived.Test.YtppdbinppibjhaaGreatDoorRegT
set_option linter.unusedVariables false
set_option linter.unusedSimpArgs false
namespace Go.Proofs.YtppdbinppibjhaaGreatDoor
open Go.RowKit
section
variable {F : Fence} {n : Nat} {P : Program} {ops : Array Oper} {Q : Exit → Act → World → Prop}
def chainB (ops : Array Oper) (m : Nat) : List Nat → Bool
 | [] => true
 | [a] => decide (a < m)
 | a :: b :: r => decide (a < m) && decide (a < b) && (match ops[b]? with | some o => o.after.toList.any fun e => e.on == a && Region.binds .any e | none => false) && chainB ops m (b :: r)
theorem chain_lt {ops : Array Oper} {m : Nat} : ∀ {C : List Nat}, chainB ops m C = true → ∀ (j a : Nat), C[j]? = some a → a < m
 | [], _, j, a, h => by simp at h
 | [x], hc, 0, a, h => by simp at h; subst h; simpa [chainB] using hc
 | [x], _, j + 1, a, h => by simp at h
 | x :: y :: r, hc, 0, a, h => by
   simp at h; subst h
   simp only [chainB, Bool.and_eq_true, decide_eq_true_eq] at hc
   exact hc.1.1.1
 | x :: y :: r, hc, j + 1, a, h => by
   simp only [chainB, Bool.and_eq_true] at hc
   exact chain_lt hc.2 j a (by simpa using h)
theorem chain_up {ops : Array Oper} {m : Nat} : ∀ {C : List Nat}, chainB ops m C = true → ∀ (j k a b : Nat), j < k → C[j]? = some a → C[k]? = some b → a < b
 | [], _, j, k, a, b, _, h, _ => by simp at h
 | [x], _, j, k + 1, a, b, _, _, h => by simp at h
 | x :: y :: r, hc, 0, 1, a, b, _, h1, h2 => by
   simp at h1 h2; subst h1; subst h2
   simp only [chainB, Bool.and_eq_true, decide_eq_true_eq] at hc
   exact hc.1.1.2
 | x :: y :: r, hc, 0, k + 2, a, b, _, h1, h2 => by
   simp at h1; subst h1
   have hc' := hc
   simp only [chainB, Bool.and_eq_true, decide_eq_true_eq] at hc'
   exact Nat.lt_trans hc'.1.1.2 (chain_up hc'.2 0 (k + 1) y b (by omega) (by simp) (by simpa using h2))
 | x :: y :: r, hc, j + 1, k + 1, a, b, hjk, h1, h2 => by
   simp only [chainB, Bool.and_eq_true] at hc
   exact chain_up hc.2 j k a b (by omega) (by simpa using h1) (by simpa using h2)
theorem chain_on {ops : Array Oper} {m : Nat} : ∀ {C : List Nat}, chainB ops m C = true → ∀ (j a b : Nat), C[j]? = some a → C[j + 1]? = some b → ∃ o, ops[b]? = some o ∧ ∃ e ∈ o.after, e.on = a ∧ Region.binds .any e = true
 | [], _, j, a, b, h, _ => by simp at h
 | [x], _, j, a, b, _, h => by simp at h
 | x :: y :: r, hc, 0, a, b, h1, h2 => by
   simp at h1 h2; subst h1; subst h2
   simp only [chainB, Bool.and_eq_true] at hc
   have h := hc.1.2
   split at h
   ·rename_i o ho
    obtain ⟨e, he, hh⟩ := List.any_eq_true.1 h
    simp only [Bool.and_eq_true, beq_iff_eq] at hh
    exact ⟨o, ho, e, by simpa using he, hh.1, hh.2⟩
   ·cases h
 | x :: y :: r, hc, j + 1, a, b, h1, h2 => by
   simp only [chainB, Bool.and_eq_true] at hc
   exact chain_on hc.2 j a b (by simpa using h1) (by simpa using h2)
def ChAt (C : List Nat) (T : Nat → World → Prop) (listed : Array Bool) (w : World) : Prop :=
 ∃ k, k ≤ C.length ∧ (∀ j a, C[j]? = some a → (listed.getD a false = true ↔ j < k)) ∧ T k w
theorem wpIn_region_chain {id : Nat} (m : Nat) (hmN : m ≤ ops.size) (hm : P.follows .mixedOrders = true) (C : List Nat) (R Rq : World → World → Prop) (T : Nat → World → Prop) (V : Nat → Value → World → Prop) (t0 : Array Value) (df : List Deferred) (w0 : World)
  (hdst : dstB ops m t0.size = true) (hinj : injB ops m = true) (hback : backB ops = true) (htail : tailB ops m = true) (hch : chainB ops m C = true)
  (hr0 : Rq w0 w0.drew) (hT0 : T 0 w0) (hq : ∀ a b, Rq a b → R a b) (hT : ∀ a b, Rq a b → ∀ k, T k a → T k b) (hRt : ∀ a b c, R a b → R b c → R a c) (hV : ∀ w w', R w w' → ∀ i v, V i v w → V i v w')
  (hstep : ∀ (i : Nat) (o : Oper), ops[i]? = some o → i < m → i ∉ C → ∀ (x : Act) (w : World), R w0 w → x.defers = df → x.tmps.size = t0.size → (∀ s, (∀ j, j < m → s ≠ slotOf ops j) → x.tmps.getD s undef = t0.getD s undef) →
   (∀ e ∈ o.after, Region.binds .any e = true → V e.on (x.tmps.getD (slotOf ops e.on) undef) w) → wpOpIn F n P ops Q i (fun a' w' => ∃ v, a' = x.put (some (slotOf ops i)) v ∧ V i v w' ∧ Rq w w') x w)
  (hcall : ∀ (k i : Nat) (o : Oper), C[k]? = some i → ops[i]? = some o → ∀ (x : Act) (w : World), T k w → R w0 w → x.defers = df → x.tmps.size = t0.size → (∀ s, (∀ j, j < m → s ≠ slotOf ops j) → x.tmps.getD s undef = t0.getD s undef) →
   (∀ e ∈ o.after, Region.binds .any e = true → V e.on (x.tmps.getD (slotOf ops e.on) undef) w) → wpOpIn F n P ops Q i (fun a' w' => ∃ v, a' = x.put (some (slotOf ops i)) v ∧ V i v w' ∧ R w w' ∧ T (k + 1) w') x w)
  (hdone : ∀ (x : Act) (w : World), R w0 w → T C.length w → x.defers = df → x.tmps.size = t0.size → (∀ s, (∀ j, j < m → s ≠ slotOf ops j) → x.tmps.getD s undef = t0.getD s undef) → (∀ i, i < m → V i (x.tmps.getD (slotOf ops i) undef) w) →
   wpOpsIn F n P ops Q (List.range' m (ops.size - m)) x w) :
  (Code.region id ops true).wpIn F n P Q { tmps := t0, defers := df } w0 := by
 have hd1 : ∀ (i : Nat) (o : Oper), ops[i]? = some o → i < m → o.dst = some (slotOf ops i) ∧ slotOf ops i < t0.size := by
  intro i o ho hi
  have h1 := List.all_eq_true.1 hdst i (List.mem_range.2 hi)
  rw [ho] at h1
  simp only [Option.any_some, Bool.and_eq_true, decide_eq_true_eq] at h1
  obtain ⟨d, hd⟩ := Option.isSome_iff_exists.1 h1.1
  exact ⟨by unfold slotOf; rw [ho]; simp [hd], h1.2⟩
 have hin : ∀ i j, i < m → j < m → slotOf ops i = slotOf ops j → i = j := by
  have key : ∀ i j, i < m → j < i → slotOf ops i ≠ slotOf ops j := by
   intro i j hi hj
   have h1 := List.all_eq_true.1 (List.all_eq_true.1 hinj i (List.mem_range.2 hi)) j (List.mem_range.2 hj)
   simpa using h1
  intro i j hi hj e
  rcases Nat.lt_trichotomy i j with h | h | h
  ·exact absurd e.symm (key j i hj h)
  ·exact h
  ·exact absurd e (key i j hi h)
 have hac : ∀ (i : Nat) (o : Oper), ops[i]? = some o → ∀ e ∈ o.after, Region.binds .any e = true → e.on < i := by
  intro i o ho e he hbb
  have hlt : i < ops.size := (Array.getElem?_eq_some_iff.1 ho).1
  have h1 := List.all_eq_true.1 hback i (List.mem_range.2 hlt)
  rw [ho] at h1
  simp only [Option.all_some] at h1
  have h2 := List.all_eq_true.1 h1 e (by simpa using he)
  simpa [hbb] using h2
 refine wpIn_region_any hm ?_
 refine wpAnyIn_inv (fun listed x w => listed.size = ops.size ∧ upTo ops listed ∧
   (((∀ j, m ≤ j → listed.getD j false = false) ∧ R w0 w ∧ x.defers = df ∧ x.tmps.size = t0.size ∧ (∀ s, (∀ j, j < m → s ≠ slotOf ops j) → x.tmps.getD s undef = t0.getD s undef) ∧ (∀ i, i < m → listed.getD i false = true → V i (x.tmps.getD (slotOf ops i) undef) w) ∧ ChAt C T listed w) ∨
    ∃ k, m < k ∧ k ≤ ops.size ∧ (∀ j, j < k → listed.getD j false = true) ∧ (∀ j, k ≤ j → listed.getD j false = false) ∧ wpOpsIn F n P ops Q (List.range' k (ops.size - k)) x w))
  (fun _ _ _ h => h.1) ?_ ?_ ops.size _ _ _ ?_ ?_
 ·intro listed x w ⟨h1, hup, hph⟩ i o ho hl hdeps
  have hlt : i < ops.size := (Array.getElem?_eq_some_iff.1 ho).1
  have hup' : upTo ops (listed.setIfInBounds i true) := by
   intro j o' ho' hj e he hb
   rw [getD_set _ _ _ (by omega)] at hj ⊢
   by_cases e1 : i = e.on
   ·rw [if_pos e1]
   ·rw [if_neg e1]
    by_cases e2 : i = j
    ·subst e2
     rw [ho] at ho'
     cases ho'
     exact hdeps e he hb
    ·rw [if_neg e2] at hj
     exact hup j o' ho' hj e he hb
  have tailStep : ∀ (Z : Act → World → Prop) (k : Nat), m ≤ k → (∀ j, j < k → listed.getD j false = true) → (∀ j, k ≤ j → listed.getD j false = false) → i = k → wpOpsIn F n P ops Q (List.range' k (ops.size - k)) x w →
    wpOpIn F n P ops Q i (fun x w => (listed.setIfInBounds i true).size = ops.size ∧ upTo ops (listed.setIfInBounds i true) ∧ (Z x w ∨ ∃ k, m < k ∧ k ≤ ops.size ∧ (∀ j, j < k → (listed.setIfInBounds i true).getD j false = true) ∧ (∀ j, k ≤ j → (listed.setIfInBounds i true).getD j false = false) ∧ wpOpsIn F n P ops Q (List.range' k (ops.size - k)) x w)) x w := by
   intro Z k hk ha hb e hq
   subst e
   rw [show ops.size - i = (ops.size - (i + 1)) + 1 by omega, List.range'_succ, wpOpsIn_cons] at hq
   refine wpOpIn_mono ?_ hq
   intro a' w' hq'
   refine ⟨by rw [Array.size_setIfInBounds]; exact h1, hup', .inr ⟨i + 1, by omega, by omega, fun j hj => ?_, fun j hj => ?_, hq'⟩⟩
   ·rw [getD_set _ _ _ (by omega)]
    by_cases e : i = j
    ·rw [if_pos e]
    ·rw [if_neg e]; exact ha j (by omega)
   ·rw [getD_set _ _ _ (by omega), if_neg (by omega)]; exact hb j (by omega)
  rcases hph with ⟨hno, h2, h3, h4, h5, h6, h7⟩ | ⟨k, hk1, hk2, ha, hb, hq⟩
  ·rcases Nat.lt_or_ge i m with him | him
   ·have hdp : ∀ e ∈ o.after, Region.binds .any e = true → V e.on (x.tmps.getD (slotOf ops e.on) undef) w := fun e he hb => h6 e.on (by have := hac i o ho e he hb; omega) (hdeps e he hb)
    have key : wpOpIn F n P ops Q i (fun a' w' => ∃ v, a' = x.put (some (slotOf ops i)) v ∧ V i v w' ∧ R w w' ∧ ChAt C T (listed.setIfInBounds i true) w') x w := by
     obtain ⟨k, hk, hkl, hTk⟩ := h7
     by_cases hmem : i ∈ C
     ·obtain ⟨k', hk'⟩ := List.mem_iff_getElem?.1 hmem
      have hkC := (List.getElem?_eq_some_iff.1 hk').1
      have e : k' = k := by
       have h1 : ¬ k' < k := fun h => by rw [(hkl k' i hk').2 h] at hl; cases hl
       rcases Nat.lt_or_ge k k' with h | h
       ·exfalso
        obtain ⟨q, rfl⟩ : ∃ q, k' = q + 1 := ⟨k' - 1, by omega⟩
        have hq : q < C.length := by omega
        obtain ⟨o', ho', e, he, hon, hb⟩ := chain_on hch q (C[q]) i (List.getElem?_eq_getElem hq) hk'
        rw [ho] at ho'
        cases ho'
        have h3 := hdeps e he hb
        rw [hon] at h3
        have := (hkl q _ (List.getElem?_eq_getElem hq)).1 h3
        omega
       ·omega
      subst e
      refine wpOpIn_mono ?_ (hcall k' i o hk' ho x w hTk h2 h3 h4 h5 hdp)
      rintro a' w' ⟨v, e1, e2, e3, e4⟩
      refine ⟨v, e1, e2, e3, k' + 1, by omega, fun j a hj => ?_, e4⟩
      rw [getD_set _ _ _ (by omega)]
      by_cases ea : i = a
      ·subst ea
       rw [if_pos rfl]
       have : j = k' := by
        rcases Nat.lt_trichotomy j k' with h | h | h
        ·exact absurd (chain_up hch j k' i i h hj hk') (Nat.lt_irrefl _)
        ·exact h
        ·exact absurd (chain_up hch k' j i i h hk' hj) (Nat.lt_irrefl _)
       exact ⟨fun _ => by omega, fun _ => rfl⟩
      ·rw [if_neg ea, hkl j a hj]
       have hne : j ≠ k' := fun e => ea (by subst e; rw [hk'] at hj; exact Option.some.inj hj)
       exact ⟨fun h => by omega, fun h => by omega⟩
     ·refine wpOpIn_mono ?_ (hstep i o ho him hmem x w h2 h3 h4 h5 hdp)
      rintro a' w' ⟨v, e1, e2, e3⟩
      refine ⟨v, e1, e2, hq _ _ e3, k, hk, fun j a hj => ?_, hT _ _ e3 k hTk⟩
      have hne : i ≠ a := fun e => hmem (e ▸ List.mem_of_getElem? hj)
      rw [getD_set _ _ _ (by omega), if_neg hne]
      exact hkl j a hj
    refine wpOpIn_mono ?_ key
    rintro a' w' ⟨v, rfl, hv, hbl, hdd⟩
    refine ⟨by rw [Array.size_setIfInBounds]; exact h1, hup', .inl ⟨fun j hj => ?_, hRt _ _ _ h2 hbl, h3, by show (x.tmps.setIfInBounds (slotOf ops i) v).size = _; rw [Array.size_setIfInBounds]; exact h4, fun s hs => ?_, fun j hj hjl => ?_, hdd⟩⟩
    ·rw [getD_set _ _ _ (by omega), if_neg (by omega)]; exact hno j hj
    ·show (x.tmps.setIfInBounds (slotOf ops i) v).getD s undef = _
     rw [← h5 s hs]
     simp only [Array.getD_eq_getD_getElem?, Array.getElem?_setIfInBounds]
     rw [if_neg (fun e => hs i him e.symm)]
    ·show V j ((x.tmps.setIfInBounds (slotOf ops i) v).getD (slotOf ops j) undef) w'
     by_cases e : i = j
     ·subst e
      have hd := (hd1 i o ho him).2
      simp only [Array.getD_eq_getD_getElem?, Array.getElem?_setIfInBounds, if_true]
      rw [if_pos (by omega)]
      exact hv
     ·have hne : slotOf ops i ≠ slotOf ops j := fun h => e (hin i j him hj h)
      rw [getD_set _ _ _ (by omega), if_neg e] at hjl
      simp only [Array.getD_eq_getD_getElem?, Array.getElem?_setIfInBounds]
      rw [if_neg hne]
      have := hV w w' hbl j _ (h6 j hj hjl)
      simpa only [Array.getD_eq_getD_getElem?] using this
   ·have hall := tail_reach htail him hlt hup ho hdeps
    have hi : i = m := by
     rcases Nat.lt_or_ge m i with h | h
     ·have := hall m h
      rw [hno m (Nat.le_refl _)] at this
      cases this
     ·omega
    subst hi
    exact tailStep _ i (Nat.le_refl _) hall (fun j hj => hno j hj) rfl (hdone x w h2 (by
     obtain ⟨k, hk, hkl, hTk⟩ := h7
     have : k = C.length := by
      rcases Nat.lt_or_ge k C.length with h | h
      ·have := (hkl k _ (List.getElem?_eq_getElem h)).1 (hall _ (by have := chain_lt hch k _ (List.getElem?_eq_getElem h); omega))
       omega
      ·omega
     exact this ▸ hTk) h3 h4 h5 (fun j hj => h6 j hj (hall j hj)))
  ·have hi : i = k := by
    rcases Nat.lt_or_ge i k with h | h
    ·have := ha i h
     rw [hl] at this
     cases this
    ·rcases Nat.lt_or_ge k i with h' | h'
     ·have := tail_reach htail (by omega) hlt hup ho hdeps k h'
      rw [hb k (Nat.le_refl _)] at this
      cases this
     ·omega
   exact tailStep _ k (by omega) ha hb hi hq
 ·intro listed x w ⟨h1, _, hph⟩ hr
  have hall := all_listedB hac h1 hr
  rcases hph with ⟨hno, h2, h3, h4, h5, h6, h7⟩ | ⟨k, hk1, hk2, ha, hb, hq⟩
  ·have e : ops.size - m = 0 := by
    rcases Nat.lt_or_ge m ops.size with h | h
    ·have := hall m h
     rw [hno m (Nat.le_refl _)] at this
     cases this
    ·omega
   have := hdone x w h2 (by
     obtain ⟨k, hk, hkl, hTk⟩ := h7
     have : k = C.length := by
      rcases Nat.lt_or_ge k C.length with h | h
      ·have := (hkl k _ (List.getElem?_eq_getElem h)).1 (hall _ (by have := chain_lt hch k _ (List.getElem?_eq_getElem h); omega))
       omega
      ·omega
     exact this ▸ hTk) h3 h4 h5 (fun i hi => h6 i hi (hall i (by omega)))
   rw [e] at this
   exact this
  ·have e : ops.size - k = 0 := by
    rcases Nat.lt_or_ge k ops.size with h | h
    ·have := hall k h
     rw [hb k (Nat.le_refl _)] at this
     cases this
    ·omega
   rw [e] at hq
   exact hq
 ·unfold leftN
  exact Nat.le_trans (List.length_filter_le _ _) (by simp)
 ·have h0 : ∀ i, (Array.replicate ops.size false).getD i false = false := fun i => by
   rw [Array.getD_eq_getD_getElem?, Array.getElem?_replicate]
   split <;> rfl
  have hu : upTo ops (Array.replicate ops.size false) := by
   intro i o _ h
   rw [h0] at h
   cases h
  exact ⟨by simp, hu, .inl ⟨fun j _ => h0 j, hq _ _ hr0, rfl, rfl, fun _ _ => rfl, fun i _ h => (by rw [h0] at h; cases h), 0, Nat.zero_le _, fun j a _ => ⟨fun h => (by rw [h0] at h; cases h), fun h => by omega⟩, hT _ _ hr0 0 hT0⟩⟩
end
end Go.Proofs.YtppdbinppibjhaaGreatDoor
