/-
  A region whose order is open, whose last operations (from m on) each wait for all others ahead of them: by what each of the first m leaves in its slot. What can be told by looking at the operations alone is told by programs (dstB, injB, backB, tailB).
-/
import Derived.Test.YtpdlapnliiengaaGreatRegionsA
import Derived.Test.YtpdlapnliiengaaGreatRelM
import Derived.Test.YtpdlapnliiengaaGreatRows2
import Derived.RangeFuncCalls
import Derived.Laws.Tables
namespace Go.Proofs.YtpdlapnliiengaaGreat
open Go.RowKit

/-- An operation's slot. -/
def slotOf (ops : Array Oper) (i : Nat) : Nat := ((ops[i]?).bind fun o => o.dst).getD 0
def dstB (ops : Array Oper) (m nt : Nat) : Bool := (List.range m).all fun i => (ops[i]?).any fun o => o.dst.isSome && decide (slotOf ops i < nt)
def injB (ops : Array Oper) (m : Nat) : Bool := (List.range m).all fun i => (List.range i).all fun j => slotOf ops i != slotOf ops j
def backB (ops : Array Oper) : Bool := (List.range ops.size).all fun i => (ops[i]?).all fun o => o.after.toList.all fun e => !Region.binds .any e || decide (e.on < i)
/-- The operations that one waits for, as bits. -/
def maskL : List Edge → Nat
  | [] => 0
  | e :: r => if Region.binds .any e then 2 ^ e.on ||| maskL r else maskL r
def maskOf (ops : Array Oper) (i : Nat) : Nat := match ops[i]? with | some o => maskL o.after.toList | none => 0
def clo (ops : Array Oper) : Nat → Nat → Nat
  | 0, S => S
  | j + 1, S => clo ops j (if S.testBit j then S ||| maskOf ops j else S)
def tailB (ops : Array Oper) (m : Nat) : Bool := (List.range' m (ops.size - m)).all fun k => (List.range k).all fun j => (clo ops k (maskOf ops k)).testBit j

/-- Where every operation waits for earlier ones alone, all have come up when none may. -/
theorem all_listedB {ops : Array Oper} (hac : ∀ (i : Nat) (o : Oper), ops[i]? = some o → ∀ e ∈ o.after, Region.binds .any e = true → e.on < i) {listed : Array Bool} (hs : listed.size = ops.size) (hr : Region.ready .any ops listed = []) : ∀ i, i < ops.size → listed.getD i false = true := by
  intro i
  induction i using Nat.strongRecOn with
  | ind i ih =>
    intro hi
    cases hb : listed.getD i false with
    | true => rfl
    | false =>
      exfalso
      have hx : listed.getD i true = listed.getD i false := by
        simp only [Array.getD_eq_getD_getElem?, Array.getElem?_eq_getElem (show i < listed.size by omega)]; rfl
      have hm : i ∈ Region.ready .any ops listed := mem_ready.2 ⟨by rw [hx, hb], ops[i], Array.getElem?_eq_getElem hi, fun e he hbb => ih e.on (hac i _ (Array.getElem?_eq_getElem hi) e he hbb) (by have := hac i _ (Array.getElem?_eq_getElem hi) e he hbb; omega)⟩
      rw [hr] at hm
      cases hm
theorem mask_bit (l : List Edge) (j : Nat) (h : (maskL l).testBit j = true) : ∃ e ∈ l, Region.binds .any e = true ∧ e.on = j := by
  induction l with
  | nil => simp [maskL] at h
  | cons e r ih =>
    unfold maskL at h
    split at h
    · rename_i hb
      rw [Nat.testBit_or, Bool.or_eq_true] at h
      rcases h with h | h
      · rw [Nat.testBit_two_pow] at h
        exact ⟨e, by simp, hb, by simpa using h⟩
      · obtain ⟨e', h1, h2, h3⟩ := ih h
        exact ⟨e', by simp [h1], h2, h3⟩
    · obtain ⟨e', h1, h2, h3⟩ := ih h
      exact ⟨e', by simp [h1], h2, h3⟩
theorem clo_sound {ops : Array Oper} {listed : Array Bool} (hup : upTo ops listed) : ∀ (j S : Nat), (∀ i, S.testBit i = true → listed.getD i false = true) → ∀ i, (clo ops j S).testBit i = true → listed.getD i false = true
  | 0, _, h => h
  | j + 1, S, h => by
    refine clo_sound hup j _ ?_
    intro i hi
    split at hi
    · rename_i hj
      rw [Nat.testBit_or, Bool.or_eq_true] at hi
      rcases hi with hi | hi
      · exact h i hi
      · unfold maskOf at hi
        split at hi
        · rename_i o ho
          obtain ⟨e, h1, h2, rfl⟩ := mask_bit _ _ hi
          exact hup j o ho (h j hj) e (by simpa using h1) h2
        · simp at hi
    · exact h i hi
theorem tail_reach {ops : Array Oper} {m : Nat} (ht : tailB ops m = true) {k : Nat} (hm : m ≤ k) (hk : k < ops.size) {listed : Array Bool} {o : Oper} (hup : upTo ops listed) (ho : ops[k]? = some o) (hd : ∀ e ∈ o.after, Region.binds .any e = true → listed.getD e.on false = true) : ∀ j, j < k → listed.getD j false = true := by
  intro j hj
  have h1 := List.all_eq_true.1 ht k (List.mem_range'_1.2 ⟨hm, by omega⟩)
  have h2 := List.all_eq_true.1 h1 j (List.mem_range.2 hj)
  refine clo_sound hup k _ ?_ j h2
  intro i hi
  unfold maskOf at hi
  rw [ho] at hi
  obtain ⟨e, he, hb, rfl⟩ := mask_bit _ _ hi
  exact hd e (by simpa using he) hb

section
variable {F : Fence} {n : Nat} {P : Program} {ops : Array Oper} {Q : Exit → Act → World → Prop}
theorem wpIn_region_tailD {id : Nat} (m : Nat) (hmN : m ≤ ops.size) (hm : P.follows .mixedOrders = true) (R : World → World → Prop) (V : Nat → Value → World → Prop) (D : Nat → Nat → Value → Value → Prop) (t0 : Array Value) (df : List Deferred) (w0 : World)
    (hdst : dstB ops m t0.size = true) (hinj : injB ops m = true) (hback : backB ops = true) (htail : tailB ops m = true)
    (hr0 : R w0 w0.drew) (hRt : ∀ a b c, R a b → R b c → R a c) (hV : ∀ w w', R w w' → ∀ i v, V i v w → V i v w') (hD : ∀ i j v u, D i j v u → D j i u v)
    (hstep : ∀ (i : Nat) (o : Oper), ops[i]? = some o → i < m → ∀ (x : Act) (w : World), R w0 w → x.defers = df → x.tmps.size = t0.size → (∀ s, (∀ j, j < m → s ≠ slotOf ops j) → x.tmps.getD s undef = t0.getD s undef) →
      (∀ e ∈ o.after, Region.binds .any e = true → V e.on (x.tmps.getD (slotOf ops e.on) undef) w) → wpOpIn F n P ops Q i (fun a' w' => ∃ v, a' = x.put (some (slotOf ops i)) v ∧ V i v w' ∧ R w w' ∧ ∀ j u, j < m → j ≠ i → V j u w → D i j v u) x w)
    (hdone : ∀ (x : Act) (w : World), R w0 w → x.defers = df → x.tmps.size = t0.size → (∀ s, (∀ j, j < m → s ≠ slotOf ops j) → x.tmps.getD s undef = t0.getD s undef) → (∀ i, i < m → V i (x.tmps.getD (slotOf ops i) undef) w) → (∀ i j, i < m → j < m → i ≠ j → D i j (x.tmps.getD (slotOf ops i) undef) (x.tmps.getD (slotOf ops j) undef)) →
      wpOpsIn F n P ops Q (List.range' m (ops.size - m)) x w) :
    (Code.region id ops true).wpIn F n P Q { tmps := t0, defers := df } w0 := by
  have hd1 : ∀ (i : Nat) (o : Oper), ops[i]? = some o → i < m → o.dst = some (slotOf ops i) ∧ slotOf ops i < t0.size := by
    intro i o ho hi
    have h1 := List.all_eq_true.1 hdst i (List.mem_range.2 hi)
    rw [ho] at h1
    simp only [Option.any_some, Bool.and_eq_true, decide_eq_true_eq] at h1
    obtain ⟨d, hd⟩ := Option.isSome_iff_exists.1 h1.1
    exact ⟨by unfold slotOf; rw [ho]; simp [hd], h1.2⟩
  have hin : ∀ i j, i < m → j < m → slotOf ops i = slotOf ops j → i = j := by
    have key : ∀ i j, i < m → j < i → slotOf ops i ≠ slotOf ops j := by
      intro i j hi hj
      have h1 := List.all_eq_true.1 (List.all_eq_true.1 hinj i (List.mem_range.2 hi)) j (List.mem_range.2 hj)
      simpa using h1
    intro i j hi hj e
    rcases Nat.lt_trichotomy i j with h | h | h
    · exact absurd e.symm (key j i hj h)
    · exact h
    · exact absurd e (key i j hi h)
  have hac : ∀ (i : Nat) (o : Oper), ops[i]? = some o → ∀ e ∈ o.after, Region.binds .any e = true → e.on < i := by
    intro i o ho e he hbb
    have hlt : i < ops.size := (Array.getElem?_eq_some_iff.1 ho).1
    have h1 := List.all_eq_true.1 hback i (List.mem_range.2 hlt)
    rw [ho] at h1
    simp only [Option.all_some] at h1
    have h2 := List.all_eq_true.1 h1 e (by simpa using he)
    simpa [hbb] using h2
  refine wpIn_region_any hm ?_
  refine wpAnyIn_inv (fun listed x w => listed.size = ops.size ∧ upTo ops listed ∧
      (((∀ j, m ≤ j → listed.getD j false = false) ∧ R w0 w ∧ x.defers = df ∧ x.tmps.size = t0.size ∧ (∀ s, (∀ j, j < m → s ≠ slotOf ops j) → x.tmps.getD s undef = t0.getD s undef) ∧ (∀ i, i < m → listed.getD i false = true → V i (x.tmps.getD (slotOf ops i) undef) w) ∧ (∀ i j, i < m → j < m → i ≠ j → listed.getD i false = true → listed.getD j false = true → D i j (x.tmps.getD (slotOf ops i) undef) (x.tmps.getD (slotOf ops j) undef))) ∨
       ∃ k, m < k ∧ k ≤ ops.size ∧ (∀ j, j < k → listed.getD j false = true) ∧ (∀ j, k ≤ j → listed.getD j false = false) ∧ wpOpsIn F n P ops Q (List.range' k (ops.size - k)) x w))
    (fun _ _ _ h => h.1) ?_ ?_ ops.size _ _ _ ?_ ?_
  · intro listed x w ⟨h1, hup, hph⟩ i o ho hl hdeps
    have hlt : i < ops.size := (Array.getElem?_eq_some_iff.1 ho).1
    have hup' : upTo ops (listed.setIfInBounds i true) := by
      intro j o' ho' hj e he hb
      rw [getD_set _ _ _ (by omega)] at hj ⊢
      by_cases e1 : i = e.on
      · rw [if_pos e1]
      · rw [if_neg e1]
        by_cases e2 : i = j
        · subst e2
          rw [ho] at ho'
          cases ho'
          exact hdeps e he hb
        · rw [if_neg e2] at hj
          exact hup j o' ho' hj e he hb
    have tailStep : ∀ (Z : Act → World → Prop) (k : Nat), m ≤ k → (∀ j, j < k → listed.getD j false = true) → (∀ j, k ≤ j → listed.getD j false = false) → i = k → wpOpsIn F n P ops Q (List.range' k (ops.size - k)) x w →
        wpOpIn F n P ops Q i (fun x w => (listed.setIfInBounds i true).size = ops.size ∧ upTo ops (listed.setIfInBounds i true) ∧ (Z x w ∨ ∃ k, m < k ∧ k ≤ ops.size ∧ (∀ j, j < k → (listed.setIfInBounds i true).getD j false = true) ∧ (∀ j, k ≤ j → (listed.setIfInBounds i true).getD j false = false) ∧ wpOpsIn F n P ops Q (List.range' k (ops.size - k)) x w)) x w := by
      intro Z k hk ha hb e hq
      subst e
      rw [show ops.size - i = (ops.size - (i + 1)) + 1 by omega, List.range'_succ, wpOpsIn_cons] at hq
      refine wpOpIn_mono ?_ hq
      intro a' w' hq'
      refine ⟨by rw [Array.size_setIfInBounds]; exact h1, hup', .inr ⟨i + 1, by omega, by omega, fun j hj => ?_, fun j hj => ?_, hq'⟩⟩
      · rw [getD_set _ _ _ (by omega)]
        by_cases e : i = j
        · rw [if_pos e]
        · rw [if_neg e]; exact ha j (by omega)
      · rw [getD_set _ _ _ (by omega), if_neg (by omega)]; exact hb j (by omega)
    rcases hph with ⟨hno, h2, h3, h4, h5, h6, h7⟩ | ⟨k, hk1, hk2, ha, hb, hq⟩
    · rcases Nat.lt_or_ge i m with him | him
      · refine wpOpIn_mono ?_ (hstep i o ho him x w h2 h3 h4 h5 (fun e he hb => h6 e.on (by have := hac i o ho e he hb; omega) (hdeps e he hb)))
        rintro a' w' ⟨v, rfl, hv, hbl, hdd⟩
        have same : (x.tmps.setIfInBounds (slotOf ops i) v).getD (slotOf ops i) undef = v := by
          have hd := (hd1 i o ho him).2
          simp only [Array.getD_eq_getD_getElem?, Array.getElem?_setIfInBounds, if_true]
          rw [if_pos (by omega)]
          rfl
        have other : ∀ j, j < m → i ≠ j → (x.tmps.setIfInBounds (slotOf ops i) v).getD (slotOf ops j) undef = x.tmps.getD (slotOf ops j) undef := fun j hj e => by
          have hne : slotOf ops i ≠ slotOf ops j := fun h => e (hin i j him hj h)
          simp only [Array.getD_eq_getD_getElem?, Array.getElem?_setIfInBounds]
          rw [if_neg hne]
        refine ⟨by rw [Array.size_setIfInBounds]; exact h1, hup', .inl ⟨fun j hj => ?_, hRt _ _ _ h2 hbl, h3, by show (x.tmps.setIfInBounds (slotOf ops i) v).size = _; rw [Array.size_setIfInBounds]; exact h4, fun s hs => ?_, fun j hj hjl => ?_, fun p q hp hq hpq hpl hql => ?_⟩⟩
        · rw [getD_set _ _ _ (by omega), if_neg (by omega)]; exact hno j hj
        · show (x.tmps.setIfInBounds (slotOf ops i) v).getD s undef = _
          rw [← h5 s hs]
          simp only [Array.getD_eq_getD_getElem?, Array.getElem?_setIfInBounds]
          rw [if_neg (fun e => hs i him e.symm)]
        · show V j ((x.tmps.setIfInBounds (slotOf ops i) v).getD (slotOf ops j) undef) w'
          by_cases e : i = j
          · subst e
            have hd := (hd1 i o ho him).2
            simp only [Array.getD_eq_getD_getElem?, Array.getElem?_setIfInBounds, if_true]
            rw [if_pos (by omega)]
            exact hv
          · have hne : slotOf ops i ≠ slotOf ops j := fun h => e (hin i j him hj h)
            rw [getD_set _ _ _ (by omega), if_neg e] at hjl
            simp only [Array.getD_eq_getD_getElem?, Array.getElem?_setIfInBounds]
            rw [if_neg hne]
            have := hV w w' hbl j _ (h6 j hj hjl)
            simpa only [Array.getD_eq_getD_getElem?] using this
        · show D p q ((x.tmps.setIfInBounds (slotOf ops i) v).getD (slotOf ops p) undef) ((x.tmps.setIfInBounds (slotOf ops i) v).getD (slotOf ops q) undef)
          by_cases ep : i = p
          · subst ep
            rw [same, other q hq hpq]
            rw [getD_set _ _ _ (by omega), if_neg hpq] at hql
            exact hdd q _ hq (fun e => hpq e.symm) (h6 q hq hql)
          · rw [getD_set _ _ _ (by omega), if_neg ep] at hpl
            rw [other p hp ep]
            by_cases eq : i = q
            · subst eq
              rw [same]
              exact hD _ _ _ _ (hdd p _ hp (fun e => ep e.symm) (h6 p hp hpl))
            · rw [getD_set _ _ _ (by omega), if_neg eq] at hql
              rw [other q hq eq]
              exact h7 p q hp hq hpq hpl hql
      · have hall := tail_reach htail him hlt hup ho hdeps
        have hi : i = m := by
          rcases Nat.lt_or_ge m i with h | h
          · have := hall m h
            rw [hno m (Nat.le_refl _)] at this
            cases this
          · omega
        subst hi
        exact tailStep _ i (Nat.le_refl _) hall (fun j hj => hno j hj) rfl (hdone x w h2 h3 h4 h5 (fun j hj => h6 j hj (hall j hj)) (fun p q hp hq hpq => h7 p q hp hq hpq (hall p hp) (hall q hq)))
    · have hi : i = k := by
        rcases Nat.lt_or_ge i k with h | h
        · have := ha i h
          rw [hl] at this
          cases this
        · rcases Nat.lt_or_ge k i with h' | h'
          · have := tail_reach htail (by omega) hlt hup ho hdeps k h'
            rw [hb k (Nat.le_refl _)] at this
            cases this
          · omega
      exact tailStep _ k (by omega) ha hb hi hq
  · intro listed x w ⟨h1, _, hph⟩ hr
    have hall := all_listedB hac h1 hr
    rcases hph with ⟨hno, h2, h3, h4, h5, h6, h7⟩ | ⟨k, hk1, hk2, ha, hb, hq⟩
    · have e : ops.size - m = 0 := by
        rcases Nat.lt_or_ge m ops.size with h | h
        · have := hall m h
          rw [hno m (Nat.le_refl _)] at this
          cases this
        · omega
      have := hdone x w h2 h3 h4 h5 (fun i hi => h6 i hi (hall i (by omega))) (fun p q hp hq hpq => h7 p q hp hq hpq (hall p (by omega)) (hall q (by omega)))
      rw [e] at this
      exact this
    · have e : ops.size - k = 0 := by
        rcases Nat.lt_or_ge k ops.size with h | h
        · have := hall k h
          rw [hb k (Nat.le_refl _)] at this
          cases this
        · omega
      rw [e] at hq
      exact hq
  · unfold leftN
    exact Nat.le_trans (List.length_filter_le _ _) (by simp)
  · have h0 : ∀ i, (Array.replicate ops.size false).getD i false = false := fun i => by
      rw [Array.getD_eq_getD_getElem?, Array.getElem?_replicate]
      split <;> rfl
    have hu : upTo ops (Array.replicate ops.size false) := by
      intro i o _ h
      rw [h0] at h
      cases h
    exact ⟨by simp, hu, .inl ⟨fun j _ => h0 j, hr0, rfl, rfl, fun _ _ => rfl, fun i _ h => (by rw [h0] at h; cases h), fun i j _ _ _ h => (by rw [h0] at h; cases h)⟩⟩
theorem wpIn_region_tail {id : Nat} (m : Nat) (hmN : m ≤ ops.size) (hm : P.follows .mixedOrders = true) (R : World → World → Prop) (V : Nat → Value → World → Prop) (t0 : Array Value) (df : List Deferred) (w0 : World)
    (hdst : dstB ops m t0.size = true) (hinj : injB ops m = true) (hback : backB ops = true) (htail : tailB ops m = true)
    (hr0 : R w0 w0.drew) (hRt : ∀ a b c, R a b → R b c → R a c) (hV : ∀ w w', R w w' → ∀ i v, V i v w → V i v w')
    (hstep : ∀ (i : Nat) (o : Oper), ops[i]? = some o → i < m → ∀ (x : Act) (w : World), R w0 w → x.defers = df → x.tmps.size = t0.size → (∀ s, (∀ j, j < m → s ≠ slotOf ops j) → x.tmps.getD s undef = t0.getD s undef) →
      (∀ e ∈ o.after, Region.binds .any e = true → V e.on (x.tmps.getD (slotOf ops e.on) undef) w) → wpOpIn F n P ops Q i (fun a' w' => ∃ v, a' = x.put (some (slotOf ops i)) v ∧ V i v w' ∧ R w w') x w)
    (hdone : ∀ (x : Act) (w : World), R w0 w → x.defers = df → x.tmps.size = t0.size → (∀ s, (∀ j, j < m → s ≠ slotOf ops j) → x.tmps.getD s undef = t0.getD s undef) → (∀ i, i < m → V i (x.tmps.getD (slotOf ops i) undef) w) →
      wpOpsIn F n P ops Q (List.range' m (ops.size - m)) x w) :
    (Code.region id ops true).wpIn F n P Q { tmps := t0, defers := df } w0 :=
  wpIn_region_tailD m hmN hm R V (fun _ _ _ _ => True) t0 df w0 hdst hinj hback htail hr0 hRt hV (fun _ _ _ _ _ => trivial)
    (fun i o ho hi x w h1 h2 h3 h4 h5 => wpOpIn_mono (fun _ _ ⟨v, e1, e2, e3⟩ => ⟨v, e1, e2, e3, fun _ _ _ _ _ => trivial⟩) (hstep i o ho hi x w h1 h2 h3 h4 h5))
    (fun x w h1 h2 h3 h4 h5 _ => hdone x w h1 h2 h3 h4 h5)
end
/-- The wide fence, in a round or in none. -/
def Wide (F : Fence) : Prop := F = Fence.wide ∨ ∃ l, F = Fence.wide.inRound l
theorem Wide.fn {F : Fence} (h : Wide F) (f : FuncId) : F.fn f := by
  rcases h with rfl | ⟨l, rfl⟩ <;> trivial
theorem Wide.deep {F : Fence} (h : Wide F) {k : Nat} : F.depth.isSome = true → 1 ≤ k := by
  rcases h with rfl | ⟨l, rfl⟩ <;> exact fun h => by cases h
theorem Wide.call {F : Fence} (h : Wide F) {n : Nat} {P : Program} {f : FuncId} {args : Array Value} {w : World} {R : Ending → World → Prop} (hc : Calls P f args w R) : CallsIn F n P f args w R := by
  rcases h with rfl | ⟨l, rfl⟩
  · exact callsIn_wide.2 hc
  · exact CallsIn.inRound l (callsIn_wide.2 hc)
theorem get_someT {t : Array Value} {s : Nat} {v : Value} (h : t[s]?.getD undef = v) (hv : v ≠ undef) : t[s]? = some v := by
  cases e : t[s]? with
  | none => rw [e] at h; exact absurd h.symm hv
  | some u => rw [e] at h; exact congrArg some h
/-- A whole row is stored, as an operation of a region. -/
theorem op_store_row {F : Fence} (hF : Wide F) {n : Nat} {P : Program} {ops : Array Oper} {Q : Exit → Act → World → Prop} {i : Nat} {o : Oper} {K : Act → World → Prop} {a : Act} {w : World} (ho : ops[i]? = some o) (hgd : o.guard = none) (ty : TypeId) (x y : Operand) (hop : o.op = .store ty x y)
    (g : Nat) (cells : Array Value) (hx : a.eval x = .pointer (some ⟨g, 0, none⟩)) (hy : a.eval y = .agg cells)
    (t : TypeId) (old : Array Value) (hg : w.heap[g]? = some (.cells old t (0, 0))) (hi : (P.info? ty).map (·.size) = some cells.size)
    (hold : old.size = cells.size) (h1 : cells.all (·.oneCell') = true)
    (h : K (a.put o.dst undef) (w.setRow g cells)) : wpOpIn F n P ops Q i K a w := by
  refine wpOpIn_plain ho hgd (oper_inK hF.fn (fun K' hK => ?_))
  rw [Oper.semAt_plain F _ _ (by rw [hop]; intro c hc; cases hc)]
  unfold execOp
  simp only [hop, hx, hy, Instr.storeAt, Instr.sureAddr, Sem.run_bind, Sem.run_pure, Result.andThen_ok, run_storeVar_row w g t ty old cells hg hi hold h1]
  exact hK _ _ h
/-- An append to a row whose elements have several cells, as an operation of a region. -/
theorem op_appendS {F : Fence} (hF : Wide F) {n : Nat} {P : Program} {ops : Array Oper} {Q : Exit → Act → World → Prop} {i : Nat} {o : Oper} {K : Act → World → Prop} {a : Act} {w : World} (ho' : ops[i]? = some o) (hgd : o.guard = none) (s x : Operand) (t : TypeId)
    (ho : o.op = .call { callee := .builtin .append, args := #[s, x], argTypes := #[t, t] })
    (e : TypeId) (inf : TypeInfo) (z : Value) (size bytes : Nat) (ht : P.underlying t = some (.slice e)) (hi : P.info? e = some inf) (hz : inf.zero = some z)
    (hsize : inf.size = size) (hby : inf.bytes = bytes) (hzs : z.cells.size = size) (hsz : 0 < size)
    (base : Nat) (v : Value) (m : Nat) (xs : List Value) (hs : a.eval s = v) (hown : w.ownsRow base e size v m xs)
    (ad : Addr) (k c : Nat) (news : List Value) (hx : a.eval x = .slice (some ad) k c) (hl : news.length = k * size) (hnews : ∀ j u, news[j]? = some u → w.cell? (ad.add j) = some u) (h1 : ∀ u ∈ news, u.oneCell' = true)
    (h63 : m + k ≤ maxLen) (hbytes : (m + k) * bytes ≤ 140737488355328) (hbase : base ≤ w.heap.size)
    (h : ∀ A' C' w', w'.ownsRow base e size (.slice A' (m + k) C') (m + k) (xs ++ news) → Grew w w' v (.slice A' (m + k) C') → w'.ownsRow base e size v m xs → K (a.put o.dst (.slice A' (m + k) C')) w') : wpOpIn F n P ops Q i K a w := by
  refine wpOpIn_plain ho' hgd (oper_inK hF.fn (fun K' hK' => ?_))
  obtain ⟨v', w', hr, h2, h3, h4⟩ := run_append_footS (P := P) w t o.type e inf z size bytes ht hi hz hsize hby hzs hsz base v m xs hown ad k c news hl hnews h1 h63 hbytes hbase
  obtain ⟨A', C', rfl⟩ := owns_slice h2
  have hk := h A' C' w' h2 h3 h4
  rw [Oper.semAt_plain F _ _ (by rw [ho]; intro c hc'; cases hc')]
  simp [execOp, ho, resolve, invoke, builtin, hs, hx, hr, Result.andThen]
  exact hK' _ _ hk
/-- Two Bools compared. -/
def beqB : Bool → Bool → Bool
  | true, true => true
  | false, false => true
  | _, _ => false
def neqB : Bool → Bool → Bool
  | true, false => true
  | false, true => true
  | _, _ => false
/-- A guarded operation: its guard is told by the goal's own reckoning. -/
theorem wpOpIn_stepT {F : Fence} (h : Wide F) {n : Nat} {P : Program} {ops : Array Oper} {Q : Exit → Act → World → Prop} {i : Nat} {o : Oper} {K : Act → World → Prop} {a : Act} {w : World} (ho : ops[i]? = some o)
    (hh : ∀ K' : Act → World → Prop, (∀ a w, K a w → K' a w) → if Region.wanted o (yielded ops a.tmps) then o.uponIn F n P a K' Q ((o.semAt F.round a.eval).run P w) else K' (a.put o.dst undef) w) : wpOpIn F n P ops Q i K a w := by
  unfold wpOpIn
  rw [ho]
  have h2 := hh K (fun _ _ h => h)
  show if _ then _ else _
  split
  · rename_i hw
    rw [if_pos hw] at h2
    exact ⟨fun f _ => h.fn f, h2⟩
  · rename_i hw
    rw [if_neg hw] at h2
    exact ⟨fun f _ => h.fn f, h2⟩
theorem wide_plain : Wide Fence.wide := .inl rfl
theorem wide_round (l : Nat) : Wide (Fence.wide.inRound l) := .inr ⟨l, rfl⟩
end Go.Proofs.YtpdlapnliiengaaGreat
