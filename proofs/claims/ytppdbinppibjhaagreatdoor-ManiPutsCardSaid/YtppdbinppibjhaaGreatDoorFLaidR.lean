/-
  frame.laid's range-function: the region that draws its order (written by tools/gen-laid.py).
-/
import Derived.Test.YtppdbinppibjhaaGreatDoorFWholes
import Derived.Test.YtppdbinppibjhaaGreatDoorRegionsA
import Derived.Test.YtppdbinppibjhaaGreatDoorRows2
set_option maxHeartbeats 2000000
set_option maxRecDepth 100000
set_option linter.unusedVariables false
set_option linter.unusedSimpArgs false
namespace Go.Proofs.YtppdbinppibjhaaGreatDoor
open Go.RowKit
theorem owns_raise {w : World} {B B' n size : Nat} {v : Value} {xs : List Value} {e : TypeId} (h : w.ownsRow B e size v n xs) (hB : ∀ g, v.ownBlock = some g → B' ≤ g) : w.ownsRow B' e size v n xs := by
 obtain ⟨hl, ⟨hv, h0⟩ | ⟨g, cap, cur, hv, hb, hr⟩⟩ := h
 ·exact ⟨hl, .inl ⟨hv, h0⟩⟩
 ·exact ⟨hl, .inr ⟨g, cap, cur, hv, hB g (by subst hv; rfl), hr⟩⟩
theorem one_owns {w : World} {g T : Nat} (hg : w.heap[g]? = some (.cells #[.int .u8 (T : Nat)] 5 (0, 0))) : w.ownsRow 0 5 1 (.slice (some ⟨g, 0, none⟩) 1 1) 1 (lc [T]) :=
 ⟨rfl, .inr ⟨g, 1, _, rfl, Nat.zero_le _, hg, Nat.le_refl _, by unfold maxLen; omega, rfl, rfl⟩⟩
theorem owns_news {w : World} {B n : Nat} {v : Value} {xs : List Value} {TA : Option Addr} {TC : Nat} {e : TypeId} (h : w.ownsRow B e 1 v n xs) (hv : v = .slice TA n TC) : ∀ ad, TA = some ad → ∀ j u, xs[j]? = some u → w.cell? (ad.add j) = some u := by
 intro ad hA
 subst hA
 obtain ⟨hl, ⟨h1, _⟩ | ⟨g, cap, cur, h1, hr⟩⟩ := h
 ·have e := h1.symm.trans hv
  cases e
 ·have e := h1.symm.trans hv
  cases e
  have h2 : w.ownsRow B e 1 (.slice (some ⟨g, 0, none⟩) n TC) n xs := ⟨hl, .inr ⟨g, TC, cur, rfl, hr⟩⟩
  exact h2.cells (g := g) rfl
theorem one_append_in {N : Nat} (w : World) {o : Oper} {a : Act} {K : Act → World → Prop} {Q : Exit → Act → World → Prop} (s x : Operand)
  (ho : o.op = .call { callee := .builtin .append, args := #[s, x], argTypes := #[28, 28] })
  (g T m TC : Nat) (TA : Option Addr) (L : List Nat) (hs : a.eval s = .slice (some ⟨g, 0, none⟩) 1 1) (hx : a.eval x = .slice TA m TC) (hg : w.heap[g]? = some (.cells #[.int .u8 (T : Nat)] 5 (0, 0)))
  {B : Nat} (hv : w.ownsRow B 5 1 (.slice TA m TC) m (lc L)) (hL : L.length = m) (hm0 : 0 < m) (hm1 : m ≤ 1000) (hlt : ∀ b ∈ L, b < 256)
  (h : ∀ C' w', w'.ownsRow w.heap.size 5 1 (.slice (some ⟨w.heap.size, 0, none⟩) (1 + m) C') (1 + m) (lc (T :: L)) → Below w.heap.size w w' → K (a.put o.dst (.slice (some ⟨w.heap.size, 0, none⟩) (1 + m) C')) w') : o.wpIn Fence.wide N Tryz.prog a w K Q := by
 obtain ⟨i0, hi, hq0, hq1, hq2⟩ := info_parts info_u8
 obtain ⟨_, A1, C1, hvs, hAC, hCm, hAn, _, hbl, _⟩ := owns_bl hv hlt
 cases hvs
 obtain ⟨ad, rfl⟩ : ∃ ad, TA = some ad := by
  cases TA with
  | none => have := hAn rfl; omega
  | some ad => exact ⟨ad, rfl⟩
 have hnews := owns_news hv rfl ad rfl
 have hown := one_owns hg
 have hll : (lc L).length = m := by rw [lc_length, hL]
 obtain ⟨v', w', hr, h2, h3⟩ := run_append_foot (P := Tryz.prog) w 28 o.type 5 i0 (.int .u8 0) 1 Tryz.underlying28 hi hq0 hq1 hq2 rfl 0 (.slice (some ⟨g, 0, none⟩) 1 1) 1 (lc [T]) hown (some ad) m TC (lc L) hll (fun e => by cases e) (fun ad' e => by cases e; exact hnews) (lc_one L) (by unfold maxLen; omega) (by omega) (Nat.zero_le _)
 have hr2 := run_append_grow (P := Tryz.prog) w 28 o.type 5 i0 (.int .u8 0) Tryz.underlying28 hi hq0 ⟨g, 0, none⟩ 1 1 (lc [T]) (by rw [hq1]; rfl) (hown.cells (g := g) rfl) ad m TC (lc L) (by rw [hq1, hll]; omega) hnews (by omega) (by omega) (growslice_fits (by omega) (by rw [hq2]; omega))
 rw [hr2] at hr
 cases hr
 have hb := fun o : Obj => ((Below.refl w.heap.size w).drew).alloc (Nat.le_refl _) o
 have hk := h _ _ (owns_raise h2 (fun g hg => by cases hg; exact Nat.le_refl _)) (hb _)
 refine oper_in (fun _ => trivial) ?_
 rw [Oper.semAt_plain Fence.wide _ _ (by rw [ho]; intro c hc'; cases hc')]
 simp [execOp, ho, resolve, invoke, builtin, hs, hx, hr2, Result.andThen]
 simp only [List.append_toArray] at hk
 exact hk
abbrev laid_ops0 : Oper := ⟨some 17, .move (.tmp 0), 32, "frame.go:84", #[], none⟩
abbrev laid_ops1 : Oper := ⟨some 18, .fieldAddr 40 (.tmp 4) 0, 0, "frame.go:84", #[], none⟩
abbrev laid_ops2 : Oper := ⟨some 19, .load 5 (.tmp 18), 5, "frame.go:84", #[⟨1, .data⟩], none⟩
abbrev laid_ops3 : Oper := ⟨some 20, .buildSlice 28 1 #[(0, .tmp 19)], 28, "frame.go:84", #[⟨2, .data⟩], none⟩
abbrev laid_ops4 : Oper := ⟨some 21, .call ⟨.value (.func 44), #[.tmp 5], #[72]⟩, 28, "frame.go:84", #[], none⟩
abbrev laid_ops5 : Oper := ⟨some 22, .call ⟨.builtin .append, #[.tmp 20, .tmp 21], #[28, 28]⟩, 28, "frame.go:84", #[⟨3, .data⟩, ⟨4, .data⟩, ⟨4, .chain⟩], none⟩
abbrev laid_ops6 : Oper := ⟨some 23, .fieldAddr 40 (.tmp 4) 1, 0, "frame.go:84", #[], none⟩
abbrev laid_ops7 : Oper := ⟨some 24, .load 28 (.tmp 23), 28, "frame.go:84", #[⟨6, .data⟩], none⟩
abbrev laid_ops8 : Oper := ⟨some 25, .call ⟨.value (.tmp 17), #[.tmp 22, .tmp 24], #[28, 28]⟩, 4, "frame.go:84", #[⟨0, .data⟩, ⟨5, .data⟩, ⟨7, .data⟩, ⟨5, .chain⟩], none⟩
abbrev laid_ops9 : Oper := ⟨some 26, .unOp .not 4 (.tmp 25), 4, "frame.go:84", #[⟨8, .data⟩], none⟩
def laid_ops : Array Oper := #[laid_ops0, laid_ops1, laid_ops2, laid_ops3, laid_ops4, laid_ops5, laid_ops6, laid_ops7, laid_ops8, laid_ops9]
def laid_slot : Nat → Nat
 | 0 => 17
 | 1 => 18
 | 2 => 19
 | 3 => 20
 | 4 => 21
 | 5 => 22
 | 6 => 23
 | 7 => 24
 | 8 => 25
 | 9 => 26
 | j + 10 => 1028 + j
theorem laid_inj (i j : Nat) (hi : i < 8) (hj : j < 8) (h : laid_slot i = laid_slot j) : i = j := by
 have key : ∀ i j : Fin 8, laid_slot i.val = laid_slot j.val → i = j := by decide
 exact Fin.mk.inj (key ⟨i, hi⟩ ⟨j, hj⟩ h)
def laidR_val (l T m b4 b5 lB cB B0 : Nat) (pB : Option Addr) (L : List Nat) : Nat → Value → World → Prop
 | 0, v, w => v = .func (.yield l) #[] #[]
 | 1, v, w => v = .pointer (some ⟨b4, 0, none⟩)
 | 2, v, w => v = .int .u8 (T : Nat)
 | 3, v, w => ∃ g, v = .slice (some ⟨g, 0, none⟩) 1 1 ∧ w.heap[g]? = some (.cells #[.int .u8 (T : Nat)] 5 (0, 0))
 | 4, v, w => ∃ TA TC, v = .slice TA m TC ∧ w.ownsRow B0 5 1 (.slice TA m TC) m (lc L)
 | 5, v, w => ∃ TA TC, v = .slice TA (1 + m) TC ∧ w.ownsRow B0 5 1 (.slice TA (1 + m) TC) (1 + m) (lc (T :: L))
 | 6, v, w => v = .pointer (some ⟨b4, 1, none⟩)
 | 7, v, w => v = .slice pB lB cB
 | _, _, _ => True
theorem laidR_below (l T m b4 b5 lB cB B0 : Nat) (pB : Option Addr) (L : List Nat) (w w' : World) (hb : Below w.heap.size w w') : ∀ j v, laidR_val l T m b4 b5 lB cB B0 pB L j v w → laidR_val l T m b4 b5 lB cB B0 pB L j v w' := by
 intro j v h
 match j, h with
 | 0, h | 1, h | 2, h => exact h
 | 3, h => obtain ⟨g, h1, h2⟩ := h; exact ⟨g, h1, (hb.block _ (block_lt h2)).trans h2⟩
 | 4, h => obtain ⟨TA, TC, h1, h2⟩ := h; exact ⟨TA, TC, h1, owns_thru h2 hb⟩
 | 5, h => obtain ⟨TA, TC, h1, h2⟩ := h; exact ⟨TA, TC, h1, owns_thru h2 hb⟩
 | 6, h => exact h
 | 7, h => exact h
 | _ + 8, h => exact h
abbrev laid_mem (s : Nat) : Prop := s ∈ [17, 18, 19, 20, 21, 22, 23, 24]
theorem laidR (l T m b4 b5 lB cB B0 : Nat) (pB : Option Addr) (L : List Nat) (N : Nat) (Q : Exit → Act → World → Prop) (t0 : Array Value) (w0 : World) (ht : t0.size = 28)
  (hs0 : t0.getD 0 undef = .func (.yield l) #[] #[]) (hs4 : t0.getD 4 undef = .pointer (some ⟨b4, 0, none⟩)) (hs5 : t0.getD 5 undef = .pointer (some ⟨b5, 0, none⟩))
  (hL : L.length = m) (hm0 : 0 < m) (hm1 : m ≤ 1000) (hlt : ∀ b ∈ L, b < 256) (hBw : B0 ≤ w0.heap.size) (hN1 : 1 ≤ N)
  (hb4 : w0.heap[b4]? = some (.cells #[.int .u8 (T : Nat), .slice pB lB cB] 40 (0, 0)))
  (cb : ∀ W, Below w0.heap.size w0 W → Calls Tryz.prog 44 #[.pointer (some ⟨b5, 0, none⟩)] W fun e w' => ∃ v, e = .returned v ∧ w'.ownsRow W.heap.size 5 1 v m (lc L) ∧ Below W.heap.size W w')
  (hQ : ∀ (vs : Nat → Value) (w : World), Below w0.heap.size w0 w → (vs 17 = .func (.yield l) #[] #[]) → (∃ TA TC, (vs 22) = .slice TA (1 + m) TC ∧ w.ownsRow B0 5 1 (.slice TA (1 + m) TC) (1 + m) (lc (T :: L))) → (vs 24 = .slice pB lB cB) → wpOpIn Fence.wide N Tryz.prog laid_ops Q 8 (fun a' w' => wpOpIn Fence.wide N Tryz.prog laid_ops Q 9 (Q .normal) a' w') { tmps := [17, 18, 19, 20, 21, 22, 23, 24].foldl (fun y d => y.setIfInBounds d (vs d)) t0, defers := [] } w) :
  (Code.region 5 laid_ops true).wpIn Fence.wide N Tryz.prog Q { tmps := t0, defers := [] } w0 := by
 have hsl : ∀ j, j < 8 → laid_mem (laid_slot j) := by
  intro j hj
  match j, hj with
  | 0, _ => exact (by decide : laid_mem 17)
  | 1, _ => exact (by decide : laid_mem 18)
  | 2, _ => exact (by decide : laid_mem 19)
  | 3, _ => exact (by decide : laid_mem 20)
  | 4, _ => exact (by decide : laid_mem 21)
  | 5, _ => exact (by decide : laid_mem 22)
  | 6, _ => exact (by decide : laid_mem 23)
  | 7, _ => exact (by decide : laid_mem 24)
  | k + 8, hj => omega
 refine wpIn_region_last2 8 rfl (by kernel_rfl) laid_slot (laidR_val l T m b4 b5 lB cB B0 pB L) t0 w0 ?_ (laid_inj) ?_ ?_ ?_ (laidR_below l T m b4 b5 lB cB B0 pB L) ?_ ?_
 ·intro j o ho hj
  rw [ht]
  match j, ho, hj with
  | 0, ho, _ | 1, ho, _ | 2, ho, _ | 3, ho, _ | 4, ho, _ | 5, ho, _ | 6, ho, _ | 7, ho, _ => cases ho; exact ⟨rfl, by decide⟩
  | k + 8, _, hj => omega
 ·intro j o ho
  have hj : j < 10 := (Array.getElem?_eq_some_iff.1 ho).1
  match j, ho with
  | 0, ho | 1, ho | 2, ho | 3, ho | 4, ho | 5, ho | 6, ho | 7, ho | 8, ho | 9, ho => cases ho; decide
  | k + 10, _ => omega
 ·intro listed o hup ho hd
  have e : o = laid_ops8 := (Option.some.inj ho).symm; unfold laid_ops8 at e
  subst e
  have l0 : listed.getD 0 false = true := hd ⟨0, .data⟩ (by simp) rfl
  have l5 : listed.getD 5 false = true := hd ⟨5, .data⟩ (by simp) rfl
  have l7 : listed.getD 7 false = true := hd ⟨7, .data⟩ (by simp) rfl
  have l6 : listed.getD 6 false = true := hup 7 ⟨some 24, .load 28 (.tmp 23), 28, "frame.go:84", #[⟨6, .data⟩], none⟩ rfl l7 ⟨6, .data⟩ (by simp) rfl
  have l3 : listed.getD 3 false = true := hup 5 ⟨some 22, .call ⟨.builtin .append, #[.tmp 20, .tmp 21], #[28, 28]⟩, 28, "frame.go:84", #[⟨3, .data⟩, ⟨4, .data⟩, ⟨4, .chain⟩], none⟩ rfl l5 ⟨3, .data⟩ (by simp) rfl
  have l4 : listed.getD 4 false = true := hup 5 ⟨some 22, .call ⟨.builtin .append, #[.tmp 20, .tmp 21], #[28, 28]⟩, 28, "frame.go:84", #[⟨3, .data⟩, ⟨4, .data⟩, ⟨4, .chain⟩], none⟩ rfl l5 ⟨4, .data⟩ (by simp) rfl
  have l2 : listed.getD 2 false = true := hup 3 ⟨some 20, .buildSlice 28 1 #[(0, .tmp 19)], 28, "frame.go:84", #[⟨2, .data⟩], none⟩ rfl l3 ⟨2, .data⟩ (by simp) rfl
  have l1 : listed.getD 1 false = true := hup 2 ⟨some 19, .load 5 (.tmp 18), 5, "frame.go:84", #[⟨1, .data⟩], none⟩ rfl l2 ⟨1, .data⟩ (by simp) rfl
  intro j hj
  match j, hj with
  | 0, _ | 1, _ | 2, _ | 3, _ | 4, _ | 5, _ | 6, _ | 7, _ => assumption
  | k + 8, hj => omega
 ·intro o ho
  have e : o = laid_ops9 := (Option.some.inj ho).symm; unfold laid_ops9 at e
  subst e
  exact ⟨⟨8, .data⟩, by simp, rfl, rfl⟩
 ·intro j o ho hj x w hB hdef hsz hs hdeps
  have hs' : ∀ s, ¬ laid_mem s → x.tmps.getD s undef = t0.getD s undef := fun s hn => hs s (fun j hj e => hn (by rw [e]; exact hsl j hj))
  have u0 := (hs' 0 (by decide)).trans hs0
  have u4 := (hs' 4 (by decide)).trans hs4
  have u5 := (hs' 5 (by decide)).trans hs5
  clear hs hs' hsl hsz ht hQ hs0 hs4 hs5
  simp only [Array.getD_eq_getD_getElem?] at u0 u4 u5
  match j, ho, hj with
  | 0, ho, _ =>
    have e : o = laid_ops0 := (Option.some.inj ho).symm; unfold laid_ops0 at e
    subst e
    clear hdeps
    refine wpOpIn_plain ho rfl (oper_inK (fun _ => trivial) (fun K hK => ?_))
    clear ho
    rw [Oper.semAt_plain Fence.wide _ _ (by intro c h; cases h)]
    go_simp
    exact hK _ _ ⟨_, act_put x hdef _ _, rfl, Below.refl _ _⟩
  | 1, ho, _ =>
    have e : o = laid_ops1 := (Option.some.inj ho).symm; unfold laid_ops1 at e
    subst e
    clear hdeps
    refine wpOpIn_plain ho rfl (oper_inK (fun _ => trivial) (fun K hK => ?_))
    clear ho
    rw [Oper.semAt_plain Fence.wide _ _ (by intro c h; cases h)]
    go_simp
    exact hK _ _ ⟨_, act_put x hdef _ _, rfl, Below.refl _ _⟩
  | 2, ho, _ =>
    have e : o = laid_ops2 := (Option.some.inj ho).symm; unfold laid_ops2 at e
    subst e
    have q1 : x.tmps.getD 18 undef = .pointer (some ⟨b4, 0, none⟩) := hdeps ⟨1, .data⟩ (by simp) rfl
    simp only [Array.getD_eq_getD_getElem?] at q1
    clear hdeps
    have c0 : w.cell? ⟨b4, 0, none⟩ = some (.int .u8 (T : Nat)) := cell_of_row _ b4 0 _ _ _ ((hB.block _ (block_lt hb4)).trans hb4)
    refine wpOpIn_plain ho rfl (oper_inK (fun _ => trivial) (fun K hK => ?_))
    clear ho
    rw [Oper.semAt_plain Fence.wide _ _ (by intro c h; cases h)]
    go_simp
    exact hK _ _ ⟨_, act_put x hdef _ _, rfl, Below.refl _ _⟩
  | 3, ho, _ =>
    have e : o = laid_ops3 := (Option.some.inj ho).symm; unfold laid_ops3 at e
    subst e
    have q2 : x.tmps.getD 19 undef = .int .u8 (T : Nat) := hdeps ⟨2, .data⟩ (by simp) rfl
    simp only [Array.getD_eq_getD_getElem?] at q2
    clear hdeps
    refine wpOpIn_plain ho rfl (oper_inK (fun _ => trivial) (fun K hK => ?_))
    clear ho
    rw [Oper.semAt_plain Fence.wide _ _ (by intro c h; cases h)]
    go_simp
    exact hK _ _ ⟨_, act_put x hdef _ _, ⟨_, rfl, heap_alloc_new _ _⟩, below_alloc _ _⟩
  | 4, ho, _ =>
    have e : o = laid_ops4 := (Option.some.inj ho).symm; unfold laid_ops4 at e
    subst e
    clear hdeps
    refine wpOpIn_plain ho rfl (oper_inK (fun _ => trivial) (fun K hK => ?_))
    clear ho
    rw [Oper.semAt_plain Fence.wide _ _ (by intro c h; cases h)]
    go_simp
    refine (callsIn_wide.2 (cb w hB)).mono ?_
    rintro e w' ⟨v, rfl, ho, hb⟩
    obtain ⟨TA, TC, rfl⟩ := owns_slice ho
    exact hK _ _ ⟨_, act_put x hdef _ _, ⟨TA, TC, rfl, owns_lower ho (Nat.le_trans hBw hB.size)⟩, hb⟩
  | 5, ho, _ =>
    have e : o = laid_ops5 := (Option.some.inj ho).symm; unfold laid_ops5 at e
    subst e
    obtain ⟨g3, q3, p3⟩ := hdeps ⟨3, .data⟩ (by simp) rfl
    have q3 : x.tmps.getD 20 undef = .slice (some ⟨g3, 0, none⟩) 1 1 := q3
    obtain ⟨TA4, TC4, q4, p4⟩ := hdeps ⟨4, .data⟩ (by simp) rfl
    have q4 : x.tmps.getD 21 undef = .slice TA4 m TC4 := q4
    simp only [Array.getD_eq_getD_getElem?] at q3 q4
    clear hdeps
    refine wpOpIn_plain ho rfl (one_append_in w (.tmp 20) (.tmp 21) rfl g3 T m TC4 TA4 L (by show x.tmps.getD 20 undef = _; rw [Array.getD_eq_getD_getElem?]; exact q3) (by show x.tmps.getD 21 undef = _; rw [Array.getD_eq_getD_getElem?]; exact q4) p3 p4 hL hm0 hm1 hlt ?_)
    intro C' w' h1 h2
    exact ⟨_, rfl, ⟨_, _, rfl, owns_lower h1 (Nat.le_trans hBw hB.size)⟩, h2⟩
  | 6, ho, _ =>
    have e : o = laid_ops6 := (Option.some.inj ho).symm; unfold laid_ops6 at e
    subst e
    clear hdeps
    refine wpOpIn_plain ho rfl (oper_inK (fun _ => trivial) (fun K hK => ?_))
    clear ho
    rw [Oper.semAt_plain Fence.wide _ _ (by intro c h; cases h)]
    go_simp
    exact hK _ _ ⟨_, act_put x hdef _ _, rfl, Below.refl _ _⟩
  | 7, ho, _ =>
    have e : o = laid_ops7 := (Option.some.inj ho).symm; unfold laid_ops7 at e
    subst e
    have q6 : x.tmps.getD 23 undef = .pointer (some ⟨b4, 1, none⟩) := hdeps ⟨6, .data⟩ (by simp) rfl
    simp only [Array.getD_eq_getD_getElem?] at q6
    clear hdeps
    have c1 : w.cell? ⟨b4, 1, none⟩ = some (.slice pB lB cB) := cell_of_row _ b4 1 _ _ _ ((hB.block _ (block_lt hb4)).trans hb4)
    refine wpOpIn_plain ho rfl (oper_inK (fun _ => trivial) (fun K hK => ?_))
    clear ho
    rw [Oper.semAt_plain Fence.wide _ _ (by intro c h; cases h)]
    go_simp
    exact hK _ _ ⟨_, act_put x hdef _ _, rfl, Below.refl _ _⟩
  | k + 8, _, hj => omega
 ·intro x w hB hdef hsz hs hv
  have hx := frame_sets x.tmps t0 hsz [17, 18, 19, 20, 21, 22, 23, 24] (fun s hn => hs s (fun j hj e => hn (by rw [e]; exact hsl j hj)))
  have hq := hQ (fun d => x.tmps.getD d undef) w hB (hv 0 (by decide)) (hv 5 (by decide)) (hv 7 (by decide))
  obtain ⟨T, Df⟩ := x
  dsimp only at hx hdef hq
  subst hdef
  rw [← hx] at hq
  exact hq
end Go.Proofs.YtppdbinppibjhaaGreatDoor
