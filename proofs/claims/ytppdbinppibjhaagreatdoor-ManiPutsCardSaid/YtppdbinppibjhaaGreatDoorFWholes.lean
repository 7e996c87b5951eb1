/-
  frame.whole: the region that draws its order (written by tools/gen-whole.py).
-/
import Derived.Test.YtppdbinppibjhaaGreatDoorFRP
import Derived.Test.YtppdbinppibjhaaGreatDoorCrcs
import Derived.Test.YtppdbinppibjhaaGreatDoorRegionsA
set_option maxHeartbeats 2000000
set_option maxRecDepth 100000
set_option linter.unusedVariables false
set_option linter.unusedSimpArgs false
namespace Go.Proofs.YtppdbinppibjhaaGreatDoor
open Go.RowKit
theorem act_put (x : Act) (h : x.defers = []) (d : Nat) (v : Value) : ({ tmps := x.tmps.setIfInBounds d v, defers := [] } : Act) = x.put (some d) v := by
 cases x; cases h; rfl
theorem get_some {t : Array Value} {s : Nat} {v : Value} (h : t.getD s undef = v) (hv : v ≠ undef) : t[s]? = some v := by
 rw [Array.getD_eq_getD_getElem?] at h
 cases e : t[s]? with
 | none => rw [e] at h; exact absurd h.symm hv
 | some u => rw [e] at h; exact congrArg some h
abbrev whole_mem (s : Nat) : Prop := s ∈ [7, 8, 9, 10, 11, 12, 13, 14, 15, 16, 17, 18, 19, 20, 21, 22, 23, 24, 25, 26, 27, 28, 29, 30, 31, 32, 33, 34, 2]
theorem whole_list (s : Nat) (h : whole_mem s) : s ∈ [7, 8, 9, 10, 11, 12, 13, 14, 15, 16, 17, 18, 19, 20, 21, 22, 23, 24, 25, 26, 27, 28, 29, 30, 31, 32, 33, 34, 2] := h
abbrev whole_ops0 : Oper := ⟨some 7, .move (.tmp 3), 3, "frame.go:61", #[], none⟩
abbrev whole_ops1 : Oper := ⟨some 8, .binOp .geq 3 (.tmp 7) (.const (.int .i64 4)) 3, 4, "frame.go:61", #[⟨0, .data⟩], none⟩
abbrev whole_ops2 : Oper := ⟨some 9, .move (.tmp 8), 4, "frame.go:61", #[⟨1, .data⟩], none⟩
abbrev whole_ops3 : Oper := ⟨some 10, .move (.tmp 0), 28, "frame.go:61", #[⟨2, .guard⟩], some (2, true)⟩
abbrev whole_ops4 : Oper := ⟨some 11, .call ⟨.builtin .len, #[.tmp 10], #[28]⟩, 3, "frame.go:61", #[⟨3, .data⟩, ⟨2, .guard⟩], some (2, true)⟩
abbrev whole_ops5 : Oper := ⟨some 12, .binOp .leq 3 (.tmp 11) (.const (.int .i64 67108864)) 3, 4, "frame.go:61", #[⟨4, .data⟩, ⟨2, .guard⟩], some (2, true)⟩
abbrev whole_ops6 : Oper := ⟨some 13, .pick (.tmp 9) (.tmp 12) (.const (.bool false)), 4, "frame.go:61", #[⟨2, .data⟩, ⟨5, .data⟩], none⟩
abbrev whole_ops7 : Oper := ⟨some 14, .move (.tmp 13), 4, "frame.go:61", #[⟨6, .data⟩, ⟨2, .chain⟩], none⟩
abbrev whole_ops8 : Oper := ⟨some 15, .move (.tmp 0), 28, "frame.go:61", #[⟨7, .guard⟩], some (7, true)⟩
abbrev whole_ops9 : Oper := ⟨some 16, .slice 28 (.tmp 15) none (some (.const (.int .i64 4))) none, 28, "frame.go:61", #[⟨8, .data⟩, ⟨7, .guard⟩], some (7, true)⟩
abbrev whole_ops10 : Oper := ⟨some 17, .call ⟨.value (.func 156), #[.tmp 16], #[28]⟩, 52, "frame.go:62", #[⟨9, .data⟩, ⟨7, .chain⟩, ⟨7, .guard⟩], some (7, true)⟩
abbrev whole_ops11 : Oper := ⟨some 18, .move (.tmp 0), 28, "frame.go:61", #[⟨7, .guard⟩], some (7, true)⟩
abbrev whole_ops12 : Oper := ⟨some 19, .call ⟨.builtin .len, #[.tmp 18], #[28]⟩, 3, "frame.go:61", #[⟨11, .data⟩, ⟨7, .guard⟩], some (7, true)⟩
abbrev whole_ops13 : Oper := ⟨some 20, .convert 3 52 (.tmp 19), 52, "frame.go:61", #[⟨12, .data⟩, ⟨7, .guard⟩], some (7, true)⟩
abbrev whole_ops14 : Oper := ⟨some 21, .binOp .eql 52 (.tmp 17) (.tmp 20) 52, 4, "frame.go:61", #[⟨10, .data⟩, ⟨13, .data⟩, ⟨7, .guard⟩], some (7, true)⟩
abbrev whole_ops15 : Oper := ⟨some 22, .pick (.tmp 14) (.tmp 21) (.const (.bool false)), 4, "frame.go:61", #[⟨7, .data⟩, ⟨14, .data⟩], none⟩
abbrev whole_ops16 : Oper := ⟨some 23, .move (.tmp 22), 4, "frame.go:61", #[⟨15, .data⟩, ⟨10, .chain⟩], none⟩
abbrev whole_ops17 : Oper := ⟨some 24, .move (.tmp 0), 28, "frame.go:61", #[⟨16, .guard⟩], some (16, true)⟩
abbrev whole_ops18 : Oper := ⟨some 25, .move (.tmp 3), 3, "frame.go:61", #[⟨16, .guard⟩], some (16, true)⟩
abbrev whole_ops19 : Oper := ⟨some 26, .slice 28 (.tmp 24) (some (.tmp 25)) none none, 28, "frame.go:61", #[⟨17, .data⟩, ⟨18, .data⟩, ⟨16, .guard⟩], some (16, true)⟩
abbrev whole_ops20 : Oper := ⟨some 27, .call ⟨.value (.func 156), #[.tmp 26], #[28]⟩, 52, "frame.go:63", #[⟨19, .data⟩, ⟨16, .chain⟩, ⟨16, .guard⟩], some (16, true)⟩
abbrev whole_ops21 : Oper := ⟨some 28, .move (.tmp 0), 28, "frame.go:61", #[⟨16, .guard⟩], some (16, true)⟩
abbrev whole_ops22 : Oper := ⟨some 29, .move (.tmp 3), 3, "frame.go:61", #[⟨16, .guard⟩], some (16, true)⟩
abbrev whole_ops23 : Oper := ⟨some 30, .slice 28 (.tmp 28) none (some (.tmp 29)) none, 28, "frame.go:61", #[⟨21, .data⟩, ⟨22, .data⟩, ⟨16, .guard⟩], some (16, true)⟩
abbrev whole_ops24 : Oper := ⟨some 31, .buildSlice 36 1 #[(0, .tmp 30)], 36, "frame.go:61", #[⟨23, .data⟩, ⟨16, .guard⟩], some (16, true)⟩
abbrev whole_ops25 : Oper := ⟨some 32, .call ⟨.value (.func 71), #[.tmp 31], #[36]⟩, 52, "frame.go:63", #[⟨24, .data⟩, ⟨20, .chain⟩, ⟨16, .guard⟩], some (16, true)⟩
abbrev whole_ops26 : Oper := ⟨some 33, .binOp .eql 52 (.tmp 27) (.tmp 32) 52, 4, "frame.go:61", #[⟨20, .data⟩, ⟨25, .data⟩, ⟨16, .guard⟩], some (16, true)⟩
abbrev whole_ops27 : Oper := ⟨some 34, .pick (.tmp 23) (.tmp 33) (.const (.bool false)), 4, "frame.go:61", #[⟨16, .data⟩, ⟨26, .data⟩], none⟩
abbrev whole_ops28 : Oper := ⟨some 2, .assign (.tmp 34), 4, "frame.go:61", #[⟨27, .data⟩, ⟨25, .chain⟩, ⟨0, .phase⟩, ⟨1, .phase⟩, ⟨2, .phase⟩, ⟨3, .phase⟩, ⟨4, .phase⟩, ⟨5, .phase⟩, ⟨6, .phase⟩, ⟨7, .phase⟩, ⟨8, .phase⟩, ⟨9, .phase⟩, ⟨10, .phase⟩, ⟨11, .phase⟩, ⟨12, .phase⟩, ⟨13, .phase⟩, ⟨14, .phase⟩, ⟨15, .phase⟩, ⟨16, .phase⟩, ⟨17, .phase⟩, ⟨18, .phase⟩, ⟨19, .phase⟩, ⟨20, .phase⟩, ⟨21, .phase⟩, ⟨22, .phase⟩, ⟨23, .phase⟩, ⟨24, .phase⟩, ⟨25, .phase⟩, ⟨26, .phase⟩, ⟨27, .phase⟩], none⟩
def whole_ops : Array Oper := #[whole_ops0, whole_ops1, whole_ops2, whole_ops3, whole_ops4, whole_ops5, whole_ops6, whole_ops7, whole_ops8, whole_ops9, whole_ops10, whole_ops11, whole_ops12, whole_ops13, whole_ops14, whole_ops15, whole_ops16, whole_ops17, whole_ops18, whole_ops19, whole_ops20, whole_ops21, whole_ops22, whole_ops23, whole_ops24, whole_ops25, whole_ops26, whole_ops27, whole_ops28]
def whole_slot : Nat → Nat
 | 0 => 7
 | 1 => 8
 | 2 => 9
 | 3 => 10
 | 4 => 11
 | 5 => 12
 | 6 => 13
 | 7 => 14
 | 8 => 15
 | 9 => 16
 | 10 => 17
 | 11 => 18
 | 12 => 19
 | 13 => 20
 | 14 => 21
 | 15 => 22
 | 16 => 23
 | 17 => 24
 | 18 => 25
 | 19 => 26
 | 20 => 27
 | 21 => 28
 | 22 => 29
 | 23 => 30
 | 24 => 31
 | 25 => 32
 | 26 => 33
 | 27 => 34
 | 28 => 2
 | j + 29 => 1035 + j
def wholeS_val (n k C : Nat) (A A2 : Option Addr) (s1 s2 s3 : Nat) (b : Bool) : Nat → Value → World → Prop
 | 0, v, w => v = .int .i64 (k : Nat)
 | 1, v, w => v = .bool true
 | 2, v, w => v = .bool true
 | 3, v, w => v = .slice A n C
 | 4, v, w => v = .int .i64 (n : Nat)
 | 5, v, w | 6, v, w | 7, v, w => v = .bool true
 | 8, v, w => v = .slice A n C
 | 9, v, w => v = .slice A 4 C
 | 10, v, w => v = .int .u32 (s1 : Nat)
 | 11, v, w => v = .slice A n C
 | 12, v, w => v = .int .i64 (n : Nat)
 | 13, v, w => v = .int .u32 (n : Nat)
 | 14, v, w | 15, v, w | 16, v, w => v = .bool false
 | 17, v, w | 18, v, w | 19, v, w | 20, v, w | 21, v, w | 22, v, w | 23, v, w | 24, v, w | 25, v, w | 26, v, w => v = undef
 | 27, v, w => v = .bool false
 | 28, v, w => v = .bool false
 | _, _, _ => True
theorem whole_inj (i j : Nat) (hi : i < whole_ops.size) (hj : j < whole_ops.size) (h : whole_slot i = whole_slot j) : i = j := by
 have key : ∀ i j : Fin 29, whole_slot i.val = whole_slot j.val → i = j := by decide
 have := key ⟨i, hi⟩ ⟨j, hj⟩ h
 exact Fin.mk.inj this
theorem wholeS_below (n k C : Nat) (A A2 : Option Addr) (s1 s2 s3 : Nat) (b : Bool) (w w' : World) (hb : Below w.heap.size w w') : ∀ j v, wholeS_val n k C A A2 s1 s2 s3 b j v w → wholeS_val n k C A A2 s1 s2 s3 b j v w' := by
 intro j v h
 match j, h with
 | 0, h | 1, h | 2, h | 3, h | 4, h | 5, h | 6, h | 7, h | 8, h | 9, h | 10, h | 11, h | 12, h | 13, h | 14, h | 15, h | 16, h | 17, h | 18, h | 19, h | 20, h | 21, h | 22, h | 23, h | 24, h | 25, h | 26, h | 27, h | 28, h => exact h
 | _ + 29, h => exact h
theorem wholeS (n k C : Nat) (A A2 : Option Addr) (s1 s2 s3 : Nat) (b : Bool) (Q : Exit → Act → World → Prop) (t0 : Array Value) (w0 : World) (ht : t0.size = 35)
  (hs0 : t0.getD 0 undef = .slice A n C) (hs3 : t0.getD 3 undef = .int .i64 (k : Nat))
  (hh : Hid (4 ≤ k ∧ n = k + 4 ∧ n ≤ 1000000 ∧ n ≤ C))
  (c1 : ∀ W, Below w0.heap.size w0 W → Calls Tryz.prog 156 #[.slice A 4 C] W fun e w' => e = .returned (.int .u32 (s1 : Nat)) ∧ Below W.heap.size W w')
  (hs : Hid (s1 ≠ n))
  (hQ : ∀ (vs : Nat → Value) (w : World), Below w0.heap.size w0 w → (vs 2 = .bool false) → Q .normal { tmps := [7, 8, 9, 10, 11, 12, 13, 14, 15, 16, 17, 18, 19, 20, 21, 22, 23, 24, 25, 26, 27, 28, 29, 30, 31, 32, 33, 34, 2].foldl (fun y d => y.setIfInBounds d (vs d)) t0, defers := [] } w) :
  (Code.region 2 whole_ops true).wp Tryz.prog Q { tmps := t0, defers := [] } w0 := by
 have hsl : ∀ j, j < 29 → whole_mem (whole_slot j) := by
  intro j hj
  match j, hj with
  | 0, _ => exact (by decide : whole_mem 7)
  | 1, _ => exact (by decide : whole_mem 8)
  | 2, _ => exact (by decide : whole_mem 9)
  | 3, _ => exact (by decide : whole_mem 10)
  | 4, _ => exact (by decide : whole_mem 11)
  | 5, _ => exact (by decide : whole_mem 12)
  | 6, _ => exact (by decide : whole_mem 13)
  | 7, _ => exact (by decide : whole_mem 14)
  | 8, _ => exact (by decide : whole_mem 15)
  | 9, _ => exact (by decide : whole_mem 16)
  | 10, _ => exact (by decide : whole_mem 17)
  | 11, _ => exact (by decide : whole_mem 18)
  | 12, _ => exact (by decide : whole_mem 19)
  | 13, _ => exact (by decide : whole_mem 20)
  | 14, _ => exact (by decide : whole_mem 21)
  | 15, _ => exact (by decide : whole_mem 22)
  | 16, _ => exact (by decide : whole_mem 23)
  | 17, _ => exact (by decide : whole_mem 24)
  | 18, _ => exact (by decide : whole_mem 25)
  | 19, _ => exact (by decide : whole_mem 26)
  | 20, _ => exact (by decide : whole_mem 27)
  | 21, _ => exact (by decide : whole_mem 28)
  | 22, _ => exact (by decide : whole_mem 29)
  | 23, _ => exact (by decide : whole_mem 30)
  | 24, _ => exact (by decide : whole_mem 31)
  | 25, _ => exact (by decide : whole_mem 32)
  | 26, _ => exact (by decide : whole_mem 33)
  | 27, _ => exact (by decide : whole_mem 34)
  | 28, _ => exact (by decide : whole_mem 2)
  | k + 29, hj => omega
 refine wp_region_inv (by kernel_rfl) whole_slot (wholeS_val n k C A A2 s1 s2 s3 b) t0 w0 ?_ ?_ ?_ (wholeS_below n k C A A2 s1 s2 s3 b) ?_ ?_
 ·intro j o ho
  have hj : j < 29 := (Array.getElem?_eq_some_iff.1 ho).1
  rw [ht]
  match j, ho with
  | 0, ho | 1, ho | 2, ho | 3, ho | 4, ho | 5, ho | 6, ho | 7, ho | 8, ho | 9, ho | 10, ho | 11, ho | 12, ho | 13, ho | 14, ho | 15, ho | 16, ho | 17, ho | 18, ho | 19, ho | 20, ho | 21, ho | 22, ho | 23, ho | 24, ho | 25, ho | 26, ho | 27, ho | 28, ho => cases ho; exact ⟨rfl, by decide⟩
  | k + 29, _ => omega
 ·intro i j hi hj h
  exact whole_inj i j hi hj h
 ·intro j o ho
  have hj : j < 29 := (Array.getElem?_eq_some_iff.1 ho).1
  match j, ho with
  | 0, ho | 1, ho | 2, ho | 3, ho | 4, ho | 5, ho | 6, ho | 7, ho | 8, ho | 9, ho | 10, ho | 11, ho | 12, ho | 13, ho | 14, ho | 15, ho | 16, ho | 17, ho | 18, ho | 19, ho | 20, ho | 21, ho | 22, ho | 23, ho | 24, ho | 25, ho | 26, ho | 27, ho | 28, ho => cases ho; decide
  | k + 29, _ => omega
 ·intro j o ho x w hB hdef hsz hs hdeps
  have hs' : ∀ s, ¬ whole_mem s → x.tmps.getD s undef = t0.getD s undef := fun s hn => hs s (fun j hj e => hn (by rw [e]; exact hsl j hj))
  have u0 := (hs' 0 (by decide)).trans hs0
  have u3 := (hs' 3 (by decide)).trans hs3
  have hj : j < 29 := (Array.getElem?_eq_some_iff.1 ho).1
  clear hs hs' hsl hsz ht hQ hs0 hs3
  simp only [Array.getD_eq_getD_getElem?] at u0 u3
  match j, ho with
  | 0, ho =>
    have e : o = whole_ops0 := (Option.some.inj ho).symm; unfold whole_ops0 at e
    subst e
    clear hdeps
    refine wpOp_step ho (fun K hK => ?_)
    clear ho
    go_simp
    exact hK _ _ ⟨_, act_put x hdef _ _, rfl, Below.refl _ _⟩
  | 1, ho =>
    have e : o = whole_ops1 := (Option.some.inj ho).symm; unfold whole_ops1 at e
    subst e
    have q0 : x.tmps.getD 7 undef = .int .i64 (k : Nat) := hdeps ⟨0, .data⟩ (by simp) rfl
    simp only [Array.getD_eq_getD_getElem?] at q0
    clear hdeps
    have h4 : (4 : Int) ≤ (k : Int) := by have := hh.out; omega
    refine wpOp_step ho (fun K hK => ?_)
    clear ho
    go_simp
    exact hK _ _ ⟨_, act_put x hdef _ _, rfl, Below.refl _ _⟩
  | 2, ho =>
    have e : o = whole_ops2 := (Option.some.inj ho).symm; unfold whole_ops2 at e
    subst e
    have q1 : x.tmps.getD 8 undef = .bool true := hdeps ⟨1, .data⟩ (by simp) rfl
    simp only [Array.getD_eq_getD_getElem?] at q1
    clear hdeps
    refine wpOp_step ho (fun K hK => ?_)
    clear ho
    go_simp
    exact hK _ _ ⟨_, act_put x hdef _ _, rfl, Below.refl _ _⟩
  | 3, ho =>
    have e : o = whole_ops3 := (Option.some.inj ho).symm; unfold whole_ops3 at e
    subst e
    have q2 : x.tmps.getD 9 undef = .bool true := hdeps ⟨2, .guard⟩ (by simp) rfl
    have e2 : (whole_ops[2]?.bind fun x => x.dst) = some 9 := rfl
    have g2 := get_some q2 (fun h => by cases h)
    simp only [Array.getD_eq_getD_getElem?] at q2
    clear hdeps
    refine wpOp_step ho (fun K hK => ?_)
    clear ho
    go_simp
    exact hK _ _ ⟨_, act_put x hdef _ _, rfl, Below.refl _ _⟩
  | 4, ho =>
    have e : o = whole_ops4 := (Option.some.inj ho).symm; unfold whole_ops4 at e
    subst e
    have q3 : x.tmps.getD 10 undef = .slice A n C := hdeps ⟨3, .data⟩ (by simp) rfl
    have q2 : x.tmps.getD 9 undef = .bool true := hdeps ⟨2, .guard⟩ (by simp) rfl
    have e2 : (whole_ops[2]?.bind fun x => x.dst) = some 9 := rfl
    have g2 := get_some q2 (fun h => by cases h)
    simp only [Array.getD_eq_getD_getElem?] at q3 q2
    clear hdeps
    refine wpOp_step ho (fun K hK => ?_)
    clear ho
    go_simp
    exact hK _ _ ⟨_, act_put x hdef _ _, rfl, Below.refl _ _⟩
  | 5, ho =>
    have e : o = whole_ops5 := (Option.some.inj ho).symm; unfold whole_ops5 at e
    subst e
    have q4 : x.tmps.getD 11 undef = .int .i64 (n : Nat) := hdeps ⟨4, .data⟩ (by simp) rfl
    have q2 : x.tmps.getD 9 undef = .bool true := hdeps ⟨2, .guard⟩ (by simp) rfl
    have e2 : (whole_ops[2]?.bind fun x => x.dst) = some 9 := rfl
    have g2 := get_some q2 (fun h => by cases h)
    simp only [Array.getD_eq_getD_getElem?] at q4 q2
    clear hdeps
    have h5 : (n : Int) ≤ 67108864 := by have := hh.out; omega
    refine wpOp_step ho (fun K hK => ?_)
    clear ho
    go_simp
    exact hK _ _ ⟨_, act_put x hdef _ _, rfl, Below.refl _ _⟩
  | 6, ho =>
    have e : o = whole_ops6 := (Option.some.inj ho).symm; unfold whole_ops6 at e
    subst e
    have q2 : x.tmps.getD 9 undef = .bool true := hdeps ⟨2, .data⟩ (by simp) rfl
    have q5 : x.tmps.getD 12 undef = .bool true := hdeps ⟨5, .data⟩ (by simp) rfl
    simp only [Array.getD_eq_getD_getElem?] at q2 q5
    clear hdeps
    refine wpOp_step ho (fun K hK => ?_)
    clear ho
    go_simp
    exact hK _ _ ⟨_, act_put x hdef _ _, rfl, Below.refl _ _⟩
  | 7, ho =>
    have e : o = whole_ops7 := (Option.some.inj ho).symm; unfold whole_ops7 at e
    subst e
    have q6 : x.tmps.getD 13 undef = .bool true := hdeps ⟨6, .data⟩ (by simp) rfl
    simp only [Array.getD_eq_getD_getElem?] at q6
    clear hdeps
    refine wpOp_step ho (fun K hK => ?_)
    clear ho
    go_simp
    exact hK _ _ ⟨_, act_put x hdef _ _, rfl, Below.refl _ _⟩
  | 8, ho =>
    have e : o = whole_ops8 := (Option.some.inj ho).symm; unfold whole_ops8 at e
    subst e
    have q7 : x.tmps.getD 14 undef = .bool true := hdeps ⟨7, .guard⟩ (by simp) rfl
    have e7 : (whole_ops[7]?.bind fun x => x.dst) = some 14 := rfl
    have g7 := get_some q7 (fun h => by cases h)
    simp only [Array.getD_eq_getD_getElem?] at q7
    clear hdeps
    refine wpOp_step ho (fun K hK => ?_)
    clear ho
    go_simp
    exact hK _ _ ⟨_, act_put x hdef _ _, rfl, Below.refl _ _⟩
  | 9, ho =>
    have e : o = whole_ops9 := (Option.some.inj ho).symm; unfold whole_ops9 at e
    subst e
    have q8 : x.tmps.getD 15 undef = .slice A n C := hdeps ⟨8, .data⟩ (by simp) rfl
    have q7 : x.tmps.getD 14 undef = .bool true := hdeps ⟨7, .guard⟩ (by simp) rfl
    have e7 : (whole_ops[7]?.bind fun x => x.dst) = some 14 := rfl
    have g7 := get_some q7 (fun h => by cases h)
    simp only [Array.getD_eq_getD_getElem?] at q8 q7
    clear hdeps
    have h9 : (4 : Int) ≤ (C : Int) := by have := hh.out; omega
    refine wpOp_step ho (fun K hK => ?_)
    clear ho
    go_simp
    exact hK _ _ ⟨_, act_put x hdef _ _, rfl, Below.refl _ _⟩
  | 10, ho =>
    have e : o = whole_ops10 := (Option.some.inj ho).symm; unfold whole_ops10 at e
    subst e
    have q9 : x.tmps.getD 16 undef = .slice A 4 C := hdeps ⟨9, .data⟩ (by simp) rfl
    have q7 : x.tmps.getD 14 undef = .bool true := hdeps ⟨7, .guard⟩ (by simp) rfl
    have e7 : (whole_ops[7]?.bind fun x => x.dst) = some 14 := rfl
    have g7 := get_some q7 (fun h => by cases h)
    simp only [Array.getD_eq_getD_getElem?] at q9 q7
    clear hdeps
    refine wpOp_step ho (fun K hK => ?_)
    clear ho
    go_simp
    refine (c1 w hB).mono ?_
    rintro e w' ⟨rfl, hb⟩
    exact hK _ _ ⟨_, act_put x hdef _ _, rfl, hb⟩
  | 11, ho =>
    have e : o = whole_ops11 := (Option.some.inj ho).symm; unfold whole_ops11 at e
    subst e
    have q7 : x.tmps.getD 14 undef = .bool true := hdeps ⟨7, .guard⟩ (by simp) rfl
    have e7 : (whole_ops[7]?.bind fun x => x.dst) = some 14 := rfl
    have g7 := get_some q7 (fun h => by cases h)
    simp only [Array.getD_eq_getD_getElem?] at q7
    clear hdeps
    refine wpOp_step ho (fun K hK => ?_)
    clear ho
    go_simp
    exact hK _ _ ⟨_, act_put x hdef _ _, rfl, Below.refl _ _⟩
  | 12, ho =>
    have e : o = whole_ops12 := (Option.some.inj ho).symm; unfold whole_ops12 at e
    subst e
    have q11 : x.tmps.getD 18 undef = .slice A n C := hdeps ⟨11, .data⟩ (by simp) rfl
    have q7 : x.tmps.getD 14 undef = .bool true := hdeps ⟨7, .guard⟩ (by simp) rfl
    have e7 : (whole_ops[7]?.bind fun x => x.dst) = some 14 := rfl
    have g7 := get_some q7 (fun h => by cases h)
    simp only [Array.getD_eq_getD_getElem?] at q11 q7
    clear hdeps
    refine wpOp_step ho (fun K hK => ?_)
    clear ho
    go_simp
    exact hK _ _ ⟨_, act_put x hdef _ _, rfl, Below.refl _ _⟩
  | 13, ho =>
    have e : o = whole_ops13 := (Option.some.inj ho).symm; unfold whole_ops13 at e
    subst e
    have q12 : x.tmps.getD 19 undef = .int .i64 (n : Nat) := hdeps ⟨12, .data⟩ (by simp) rfl
    have q7 : x.tmps.getD 14 undef = .bool true := hdeps ⟨7, .guard⟩ (by simp) rfl
    have e7 : (whole_ops[7]?.bind fun x => x.dst) = some 14 := rfl
    have g7 := get_some q7 (fun h => by cases h)
    simp only [Array.getD_eq_getD_getElem?] at q12 q7
    clear hdeps
    refine wpOp_step ho (fun K hK => ?_)
    clear ho
    go_simp
    rw [IntWalk.u32_in (n : Int) (by have := hh.out; omega)]
    exact hK _ _ ⟨_, act_put x hdef _ _, rfl, Below.refl _ _⟩
  | 14, ho =>
    have e : o = whole_ops14 := (Option.some.inj ho).symm; unfold whole_ops14 at e
    subst e
    have q10 : x.tmps.getD 17 undef = .int .u32 (s1 : Nat) := hdeps ⟨10, .data⟩ (by simp) rfl
    have q13 : x.tmps.getD 20 undef = .int .u32 (n : Nat) := hdeps ⟨13, .data⟩ (by simp) rfl
    have q7 : x.tmps.getD 14 undef = .bool true := hdeps ⟨7, .guard⟩ (by simp) rfl
    have e7 : (whole_ops[7]?.bind fun x => x.dst) = some 14 := rfl
    have g7 := get_some q7 (fun h => by cases h)
    simp only [Array.getD_eq_getD_getElem?] at q10 q13 q7
    clear hdeps
    have h6 : ((s1 : Int) == (n : Int)) = false := by have := hs.out; simp; omega
    refine wpOp_step ho (fun K hK => ?_)
    clear ho
    go_simp
    exact hK _ _ ⟨_, act_put x hdef _ _, rfl, Below.refl _ _⟩
  | 15, ho =>
    have e : o = whole_ops15 := (Option.some.inj ho).symm; unfold whole_ops15 at e
    subst e
    have q7 : x.tmps.getD 14 undef = .bool true := hdeps ⟨7, .data⟩ (by simp) rfl
    have q14 : x.tmps.getD 21 undef = .bool false := hdeps ⟨14, .data⟩ (by simp) rfl
    simp only [Array.getD_eq_getD_getElem?] at q7 q14
    clear hdeps
    refine wpOp_step ho (fun K hK => ?_)
    clear ho
    go_simp
    exact hK _ _ ⟨_, act_put x hdef _ _, rfl, Below.refl _ _⟩
  | 16, ho =>
    have e : o = whole_ops16 := (Option.some.inj ho).symm; unfold whole_ops16 at e
    subst e
    have q15 : x.tmps.getD 22 undef = .bool false := hdeps ⟨15, .data⟩ (by simp) rfl
    simp only [Array.getD_eq_getD_getElem?] at q15
    clear hdeps
    refine wpOp_step ho (fun K hK => ?_)
    clear ho
    go_simp
    exact hK _ _ ⟨_, act_put x hdef _ _, rfl, Below.refl _ _⟩
  | 17, ho =>
    have e : o = whole_ops17 := (Option.some.inj ho).symm; unfold whole_ops17 at e
    subst e
    have q16 : x.tmps.getD 23 undef = .bool false := hdeps ⟨16, .guard⟩ (by simp) rfl
    have e16 : (whole_ops[16]?.bind fun x => x.dst) = some 23 := rfl
    have g16 := get_some q16 (fun h => by cases h)
    simp only [Array.getD_eq_getD_getElem?] at q16
    clear hdeps
    refine wpOp_step ho (fun K hK => ?_)
    clear ho
    go_simp
    exact hK _ _ ⟨_, act_put x hdef _ _, rfl, Below.refl _ _⟩
  | 18, ho =>
    have e : o = whole_ops18 := (Option.some.inj ho).symm; unfold whole_ops18 at e
    subst e
    have q16 : x.tmps.getD 23 undef = .bool false := hdeps ⟨16, .guard⟩ (by simp) rfl
    have e16 : (whole_ops[16]?.bind fun x => x.dst) = some 23 := rfl
    have g16 := get_some q16 (fun h => by cases h)
    simp only [Array.getD_eq_getD_getElem?] at q16
    clear hdeps
    refine wpOp_step ho (fun K hK => ?_)
    clear ho
    go_simp
    exact hK _ _ ⟨_, act_put x hdef _ _, rfl, Below.refl _ _⟩
  | 19, ho =>
    have e : o = whole_ops19 := (Option.some.inj ho).symm; unfold whole_ops19 at e
    subst e
    have q17 : x.tmps.getD 24 undef = undef := hdeps ⟨17, .data⟩ (by simp) rfl
    have q18 : x.tmps.getD 25 undef = undef := hdeps ⟨18, .data⟩ (by simp) rfl
    have q16 : x.tmps.getD 23 undef = .bool false := hdeps ⟨16, .guard⟩ (by simp) rfl
    have e16 : (whole_ops[16]?.bind fun x => x.dst) = some 23 := rfl
    have g16 := get_some q16 (fun h => by cases h)
    simp only [Array.getD_eq_getD_getElem?] at q17 q18 q16
    clear hdeps
    have h9 : (k : Int) ≤ (n : Int) := by have := hh.out; omega
    refine wpOp_step ho (fun K hK => ?_)
    clear ho
    go_simp
    exact hK _ _ ⟨_, act_put x hdef _ _, rfl, Below.refl _ _⟩
  | 20, ho =>
    have e : o = whole_ops20 := (Option.some.inj ho).symm; unfold whole_ops20 at e
    subst e
    have q19 : x.tmps.getD 26 undef = undef := hdeps ⟨19, .data⟩ (by simp) rfl
    have q16 : x.tmps.getD 23 undef = .bool false := hdeps ⟨16, .guard⟩ (by simp) rfl
    have e16 : (whole_ops[16]?.bind fun x => x.dst) = some 23 := rfl
    have g16 := get_some q16 (fun h => by cases h)
    simp only [Array.getD_eq_getD_getElem?] at q19 q16
    clear hdeps
    refine wpOp_step ho (fun K hK => ?_)
    clear ho
    go_simp
    exact hK _ _ ⟨_, act_put x hdef _ _, rfl, Below.refl _ _⟩
  | 21, ho =>
    have e : o = whole_ops21 := (Option.some.inj ho).symm; unfold whole_ops21 at e
    subst e
    have q16 : x.tmps.getD 23 undef = .bool false := hdeps ⟨16, .guard⟩ (by simp) rfl
    have e16 : (whole_ops[16]?.bind fun x => x.dst) = some 23 := rfl
    have g16 := get_some q16 (fun h => by cases h)
    simp only [Array.getD_eq_getD_getElem?] at q16
    clear hdeps
    refine wpOp_step ho (fun K hK => ?_)
    clear ho
    go_simp
    exact hK _ _ ⟨_, act_put x hdef _ _, rfl, Below.refl _ _⟩
  | 22, ho =>
    have e : o = whole_ops22 := (Option.some.inj ho).symm; unfold whole_ops22 at e
    subst e
    have q16 : x.tmps.getD 23 undef = .bool false := hdeps ⟨16, .guard⟩ (by simp) rfl
    have e16 : (whole_ops[16]?.bind fun x => x.dst) = some 23 := rfl
    have g16 := get_some q16 (fun h => by cases h)
    simp only [Array.getD_eq_getD_getElem?] at q16
    clear hdeps
    refine wpOp_step ho (fun K hK => ?_)
    clear ho
    go_simp
    exact hK _ _ ⟨_, act_put x hdef _ _, rfl, Below.refl _ _⟩
  | 23, ho =>
    have e : o = whole_ops23 := (Option.some.inj ho).symm; unfold whole_ops23 at e
    subst e
    have q21 : x.tmps.getD 28 undef = undef := hdeps ⟨21, .data⟩ (by simp) rfl
    have q22 : x.tmps.getD 29 undef = undef := hdeps ⟨22, .data⟩ (by simp) rfl
    have q16 : x.tmps.getD 23 undef = .bool false := hdeps ⟨16, .guard⟩ (by simp) rfl
    have e16 : (whole_ops[16]?.bind fun x => x.dst) = some 23 := rfl
    have g16 := get_some q16 (fun h => by cases h)
    simp only [Array.getD_eq_getD_getElem?] at q21 q22 q16
    clear hdeps
    have h8 : (0 : Int) ≤ (k : Int) := by omega
    have h9 : (k : Int) ≤ (C : Int) := by have := hh.out; omega
    refine wpOp_step ho (fun K hK => ?_)
    clear ho
    go_simp
    exact hK _ _ ⟨_, act_put x hdef _ _, rfl, Below.refl _ _⟩
  | 24, ho =>
    have e : o = whole_ops24 := (Option.some.inj ho).symm; unfold whole_ops24 at e
    subst e
    have q23 : x.tmps.getD 30 undef = undef := hdeps ⟨23, .data⟩ (by simp) rfl
    have q16 : x.tmps.getD 23 undef = .bool false := hdeps ⟨16, .guard⟩ (by simp) rfl
    have e16 : (whole_ops[16]?.bind fun x => x.dst) = some 23 := rfl
    have g16 := get_some q16 (fun h => by cases h)
    simp only [Array.getD_eq_getD_getElem?] at q23 q16
    clear hdeps
    refine wpOp_step ho (fun K hK => ?_)
    clear ho
    go_simp
    exact hK _ _ ⟨_, act_put x hdef _ _, rfl, Below.refl _ _⟩
  | 25, ho =>
    have e : o = whole_ops25 := (Option.some.inj ho).symm; unfold whole_ops25 at e
    subst e
    have q24 : x.tmps.getD 31 undef = undef := hdeps ⟨24, .data⟩ (by simp) rfl
    have q16 : x.tmps.getD 23 undef = .bool false := hdeps ⟨16, .guard⟩ (by simp) rfl
    have e16 : (whole_ops[16]?.bind fun x => x.dst) = some 23 := rfl
    have g16 := get_some q16 (fun h => by cases h)
    simp only [Array.getD_eq_getD_getElem?] at q24 q16
    clear hdeps
    refine wpOp_step ho (fun K hK => ?_)
    clear ho
    go_simp
    exact hK _ _ ⟨_, act_put x hdef _ _, rfl, Below.refl _ _⟩
  | 26, ho =>
    have e : o = whole_ops26 := (Option.some.inj ho).symm; unfold whole_ops26 at e
    subst e
    have q20 : x.tmps.getD 27 undef = undef := hdeps ⟨20, .data⟩ (by simp) rfl
    have q25 : x.tmps.getD 32 undef = undef := hdeps ⟨25, .data⟩ (by simp) rfl
    have q16 : x.tmps.getD 23 undef = .bool false := hdeps ⟨16, .guard⟩ (by simp) rfl
    have e16 : (whole_ops[16]?.bind fun x => x.dst) = some 23 := rfl
    have g16 := get_some q16 (fun h => by cases h)
    simp only [Array.getD_eq_getD_getElem?] at q20 q25 q16
    clear hdeps
    refine wpOp_step ho (fun K hK => ?_)
    clear ho
    go_simp
    exact hK _ _ ⟨_, act_put x hdef _ _, rfl, Below.refl _ _⟩
  | 27, ho =>
    have e : o = whole_ops27 := (Option.some.inj ho).symm; unfold whole_ops27 at e
    subst e
    have q16 : x.tmps.getD 23 undef = .bool false := hdeps ⟨16, .data⟩ (by simp) rfl
    have q26 : x.tmps.getD 33 undef = undef := hdeps ⟨26, .data⟩ (by simp) rfl
    simp only [Array.getD_eq_getD_getElem?] at q16 q26
    clear hdeps
    refine wpOp_step ho (fun K hK => ?_)
    clear ho
    go_simp
    exact hK _ _ ⟨_, act_put x hdef _ _, rfl, Below.refl _ _⟩
  | 28, ho =>
    have e : o = whole_ops28 := (Option.some.inj ho).symm; unfold whole_ops28 at e
    subst e
    have q27 : x.tmps.getD 34 undef = .bool false := hdeps ⟨27, .data⟩ (by simp) rfl
    simp only [Array.getD_eq_getD_getElem?] at q27
    clear hdeps
    refine wpOp_step ho (fun K hK => ?_)
    clear ho
    go_simp
    exact hK _ _ ⟨_, act_put x hdef _ _, rfl, Below.refl _ _⟩
  | k + 29, _ => omega
 ·intro x w hB hdef hsz hs hv
  have hx := frame_sets x.tmps t0 hsz [7, 8, 9, 10, 11, 12, 13, 14, 15, 16, 17, 18, 19, 20, 21, 22, 23, 24, 25, 26, 27, 28, 29, 30, 31, 32, 33, 34, 2] (fun s hn => hs s (fun j hj e => hn (whole_list s (by rw [e]; exact hsl j hj))))
  have hq := hQ (fun d => x.tmps.getD d undef) w hB (hv 28 (by decide))
  obtain ⟨T, Df⟩ := x
  dsimp only at hx hdef hq
  subst hdef
  rw [← hx] at hq
  exact hq
def wholeF_val (n k C : Nat) (A A2 : Option Addr) (s1 s2 s3 : Nat) (b : Bool) : Nat → Value → World → Prop
 | 0, v, w => v = .int .i64 (k : Nat)
 | 1, v, w => v = .bool true
 | 2, v, w => v = .bool true
 | 3, v, w => v = .slice A n C
 | 4, v, w => v = .int .i64 (n : Nat)
 | 5, v, w | 6, v, w | 7, v, w => v = .bool true
 | 8, v, w => v = .slice A n C
 | 9, v, w => v = .slice A 4 C
 | 10, v, w => v = .int .u32 (s1 : Nat)
 | 11, v, w => v = .slice A n C
 | 12, v, w => v = .int .i64 (n : Nat)
 | 13, v, w => v = .int .u32 (n : Nat)
 | 14, v, w | 15, v, w | 16, v, w => v = .bool true
 | 17, v, w => v = .slice A n C
 | 18, v, w => v = .int .i64 (k : Nat)
 | 19, v, w => v = .slice A2 4 (C - k)
 | 20, v, w => v = .int .u32 (s2 : Nat)
 | 21, v, w => v = .slice A n C
 | 22, v, w => v = .int .i64 (k : Nat)
 | 23, v, w => v = .slice A k C
 | 24, v, w => ∃ g, v = .slice (some ⟨g, 0, none⟩) 1 1 ∧ w.cell? ⟨g, 0, none⟩ = some (.slice A k C)
 | 25, v, w => v = .int .u32 (s3 : Nat)
 | 26, v, w | 27, v, w | 28, v, w => v = .bool b
 | _, _, _ => True
theorem wholeF_below (n k C : Nat) (A A2 : Option Addr) (s1 s2 s3 : Nat) (b : Bool) (w w' : World) (hb : Below w.heap.size w w') : ∀ j v, wholeF_val n k C A A2 s1 s2 s3 b j v w → wholeF_val n k C A A2 s1 s2 s3 b j v w' := by
 intro j v h
 match j, h with
 | 0, h | 1, h | 2, h | 3, h | 4, h | 5, h | 6, h | 7, h | 8, h | 9, h | 10, h | 11, h | 12, h | 13, h | 14, h | 15, h | 16, h | 17, h | 18, h | 19, h | 20, h | 21, h | 22, h | 23, h => exact h
 | 24, h => obtain ⟨g, h1, h2⟩ := h; exact ⟨g, h1, cell_thru h2 hb⟩
 | 25, h | 26, h | 27, h | 28, h => exact h
 | _ + 29, h => exact h
theorem wholeF (n k C : Nat) (A A2 : Option Addr) (s1 s2 s3 : Nat) (b : Bool) (Q : Exit → Act → World → Prop) (t0 : Array Value) (w0 : World) (ht : t0.size = 35)
  (hs0 : t0.getD 0 undef = .slice A n C) (hs3 : t0.getD 3 undef = .int .i64 (k : Nat))
  (hh : Hid (4 ≤ k ∧ n = k + 4 ∧ n ≤ 1000000 ∧ n ≤ C))
  (c1 : ∀ W, Below w0.heap.size w0 W → Calls Tryz.prog 156 #[.slice A 4 C] W fun e w' => e = .returned (.int .u32 (s1 : Nat)) ∧ Below W.heap.size W w')
  (hs : Hid (s1 = n ∧ b = decide (s2 = s3)))
  (e2 : ∀ wx, (Instr.slice 28 (.slice A n C) (some (.int .i64 (k : Nat))) none none).run Tryz.prog wx = .ok (.slice A2 4 (C - k)) wx)
  (c2 : ∀ W, Below w0.heap.size w0 W → Calls Tryz.prog 156 #[.slice A2 4 (C - k)] W fun e w' => e = .returned (.int .u32 (s2 : Nat)) ∧ Below W.heap.size W w')
  (c3 : ∀ W g, Below w0.heap.size w0 W → W.cell? ⟨g, 0, none⟩ = some (.slice A k C) → Calls Tryz.prog 71 #[.slice (some ⟨g, 0, none⟩) 1 1] W fun e w' => e = .returned (.int .u32 (s3 : Nat)) ∧ Below W.heap.size W w')
  (hQ : ∀ (vs : Nat → Value) (w : World), Below w0.heap.size w0 w → (vs 2 = .bool b) → Q .normal { tmps := [7, 8, 9, 10, 11, 12, 13, 14, 15, 16, 17, 18, 19, 20, 21, 22, 23, 24, 25, 26, 27, 28, 29, 30, 31, 32, 33, 34, 2].foldl (fun y d => y.setIfInBounds d (vs d)) t0, defers := [] } w) :
  (Code.region 2 whole_ops true).wp Tryz.prog Q { tmps := t0, defers := [] } w0 := by
 have hsl : ∀ j, j < 29 → whole_mem (whole_slot j) := by
  intro j hj
  match j, hj with
  | 0, _ => exact (by decide : whole_mem 7)
  | 1, _ => exact (by decide : whole_mem 8)
  | 2, _ => exact (by decide : whole_mem 9)
  | 3, _ => exact (by decide : whole_mem 10)
  | 4, _ => exact (by decide : whole_mem 11)
  | 5, _ => exact (by decide : whole_mem 12)
  | 6, _ => exact (by decide : whole_mem 13)
  | 7, _ => exact (by decide : whole_mem 14)
  | 8, _ => exact (by decide : whole_mem 15)
  | 9, _ => exact (by decide : whole_mem 16)
  | 10, _ => exact (by decide : whole_mem 17)
  | 11, _ => exact (by decide : whole_mem 18)
  | 12, _ => exact (by decide : whole_mem 19)
  | 13, _ => exact (by decide : whole_mem 20)
  | 14, _ => exact (by decide : whole_mem 21)
  | 15, _ => exact (by decide : whole_mem 22)
  | 16, _ => exact (by decide : whole_mem 23)
  | 17, _ => exact (by decide : whole_mem 24)
  | 18, _ => exact (by decide : whole_mem 25)
  | 19, _ => exact (by decide : whole_mem 26)
  | 20, _ => exact (by decide : whole_mem 27)
  | 21, _ => exact (by decide : whole_mem 28)
  | 22, _ => exact (by decide : whole_mem 29)
  | 23, _ => exact (by decide : whole_mem 30)
  | 24, _ => exact (by decide : whole_mem 31)
  | 25, _ => exact (by decide : whole_mem 32)
  | 26, _ => exact (by decide : whole_mem 33)
  | 27, _ => exact (by decide : whole_mem 34)
  | 28, _ => exact (by decide : whole_mem 2)
  | k + 29, hj => omega
 refine wp_region_inv (by kernel_rfl) whole_slot (wholeF_val n k C A A2 s1 s2 s3 b) t0 w0 ?_ ?_ ?_ (wholeF_below n k C A A2 s1 s2 s3 b) ?_ ?_
 ·intro j o ho
  have hj : j < 29 := (Array.getElem?_eq_some_iff.1 ho).1
  rw [ht]
  match j, ho with
  | 0, ho | 1, ho | 2, ho | 3, ho | 4, ho | 5, ho | 6, ho | 7, ho | 8, ho | 9, ho | 10, ho | 11, ho | 12, ho | 13, ho | 14, ho | 15, ho | 16, ho | 17, ho | 18, ho | 19, ho | 20, ho | 21, ho | 22, ho | 23, ho | 24, ho | 25, ho | 26, ho | 27, ho | 28, ho => cases ho; exact ⟨rfl, by decide⟩
  | k + 29, _ => omega
 ·intro i j hi hj h
  exact whole_inj i j hi hj h
 ·intro j o ho
  have hj : j < 29 := (Array.getElem?_eq_some_iff.1 ho).1
  match j, ho with
  | 0, ho | 1, ho | 2, ho | 3, ho | 4, ho | 5, ho | 6, ho | 7, ho | 8, ho | 9, ho | 10, ho | 11, ho | 12, ho | 13, ho | 14, ho | 15, ho | 16, ho | 17, ho | 18, ho | 19, ho | 20, ho | 21, ho | 22, ho | 23, ho | 24, ho | 25, ho | 26, ho | 27, ho | 28, ho => cases ho; decide
  | k + 29, _ => omega
 ·intro j o ho x w hB hdef hsz hs hdeps
  have hs' : ∀ s, ¬ whole_mem s → x.tmps.getD s undef = t0.getD s undef := fun s hn => hs s (fun j hj e => hn (by rw [e]; exact hsl j hj))
  have u0 := (hs' 0 (by decide)).trans hs0
  have u3 := (hs' 3 (by decide)).trans hs3
  have hj : j < 29 := (Array.getElem?_eq_some_iff.1 ho).1
  clear hs hs' hsl hsz ht hQ hs0 hs3
  simp only [Array.getD_eq_getD_getElem?] at u0 u3
  match j, ho with
  | 0, ho =>
    have e : o = whole_ops0 := (Option.some.inj ho).symm; unfold whole_ops0 at e
    subst e
    clear hdeps
    refine wpOp_step ho (fun K hK => ?_)
    clear ho
    go_simp
    exact hK _ _ ⟨_, act_put x hdef _ _, rfl, Below.refl _ _⟩
  | 1, ho =>
    have e : o = whole_ops1 := (Option.some.inj ho).symm; unfold whole_ops1 at e
    subst e
    have q0 : x.tmps.getD 7 undef = .int .i64 (k : Nat) := hdeps ⟨0, .data⟩ (by simp) rfl
    simp only [Array.getD_eq_getD_getElem?] at q0
    clear hdeps
    have h4 : (4 : Int) ≤ (k : Int) := by have := hh.out; omega
    refine wpOp_step ho (fun K hK => ?_)
    clear ho
    go_simp
    exact hK _ _ ⟨_, act_put x hdef _ _, rfl, Below.refl _ _⟩
  | 2, ho =>
    have e : o = whole_ops2 := (Option.some.inj ho).symm; unfold whole_ops2 at e
    subst e
    have q1 : x.tmps.getD 8 undef = .bool true := hdeps ⟨1, .data⟩ (by simp) rfl
    simp only [Array.getD_eq_getD_getElem?] at q1
    clear hdeps
    refine wpOp_step ho (fun K hK => ?_)
    clear ho
    go_simp
    exact hK _ _ ⟨_, act_put x hdef _ _, rfl, Below.refl _ _⟩
  | 3, ho =>
    have e : o = whole_ops3 := (Option.some.inj ho).symm; unfold whole_ops3 at e
    subst e
    have q2 : x.tmps.getD 9 undef = .bool true := hdeps ⟨2, .guard⟩ (by simp) rfl
    have e2 : (whole_ops[2]?.bind fun x => x.dst) = some 9 := rfl
    have g2 := get_some q2 (fun h => by cases h)
    simp only [Array.getD_eq_getD_getElem?] at q2
    clear hdeps
    refine wpOp_step ho (fun K hK => ?_)
    clear ho
    go_simp
    exact hK _ _ ⟨_, act_put x hdef _ _, rfl, Below.refl _ _⟩
  | 4, ho =>
    have e : o = whole_ops4 := (Option.some.inj ho).symm; unfold whole_ops4 at e
    subst e
    have q3 : x.tmps.getD 10 undef = .slice A n C := hdeps ⟨3, .data⟩ (by simp) rfl
    have q2 : x.tmps.getD 9 undef = .bool true := hdeps ⟨2, .guard⟩ (by simp) rfl
    have e2 : (whole_ops[2]?.bind fun x => x.dst) = some 9 := rfl
    have g2 := get_some q2 (fun h => by cases h)
    simp only [Array.getD_eq_getD_getElem?] at q3 q2
    clear hdeps
    refine wpOp_step ho (fun K hK => ?_)
    clear ho
    go_simp
    exact hK _ _ ⟨_, act_put x hdef _ _, rfl, Below.refl _ _⟩
  | 5, ho =>
    have e : o = whole_ops5 := (Option.some.inj ho).symm; unfold whole_ops5 at e
    subst e
    have q4 : x.tmps.getD 11 undef = .int .i64 (n : Nat) := hdeps ⟨4, .data⟩ (by simp) rfl
    have q2 : x.tmps.getD 9 undef = .bool true := hdeps ⟨2, .guard⟩ (by simp) rfl
    have e2 : (whole_ops[2]?.bind fun x => x.dst) = some 9 := rfl
    have g2 := get_some q2 (fun h => by cases h)
    simp only [Array.getD_eq_getD_getElem?] at q4 q2
    clear hdeps
    have h5 : (n : Int) ≤ 67108864 := by have := hh.out; omega
    refine wpOp_step ho (fun K hK => ?_)
    clear ho
    go_simp
    exact hK _ _ ⟨_, act_put x hdef _ _, rfl, Below.refl _ _⟩
  | 6, ho =>
    have e : o = whole_ops6 := (Option.some.inj ho).symm; unfold whole_ops6 at e
    subst e
    have q2 : x.tmps.getD 9 undef = .bool true := hdeps ⟨2, .data⟩ (by simp) rfl
    have q5 : x.tmps.getD 12 undef = .bool true := hdeps ⟨5, .data⟩ (by simp) rfl
    simp only [Array.getD_eq_getD_getElem?] at q2 q5
    clear hdeps
    refine wpOp_step ho (fun K hK => ?_)
    clear ho
    go_simp
    exact hK _ _ ⟨_, act_put x hdef _ _, rfl, Below.refl _ _⟩
  | 7, ho =>
    have e : o = whole_ops7 := (Option.some.inj ho).symm; unfold whole_ops7 at e
    subst e
    have q6 : x.tmps.getD 13 undef = .bool true := hdeps ⟨6, .data⟩ (by simp) rfl
    simp only [Array.getD_eq_getD_getElem?] at q6
    clear hdeps
    refine wpOp_step ho (fun K hK => ?_)
    clear ho
    go_simp
    exact hK _ _ ⟨_, act_put x hdef _ _, rfl, Below.refl _ _⟩
  | 8, ho =>
    have e : o = whole_ops8 := (Option.some.inj ho).symm; unfold whole_ops8 at e
    subst e
    have q7 : x.tmps.getD 14 undef = .bool true := hdeps ⟨7, .guard⟩ (by simp) rfl
    have e7 : (whole_ops[7]?.bind fun x => x.dst) = some 14 := rfl
    have g7 := get_some q7 (fun h => by cases h)
    simp only [Array.getD_eq_getD_getElem?] at q7
    clear hdeps
    refine wpOp_step ho (fun K hK => ?_)
    clear ho
    go_simp
    exact hK _ _ ⟨_, act_put x hdef _ _, rfl, Below.refl _ _⟩
  | 9, ho =>
    have e : o = whole_ops9 := (Option.some.inj ho).symm; unfold whole_ops9 at e
    subst e
    have q8 : x.tmps.getD 15 undef = .slice A n C := hdeps ⟨8, .data⟩ (by simp) rfl
    have q7 : x.tmps.getD 14 undef = .bool true := hdeps ⟨7, .guard⟩ (by simp) rfl
    have e7 : (whole_ops[7]?.bind fun x => x.dst) = some 14 := rfl
    have g7 := get_some q7 (fun h => by cases h)
    simp only [Array.getD_eq_getD_getElem?] at q8 q7
    clear hdeps
    have h9 : (4 : Int) ≤ (C : Int) := by have := hh.out; omega
    refine wpOp_step ho (fun K hK => ?_)
    clear ho
    go_simp
    exact hK _ _ ⟨_, act_put x hdef _ _, rfl, Below.refl _ _⟩
  | 10, ho =>
    have e : o = whole_ops10 := (Option.some.inj ho).symm; unfold whole_ops10 at e
    subst e
    have q9 : x.tmps.getD 16 undef = .slice A 4 C := hdeps ⟨9, .data⟩ (by simp) rfl
    have q7 : x.tmps.getD 14 undef = .bool true := hdeps ⟨7, .guard⟩ (by simp) rfl
    have e7 : (whole_ops[7]?.bind fun x => x.dst) = some 14 := rfl
    have g7 := get_some q7 (fun h => by cases h)
    simp only [Array.getD_eq_getD_getElem?] at q9 q7
    clear hdeps
    refine wpOp_step ho (fun K hK => ?_)
    clear ho
    go_simp
    refine (c1 w hB).mono ?_
    rintro e w' ⟨rfl, hb⟩
    exact hK _ _ ⟨_, act_put x hdef _ _, rfl, hb⟩
  | 11, ho =>
    have e : o = whole_ops11 := (Option.some.inj ho).symm; unfold whole_ops11 at e
    subst e
    have q7 : x.tmps.getD 14 undef = .bool true := hdeps ⟨7, .guard⟩ (by simp) rfl
    have e7 : (whole_ops[7]?.bind fun x => x.dst) = some 14 := rfl
    have g7 := get_some q7 (fun h => by cases h)
    simp only [Array.getD_eq_getD_getElem?] at q7
    clear hdeps
    refine wpOp_step ho (fun K hK => ?_)
    clear ho
    go_simp
    exact hK _ _ ⟨_, act_put x hdef _ _, rfl, Below.refl _ _⟩
  | 12, ho =>
    have e : o = whole_ops12 := (Option.some.inj ho).symm; unfold whole_ops12 at e
    subst e
    have q11 : x.tmps.getD 18 undef = .slice A n C := hdeps ⟨11, .data⟩ (by simp) rfl
    have q7 : x.tmps.getD 14 undef = .bool true := hdeps ⟨7, .guard⟩ (by simp) rfl
    have e7 : (whole_ops[7]?.bind fun x => x.dst) = some 14 := rfl
    have g7 := get_some q7 (fun h => by cases h)
    simp only [Array.getD_eq_getD_getElem?] at q11 q7
    clear hdeps
    refine wpOp_step ho (fun K hK => ?_)
    clear ho
    go_simp
    exact hK _ _ ⟨_, act_put x hdef _ _, rfl, Below.refl _ _⟩
  | 13, ho =>
    have e : o = whole_ops13 := (Option.some.inj ho).symm; unfold whole_ops13 at e
    subst e
    have q12 : x.tmps.getD 19 undef = .int .i64 (n : Nat) := hdeps ⟨12, .data⟩ (by simp) rfl
    have q7 : x.tmps.getD 14 undef = .bool true := hdeps ⟨7, .guard⟩ (by simp) rfl
    have e7 : (whole_ops[7]?.bind fun x => x.dst) = some 14 := rfl
    have g7 := get_some q7 (fun h => by cases h)
    simp only [Array.getD_eq_getD_getElem?] at q12 q7
    clear hdeps
    refine wpOp_step ho (fun K hK => ?_)
    clear ho
    go_simp
    rw [IntWalk.u32_in (n : Int) (by have := hh.out; omega)]
    exact hK _ _ ⟨_, act_put x hdef _ _, rfl, Below.refl _ _⟩
  | 14, ho =>
    have e : o = whole_ops14 := (Option.some.inj ho).symm; unfold whole_ops14 at e
    subst e
    have q10 : x.tmps.getD 17 undef = .int .u32 (s1 : Nat) := hdeps ⟨10, .data⟩ (by simp) rfl
    have q13 : x.tmps.getD 20 undef = .int .u32 (n : Nat) := hdeps ⟨13, .data⟩ (by simp) rfl
    have q7 : x.tmps.getD 14 undef = .bool true := hdeps ⟨7, .guard⟩ (by simp) rfl
    have e7 : (whole_ops[7]?.bind fun x => x.dst) = some 14 := rfl
    have g7 := get_some q7 (fun h => by cases h)
    simp only [Array.getD_eq_getD_getElem?] at q10 q13 q7
    clear hdeps
    have h6 : ((s1 : Int) == (n : Int)) = true := by have := hs.out; simp; omega
    refine wpOp_step ho (fun K hK => ?_)
    clear ho
    go_simp
    exact hK _ _ ⟨_, act_put x hdef _ _, rfl, Below.refl _ _⟩
  | 15, ho =>
    have e : o = whole_ops15 := (Option.some.inj ho).symm; unfold whole_ops15 at e
    subst e
    have q7 : x.tmps.getD 14 undef = .bool true := hdeps ⟨7, .data⟩ (by simp) rfl
    have q14 : x.tmps.getD 21 undef = .bool true := hdeps ⟨14, .data⟩ (by simp) rfl
    simp only [Array.getD_eq_getD_getElem?] at q7 q14
    clear hdeps
    refine wpOp_step ho (fun K hK => ?_)
    clear ho
    go_simp
    exact hK _ _ ⟨_, act_put x hdef _ _, rfl, Below.refl _ _⟩
  | 16, ho =>
    have e : o = whole_ops16 := (Option.some.inj ho).symm; unfold whole_ops16 at e
    subst e
    have q15 : x.tmps.getD 22 undef = .bool true := hdeps ⟨15, .data⟩ (by simp) rfl
    simp only [Array.getD_eq_getD_getElem?] at q15
    clear hdeps
    refine wpOp_step ho (fun K hK => ?_)
    clear ho
    go_simp
    exact hK _ _ ⟨_, act_put x hdef _ _, rfl, Below.refl _ _⟩
  | 17, ho =>
    have e : o = whole_ops17 := (Option.some.inj ho).symm; unfold whole_ops17 at e
    subst e
    have q16 : x.tmps.getD 23 undef = .bool true := hdeps ⟨16, .guard⟩ (by simp) rfl
    have e16 : (whole_ops[16]?.bind fun x => x.dst) = some 23 := rfl
    have g16 := get_some q16 (fun h => by cases h)
    simp only [Array.getD_eq_getD_getElem?] at q16
    clear hdeps
    refine wpOp_step ho (fun K hK => ?_)
    clear ho
    go_simp
    exact hK _ _ ⟨_, act_put x hdef _ _, rfl, Below.refl _ _⟩
  | 18, ho =>
    have e : o = whole_ops18 := (Option.some.inj ho).symm; unfold whole_ops18 at e
    subst e
    have q16 : x.tmps.getD 23 undef = .bool true := hdeps ⟨16, .guard⟩ (by simp) rfl
    have e16 : (whole_ops[16]?.bind fun x => x.dst) = some 23 := rfl
    have g16 := get_some q16 (fun h => by cases h)
    simp only [Array.getD_eq_getD_getElem?] at q16
    clear hdeps
    refine wpOp_step ho (fun K hK => ?_)
    clear ho
    go_simp
    exact hK _ _ ⟨_, act_put x hdef _ _, rfl, Below.refl _ _⟩
  | 19, ho =>
    have e : o = whole_ops19 := (Option.some.inj ho).symm; unfold whole_ops19 at e
    subst e
    have q17 : x.tmps.getD 24 undef = .slice A n C := hdeps ⟨17, .data⟩ (by simp) rfl
    have q18 : x.tmps.getD 25 undef = .int .i64 (k : Nat) := hdeps ⟨18, .data⟩ (by simp) rfl
    have q16 : x.tmps.getD 23 undef = .bool true := hdeps ⟨16, .guard⟩ (by simp) rfl
    have e16 : (whole_ops[16]?.bind fun x => x.dst) = some 23 := rfl
    have g16 := get_some q16 (fun h => by cases h)
    simp only [Array.getD_eq_getD_getElem?] at q17 q18 q16
    clear hdeps
    have h9 : (k : Int) ≤ (n : Int) := by have := hh.out; omega
    refine wpOp_step ho (fun K hK => ?_)
    clear ho
    go_simp
    exact hK _ _ ⟨_, act_put x hdef _ _, rfl, Below.refl _ _⟩
  | 20, ho =>
    have e : o = whole_ops20 := (Option.some.inj ho).symm; unfold whole_ops20 at e
    subst e
    have q19 : x.tmps.getD 26 undef = .slice A2 4 (C - k) := hdeps ⟨19, .data⟩ (by simp) rfl
    have q16 : x.tmps.getD 23 undef = .bool true := hdeps ⟨16, .guard⟩ (by simp) rfl
    have e16 : (whole_ops[16]?.bind fun x => x.dst) = some 23 := rfl
    have g16 := get_some q16 (fun h => by cases h)
    simp only [Array.getD_eq_getD_getElem?] at q19 q16
    clear hdeps
    refine wpOp_step ho (fun K hK => ?_)
    clear ho
    go_simp
    refine (c2 w hB).mono ?_
    rintro e w' ⟨rfl, hb⟩
    exact hK _ _ ⟨_, act_put x hdef _ _, rfl, hb⟩
  | 21, ho =>
    have e : o = whole_ops21 := (Option.some.inj ho).symm; unfold whole_ops21 at e
    subst e
    have q16 : x.tmps.getD 23 undef = .bool true := hdeps ⟨16, .guard⟩ (by simp) rfl
    have e16 : (whole_ops[16]?.bind fun x => x.dst) = some 23 := rfl
    have g16 := get_some q16 (fun h => by cases h)
    simp only [Array.getD_eq_getD_getElem?] at q16
    clear hdeps
    refine wpOp_step ho (fun K hK => ?_)
    clear ho
    go_simp
    exact hK _ _ ⟨_, act_put x hdef _ _, rfl, Below.refl _ _⟩
  | 22, ho =>
    have e : o = whole_ops22 := (Option.some.inj ho).symm; unfold whole_ops22 at e
    subst e
    have q16 : x.tmps.getD 23 undef = .bool true := hdeps ⟨16, .guard⟩ (by simp) rfl
    have e16 : (whole_ops[16]?.bind fun x => x.dst) = some 23 := rfl
    have g16 := get_some q16 (fun h => by cases h)
    simp only [Array.getD_eq_getD_getElem?] at q16
    clear hdeps
    refine wpOp_step ho (fun K hK => ?_)
    clear ho
    go_simp
    exact hK _ _ ⟨_, act_put x hdef _ _, rfl, Below.refl _ _⟩
  | 23, ho =>
    have e : o = whole_ops23 := (Option.some.inj ho).symm; unfold whole_ops23 at e
    subst e
    have q21 : x.tmps.getD 28 undef = .slice A n C := hdeps ⟨21, .data⟩ (by simp) rfl
    have q22 : x.tmps.getD 29 undef = .int .i64 (k : Nat) := hdeps ⟨22, .data⟩ (by simp) rfl
    have q16 : x.tmps.getD 23 undef = .bool true := hdeps ⟨16, .guard⟩ (by simp) rfl
    have e16 : (whole_ops[16]?.bind fun x => x.dst) = some 23 := rfl
    have g16 := get_some q16 (fun h => by cases h)
    simp only [Array.getD_eq_getD_getElem?] at q21 q22 q16
    clear hdeps
    have h8 : (0 : Int) ≤ (k : Int) := by omega
    have h9 : (k : Int) ≤ (C : Int) := by have := hh.out; omega
    refine wpOp_step ho (fun K hK => ?_)
    clear ho
    go_simp
    exact hK _ _ ⟨_, act_put x hdef _ _, rfl, Below.refl _ _⟩
  | 24, ho =>
    have e : o = whole_ops24 := (Option.some.inj ho).symm; unfold whole_ops24 at e
    subst e
    have q23 : x.tmps.getD 30 undef = .slice A k C := hdeps ⟨23, .data⟩ (by simp) rfl
    have q16 : x.tmps.getD 23 undef = .bool true := hdeps ⟨16, .guard⟩ (by simp) rfl
    have e16 : (whole_ops[16]?.bind fun x => x.dst) = some 23 := rfl
    have g16 := get_some q16 (fun h => by cases h)
    simp only [Array.getD_eq_getD_getElem?] at q23 q16
    clear hdeps
    refine wpOp_step ho (fun K hK => ?_)
    clear ho
    go_simp
    exact hK _ _ ⟨_, act_put x hdef _ _, ⟨_, rfl, (cell_new_l w _ _).1⟩, below_alloc _ _⟩
  | 25, ho =>
    have e : o = whole_ops25 := (Option.some.inj ho).symm; unfold whole_ops25 at e
    subst e
    obtain ⟨g24, q24, p24⟩ := hdeps ⟨24, .data⟩ (by simp) rfl
    have q24 : x.tmps.getD 31 undef = .slice (some ⟨g24, 0, none⟩) 1 1 := q24
    have q16 : x.tmps.getD 23 undef = .bool true := hdeps ⟨16, .guard⟩ (by simp) rfl
    have e16 : (whole_ops[16]?.bind fun x => x.dst) = some 23 := rfl
    have g16 := get_some q16 (fun h => by cases h)
    simp only [Array.getD_eq_getD_getElem?] at q24 q16
    clear hdeps
    refine wpOp_step ho (fun K hK => ?_)
    clear ho
    go_simp
    refine (c3 w g24 hB p24).mono ?_
    rintro e w' ⟨rfl, hb⟩
    exact hK _ _ ⟨_, act_put x hdef _ _, rfl, hb⟩
  | 26, ho =>
    have e : o = whole_ops26 := (Option.some.inj ho).symm; unfold whole_ops26 at e
    subst e
    have q20 : x.tmps.getD 27 undef = .int .u32 (s2 : Nat) := hdeps ⟨20, .data⟩ (by simp) rfl
    have q25 : x.tmps.getD 32 undef = .int .u32 (s3 : Nat) := hdeps ⟨25, .data⟩ (by simp) rfl
    have q16 : x.tmps.getD 23 undef = .bool true := hdeps ⟨16, .guard⟩ (by simp) rfl
    have e16 : (whole_ops[16]?.bind fun x => x.dst) = some 23 := rfl
    have g16 := get_some q16 (fun h => by cases h)
    simp only [Array.getD_eq_getD_getElem?] at q20 q25 q16
    clear hdeps
    have h6 : ((s2 : Int) == (s3 : Int)) = b := by rw [hs.out.2]; by_cases h : s2 = s3 <;> simp [h] <;> omega
    refine wpOp_step ho (fun K hK => ?_)
    clear ho
    go_simp
    exact hK _ _ ⟨_, act_put x hdef _ _, rfl, Below.refl _ _⟩
  | 27, ho =>
    have e : o = whole_ops27 := (Option.some.inj ho).symm; unfold whole_ops27 at e
    subst e
    have q16 : x.tmps.getD 23 undef = .bool true := hdeps ⟨16, .data⟩ (by simp) rfl
    have q26 : x.tmps.getD 33 undef = .bool b := hdeps ⟨26, .data⟩ (by simp) rfl
    simp only [Array.getD_eq_getD_getElem?] at q16 q26
    clear hdeps
    refine wpOp_step ho (fun K hK => ?_)
    clear ho
    go_simp
    exact hK _ _ ⟨_, act_put x hdef _ _, rfl, Below.refl _ _⟩
  | 28, ho =>
    have e : o = whole_ops28 := (Option.some.inj ho).symm; unfold whole_ops28 at e
    subst e
    have q27 : x.tmps.getD 34 undef = .bool b := hdeps ⟨27, .data⟩ (by simp) rfl
    simp only [Array.getD_eq_getD_getElem?] at q27
    clear hdeps
    refine wpOp_step ho (fun K hK => ?_)
    clear ho
    go_simp
    exact hK _ _ ⟨_, act_put x hdef _ _, rfl, Below.refl _ _⟩
  | k + 29, _ => omega
 ·intro x w hB hdef hsz hs hv
  have hx := frame_sets x.tmps t0 hsz [7, 8, 9, 10, 11, 12, 13, 14, 15, 16, 17, 18, 19, 20, 21, 22, 23, 24, 25, 26, 27, 28, 29, 30, 31, 32, 33, 34, 2] (fun s hn => hs s (fun j hj e => hn (whole_list s (by rw [e]; exact hsl j hj))))
  have hq := hQ (fun d => x.tmps.getD d undef) w hB (hv 28 (by decide))
  obtain ⟨T, Df⟩ := x
  dsimp only at hx hdef hq
  subst hdef
  rw [← hx] at hq
  exact hq
open Go.RowKit
theorem wholeB_short {L : List Nat} (h : L.length < 8) : wholeB L = false := by
 cases hw : wholeB L with
 | false => rfl
 | true => have := (wholeB_of hw).1; omega
theorem wholeB_size {L : List Nat} (h : (getFix (some (L.take 4))).1 ≠ L.length) : wholeB L = false := by
 cases hw : wholeB L with
 | false => rfl
 | true => exact absurd (wholeB_of hw).2.2.1 h
theorem wholeB_sum {L : List Nat} (h8 : 8 ≤ L.length) (hm : L.length ≤ 1000000) (h : (getFix (some (L.take 4))).1 = L.length) : wholeB L = decide ((getFix (some (L.drop (L.length - 4)))).1 = crcL (L.take (L.length - 4))) := by
 unfold wholeB
 congr 1
 apply propext
 unfold maxDisk
 exact ⟨fun h => h.2.2.2, fun h' => ⟨h8, by omega, h, h'⟩⟩
theorem whole_any (A : Option Addr) (C n : Nat) (L : List Nat) (w : World) (hn : n = L.length) (h : SB w A C L) (hm : n ≤ 1000000) :
  Calls Tryz.prog 107 #[.slice A n C] w fun e w' => e = .returned (.bool (wholeB L)) ∧ Below w.heap.size w w' := by
 by_cases h8 : n < 8
 ·rw [wholeB_short (by omega)]
  have hk : decide ((4 : Int) ≤ (n : Int) - 4) = false := decide_eq_false (by omega)
  clear hn h
  go_enter Tryz.func107, Tryz.ntmps107
  go_upto_region 2 with fail
  go_quiet (fail)
  all_goals
   go_wp2_with fail
   go_ret
   exact ⟨rfl, ((Kept.refl (fun _ => False) w).drewN _).below (fun _ h => h.elim) (Nat.le_refl _)⟩
 ·obtain ⟨k, hk⟩ : ∃ k, n = k + 4 := ⟨n - 4, by omega⟩
  have hC := h.l
  obtain ⟨A1, A3, s1, s3, b1, b3, g1, g3⟩ := h.cut 4 (by omega)
  obtain ⟨A4, A2, s4, s2, b4, b2, g4, g2⟩ := h.cut k (by omega)
  have hl1 : (L.take 4).length = 4 := by rw [List.length_take]; omega
  have hl2 : (L.drop k).length = 4 := by rw [List.length_drop]; omega
  have hl4 : (L.take k).length = k := by rw [List.length_take]; omega
  have c1 : ∀ W, Below w.heap.size w W → Calls Tryz.prog 156 #[.slice A 4 C] W fun e w' => e = .returned (.int .u32 ((getFix (some (L.take 4))).1 : Nat)) ∧ Below W.heap.size W w' := fun W hW =>
   numberOf_any A C 4 (L.take 4) W hl1.symm ⟨by omega, h.m, h.n, h.o, (h.below hW).b.take 4⟩ (by omega)
  have c2 : ∀ W, Below w.heap.size w W → Calls Tryz.prog 156 #[.slice A2 4 (C - k)] W fun e w' => e = .returned (.int .u32 ((getFix (some (L.drop k))).1 : Nat)) ∧ Below W.heap.size W w' := fun W hW =>
   numberOf_any A2 (C - k) 4 (L.drop k) W hl2.symm (b2.below hW) (by omega)
  have c3 : ∀ W g, Below w.heap.size w W → W.cell? ⟨g, 0, none⟩ = some (.slice A k C) → Calls Tryz.prog 71 #[.slice (some ⟨g, 0, none⟩) 1 1] W fun e w' => e = .returned (.int .u32 (crcL (L.take k) : Nat)) ∧ Below W.heap.size W w' := fun W g hW hc => by
   have hb := (h.below hW).b.take k
   have := sum_one g A k C (fun i => (L.take k).getD i 0) W (by omega) h.m hc (by have hx := hb; unfold BL at hx; rw [hl4] at hx; exact hx)
   unfold crcL
   rw [hl4]
   exact this
  have e2 : ∀ wx, (Instr.slice 28 (.slice A n C) (some (.int .i64 (k : Nat))) none none).run Tryz.prog wx = .ok (.slice A2 4 (C - k)) wx := fun wx => by
   have := s2 wx
   rw [← hn, show n - k = 4 from by omega] at this
   exact this
  have hkz : (n : Int) - 4 = (k : Int) := by omega
  have HH : Hid (4 ≤ k ∧ n = k + 4 ∧ n ≤ 1000000 ∧ n ≤ C) := ⟨by omega, hk, hm, by omega⟩
  by_cases hs : (getFix (some (L.take 4))).1 = n
  ·have hw : wholeB L = decide ((getFix (some (L.drop k))).1 = crcL (L.take k)) := by
    rw [wholeB_sum (by omega) (by omega) (by rw [hs, hn]), show L.length - 4 = k from by omega]
   rw [hw]
   have hR := fun Q t0 ht h0 h3 => wholeF n k C A A2 (getFix (some (L.take 4))).1 (getFix (some (L.drop k))).1 (crcL (L.take k)) (decide ((getFix (some (L.drop k))).1 = crcL (L.take k))) Q t0 w ht h0 h3 HH c1 (hide ⟨hs, rfl⟩) e2 c2 c3
   clear hn hw s1 s2 s3 s4 b1 b2 b3 b4 g1 g2 g3 g4 c1 c2 c3 e2 h hl1 hl2 hl4
   go_enter Tryz.func107, Tryz.ntmps107
   go_upto_region 2 with fail
   refine hR _ _ rfl rfl rfl ?_
   intro vs w1 hB h2
   simp only [List.foldl_cons, List.foldl_nil, List.setIfInBounds_toArray, List.set_cons_succ, List.set_cons_zero]
   rw [h2]
   go_wp2_with fail
   go_ret
   exact ⟨rfl, hB⟩
  ·rw [wholeB_size (by rw [← hn]; exact hs)]
   have hR := fun Q t0 ht h0 h3 => wholeS n k C A A2 (getFix (some (L.take 4))).1 0 0 false Q t0 w ht h0 h3 HH c1 (hide hs)
   clear hn s1 s2 s3 s4 b1 b2 b3 b4 g1 g2 g3 g4 c1 c2 c3 e2 h hl1 hl2 hl4
   go_enter Tryz.func107, Tryz.ntmps107
   go_upto_region 2 with fail
   refine hR _ _ rfl rfl rfl ?_
   intro vs w1 hB h2
   simp only [List.foldl_cons, List.foldl_nil, List.setIfInBounds_toArray, List.set_cons_succ, List.set_cons_zero]
   rw [h2]
   go_wp2_with fail
   go_ret
   exact ⟨rfl, hB⟩
end Go.Proofs.YtppdbinppibjhaaGreatDoor
