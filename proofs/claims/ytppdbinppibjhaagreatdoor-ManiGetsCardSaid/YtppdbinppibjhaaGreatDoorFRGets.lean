/-
  The reference's Get: the region that asks a file's size and sum (written by tools/gen-refget.py).
-/
import Derived.Test.YtppdbinppibjhaaGreatDoorFRP
import Derived.Test.YtppdbinppibjhaaGreatDoorCrcs
import Derived.Test.YtppdbinppibjhaaGreatDoorRefRdA
import Derived.Test.YtppdbinppibjhaaGreatDoorRegionsA
import Derived.Test.YtppdbinppibjhaaGreatDoorFGet
import Derived.BigRegion
set_option maxHeartbeats 4000000
set_option maxRecDepth 100000
set_option linter.unusedVariables false
set_option linter.unusedSimpArgs false
namespace Go.Proofs.YtppdbinppibjhaaGreatDoor
open Go.RowKit
theorem get_someS {t : Array Value} {s : Nat} {v : Value} (h : t.getD s undef = v) (hv : v ≠ undef) : t[s]? = some v := by
 rw [Array.getD_eq_getD_getElem?] at h
 cases e : t[s]? with
 | none => rw [e] at h; exact absurd h.symm hv
 | some u => rw [e] at h; exact congrArg some h
theorem iff_f {f : Nat → Bool} {i j : Nat} (h : (if i = j then true else f j) = false) : f j = false := by
 by_cases e : i = j
 ·rw [if_pos e] at h; cases h
 ·rw [if_neg e] at h; exact h
def RGJ (n k C p5 p6 : Nat) (A A1 : Option Addr) (L : List Nat) (w0 : World) (f : Nat → Bool) (w : World) : Prop :=
 Kept (fun g => g = p5 ∨ g = p6) w0 w ∧ (f 1 = false → RR w p5 A C L (some L)) ∧ (f 7 = false → RR w p6 A C L (some (L.drop k))) ∧ True
theorem RGJ.mono {n k C p5 p6 : Nat} {A A1 : Option Addr} {L : List Nat} {w0 w : World} {f g : Nat → Bool} (h : RGJ n k C p5 p6 A A1 L w0 f w) (hg : ∀ j, g j = false → f j = false) : RGJ n k C p5 p6 A A1 L w0 g w :=
 ⟨h.1, fun e => h.2.1 (hg 1 e), fun e => h.2.2.1 (hg 7 e), trivial⟩
theorem RGJ.call {n k C p5 p6 : Nat} {A A1 : Option Addr} {L : List Nat} {w0 w w' : World} {f : Nat → Bool} (h : RGJ n k C p5 p6 A A1 L w0 f w) (hd : p5 ≠ p6 ∧ ∀ g off s, A = some ⟨g, off, s⟩ → g ≠ p5 ∧ g ≠ p6) (hk : Kept (fun g => g = p5) w w') : RGJ n k C p5 p6 A A1 L w0 (fun j => if 1 = j then true else f j) w' :=
 ⟨h.1.trans (hk.mono (G := fun g => g = p5 ∨ g = p6) (fun _ _ e => .inl e)) (fun _ _ e => e), (fun e => by simp at e), fun e => (h.2.2.1 (iff_f e)).kept hk (fun e => hd.1 e.symm) (fun g o s e => (hd.2 g o s e).1), trivial⟩
theorem RGJ.call2 {n k C p5 p6 : Nat} {A A1 : Option Addr} {L : List Nat} {w0 w w' : World} {f : Nat → Bool} (h : RGJ n k C p5 p6 A A1 L w0 f w) (hd : p5 ≠ p6 ∧ ∀ g off s, A = some ⟨g, off, s⟩ → g ≠ p5 ∧ g ≠ p6) (hk : Kept (fun g => g = p6) w w') : RGJ n k C p5 p6 A A1 L w0 (fun j => if 7 = j then true else f j) w' :=
 ⟨h.1.trans (hk.mono (G := fun g => g = p5 ∨ g = p6) (fun _ _ e => .inr e)) (fun _ _ e => e), fun e => (h.2.1 (iff_f e)).kept hk (fun e => hd.1 e) (fun g o s e => (hd.2 g o s e).2), (fun e => by simp at e), trivial⟩
abbrev refG_ops0 : Oper := ⟨some 26, .move (.tmp 5), 181, "ref.go:42", #[], none⟩
abbrev refG_ops1 : Oper := ⟨some 27, .call ⟨.value (.func 118), #[.tmp 26], #[181]⟩, 52, "ref.go:42", #[⟨0, .data⟩], none⟩
abbrev refG_ops2 : Oper := ⟨some 28, .convert 52 3 (.tmp 27), 3, "ref.go:42", #[⟨1, .data⟩], none⟩
abbrev refG_ops3 : Oper := ⟨some 29, .move (.tmp 4), 3, "ref.go:42", #[], none⟩
abbrev refG_ops4 : Oper := ⟨some 30, .binOp .neq 3 (.tmp 28) (.tmp 29) 3, 4, "ref.go:42", #[⟨2, .data⟩, ⟨3, .data⟩], none⟩
abbrev refG_ops5 : Oper := ⟨some 31, .move (.tmp 30), 4, "ref.go:42", #[⟨4, .data⟩, ⟨1, .chain⟩], none⟩
abbrev refG_ops6 : Oper := ⟨some 32, .move (.tmp 6), 181, "ref.go:42", #[⟨5, .guard⟩], some (5, false)⟩
abbrev refG_ops7 : Oper := ⟨some 33, .call ⟨.value (.func 118), #[.tmp 32], #[181]⟩, 52, "ref.go:42", #[⟨6, .data⟩, ⟨5, .chain⟩, ⟨5, .guard⟩], some (5, false)⟩
abbrev refG_ops8 : Oper := ⟨some 34, .move (.tmp 0), 28, "ref.go:42", #[⟨5, .guard⟩], some (5, false)⟩
abbrev refG_ops9 : Oper := ⟨some 35, .move (.tmp 4), 3, "ref.go:42", #[⟨5, .guard⟩], some (5, false)⟩
abbrev refG_ops10 : Oper := ⟨some 36, .binOp .sub 3 (.tmp 35) (.const (.int .i64 4)) 3, 3, "ref.go:42", #[⟨9, .data⟩, ⟨5, .guard⟩], some (5, false)⟩
abbrev refG_ops11 : Oper := ⟨some 37, .slice 28 (.tmp 34) none (some (.tmp 36)) none, 28, "ref.go:42", #[⟨8, .data⟩, ⟨10, .data⟩, ⟨5, .guard⟩], some (5, false)⟩
abbrev refG_ops12 : Oper := ⟨some 38, .call ⟨.value (.func 53), #[.tmp 37], #[28]⟩, 52, "ref.go:42", #[⟨11, .data⟩, ⟨7, .chain⟩, ⟨5, .guard⟩], some (5, false)⟩
abbrev refG_ops13 : Oper := ⟨some 39, .binOp .neq 52 (.tmp 33) (.tmp 38) 52, 4, "ref.go:42", #[⟨7, .data⟩, ⟨12, .data⟩, ⟨5, .guard⟩], some (5, false)⟩
abbrev refG_ops14 : Oper := ⟨some 40, .pick (.tmp 31) (.const (.bool true)) (.tmp 39), 4, "ref.go:42", #[⟨5, .data⟩, ⟨13, .data⟩], none⟩
def refG_ops : Array Oper := #[refG_ops0, refG_ops1, refG_ops2, refG_ops3, refG_ops4, refG_ops5, refG_ops6, refG_ops7, refG_ops8, refG_ops9, refG_ops10, refG_ops11, refG_ops12, refG_ops13, refG_ops14]
def refG_slot : Nat → Nat
 | 0 => 26
 | 1 => 27
 | 2 => 28
 | 3 => 29
 | 4 => 30
 | 5 => 31
 | 6 => 32
 | 7 => 33
 | 8 => 34
 | 9 => 35
 | 10 => 36
 | 11 => 37
 | 12 => 38
 | 13 => 39
 | 14 => 40
 | j + 15 => 1087 + j
theorem refG_inj (i j : Nat) (hi : i < 15) (hj : j < 15) (h : refG_slot i = refG_slot j) : i = j := by
 have key : ∀ i j : Fin 15, refG_slot i.val = refG_slot j.val → i = j := by decide
 exact Fin.mk.inj (key ⟨i, hi⟩ ⟨j, hj⟩ h)
abbrev refG_mem (s : Nat) : Prop := s ∈ [26, 27, 28, 29, 30, 31, 32, 33, 34, 35, 36, 37, 38, 39, 40]
theorem refG_list (s : Nat) (h : refG_mem s) : s ∈ [26, 27, 28, 29, 30, 31, 32, 33, 34, 35, 36, 37, 38, 39, 40] := h
def refGS_val (n k C p5 p6 s1 s2 s3 : Nat) (A A1 : Option Addr) (L : List Nat) (b : Bool) : Nat → Value → Prop
 | 0, v => v = .pointer (some ⟨p5, 0, none⟩)
 | 1, v => v = .int .u32 (s1 : Nat)
 | 2, v => v = .int .i64 (s1 : Nat)
 | 3, v => v = .int .i64 (n : Nat)
 | 4, v => v = .bool true
 | 5, v => v = .bool true
 | 6, v | 7, v | 8, v | 9, v | 10, v | 11, v | 12, v | 13, v => v = undef
 | 14, v => v = .bool true
 | _, _ => True
theorem refGS (n k C p5 p6 s1 s2 s3 : Nat) (A A1 : Option Addr) (L : List Nat) (b : Bool) (Q : Exit → Act → World → Prop) (t0 : Array Value) (w0 : World) (ht : t0.size = 87)
  (hs0 : t0.getD 0 undef = .slice A n C) (hs4 : t0.getD 4 undef = .int .i64 (n : Nat)) (hs5 : t0.getD 5 undef = .pointer (some ⟨p5, 0, none⟩)) (hs6 : t0.getD 6 undef = .pointer (some ⟨p6, 0, none⟩))
  (hh : Hid ((getFix (some L)).1 = s1 ∧ (getFix (some (L.drop k))).1 = s2 ∧ (n = k + 4 ∧ n ≤ C ∧ n ≤ 1000000 ∧ s1 < 4294967296) ∧ (p5 ≠ p6 ∧ ∀ g off s, A = some ⟨g, off, s⟩ → g ≠ p5 ∧ g ≠ p6)))
  (hs : Hid (s1 ≠ n))
  (hJ0 : (RGJ n k C p5 p6 A A1 L w0) (fun _ => false) w0.drew)
  (hQ : ∀ (vs : Nat → Value) (w : World) (f : Nat → Bool), (∀ j, j < 15 → f j = true) → (RGJ n k C p5 p6 A A1 L w0) f w → vs 40 = .bool true → Q .normal { tmps := [26, 27, 28, 29, 30, 31, 32, 33, 34, 35, 36, 37, 38, 39, 40].foldl (fun y d => y.setIfInBounds d (vs d)) t0, defers := [] } w) :
  (Code.region 6 refG_ops true).wp Tryz.prog Q { tmps := t0, defers := [] } w0 := by
 have hsl : ∀ j, j < 15 → refG_mem (refG_slot j) := by
  intro j hj
  match j, hj with
  | 0, _ => exact (by decide : refG_mem 26)
  | 1, _ => exact (by decide : refG_mem 27)
  | 2, _ => exact (by decide : refG_mem 28)
  | 3, _ => exact (by decide : refG_mem 29)
  | 4, _ => exact (by decide : refG_mem 30)
  | 5, _ => exact (by decide : refG_mem 31)
  | 6, _ => exact (by decide : refG_mem 32)
  | 7, _ => exact (by decide : refG_mem 33)
  | 8, _ => exact (by decide : refG_mem 34)
  | 9, _ => exact (by decide : refG_mem 35)
  | 10, _ => exact (by decide : refG_mem 36)
  | 11, _ => exact (by decide : refG_mem 37)
  | 12, _ => exact (by decide : refG_mem 38)
  | 13, _ => exact (by decide : refG_mem 39)
  | 14, _ => exact (by decide : refG_mem 40)
  | k + 15, hj => omega
 refine wp_region_st (by kernel_rfl) refG_slot (refGS_val n k C p5 p6 s1 s2 s3 A A1 L b) (RGJ n k C p5 p6 A A1 L w0) t0 w0 ?_ (refG_inj) ?_ hJ0 ?_ ?_
 ·intro j o ho
  have hj : j < 15 := (Array.getElem?_eq_some_iff.1 ho).1
  rw [ht]
  match j, ho with
  | 0, ho | 1, ho | 2, ho | 3, ho | 4, ho | 5, ho | 6, ho | 7, ho | 8, ho | 9, ho | 10, ho | 11, ho | 12, ho | 13, ho | 14, ho => cases ho; exact ⟨rfl, by decide⟩
  | k + 15, _ => omega
 ·intro j o ho
  have hj : j < 15 := (Array.getElem?_eq_some_iff.1 ho).1
  match j, ho with
  | 0, ho | 1, ho | 2, ho | 3, ho | 4, ho | 5, ho | 6, ho | 7, ho | 8, ho | 9, ho | 10, ho | 11, ho | 12, ho | 13, ho | 14, ho => cases ho; decide
  | k + 15, _ => omega
 ·intro j o ho f x w hf hJ hdef hsz hs hdeps
  have hs' : ∀ s, ¬ refG_mem s → x.tmps.getD s undef = t0.getD s undef := fun s hn => hs s (fun j hj e => hn (by rw [e]; exact hsl j hj))
  have u0 := (hs' 0 (by decide)).trans hs0
  have u4 := (hs' 4 (by decide)).trans hs4
  have u5 := (hs' 5 (by decide)).trans hs5
  have u6 := (hs' 6 (by decide)).trans hs6
  have hj : j < 15 := (Array.getElem?_eq_some_iff.1 ho).1
  clear hs hs' hsl hsz ht hQ hJ0 hs0 hs4 hs5 hs6
  simp only [Array.getD_eq_getD_getElem?] at u0 u4 u5 u6
  match j, ho with
  | 0, ho =>
    have e : o = refG_ops0 := (Option.some.inj ho).symm; unfold refG_ops0 at e
    subst e
    clear hdeps
    refine wpOp_step ho (fun K hK => ?_)
    clear ho
    go_simp
    exact hK _ _ ⟨_, act_putD x hdef _ _, rfl, hJ.mono (fun j h => iff_f h)⟩
  | 1, ho =>
    have e : o = refG_ops1 := (Option.some.inj ho).symm; unfold refG_ops1 at e
    subst e
    have q0 : x.tmps.getD 26 undef = .pointer (some ⟨p5, 0, none⟩) := hdeps ⟨0, .data⟩ (by simp) rfl
    simp only [Array.getD_eq_getD_getElem?] at q0
    clear hdeps
    refine wpOp_step ho (fun K hK => ?_)
    clear ho
    go_simp
    refine (refFix_any p5 A C L (some L) w (hJ.2.1 hf)).mono ?_
    rintro e w' ⟨rfl, _, hk⟩
    rw [hh.out.1]
    exact hK _ _ ⟨_, act_putD x hdef _ _, rfl, hJ.call hh.out.2.2.2 hk⟩
  | 2, ho =>
    have e : o = refG_ops2 := (Option.some.inj ho).symm; unfold refG_ops2 at e
    subst e
    have q1 : x.tmps.getD 27 undef = .int .u32 (s1 : Nat) := hdeps ⟨1, .data⟩ (by simp) rfl
    simp only [Array.getD_eq_getD_getElem?] at q1
    clear hdeps
    refine wpOp_step ho (fun K hK => ?_)
    clear ho
    go_simp
    rw [show IntKind.i64.wrap (s1 : Int) = (s1 : Int) from IntWalk.i64_in _ (by have := hh.out; omega)]
    exact hK _ _ ⟨_, act_putD x hdef _ _, rfl, hJ.mono (fun j h => iff_f h)⟩
  | 3, ho =>
    have e : o = refG_ops3 := (Option.some.inj ho).symm; unfold refG_ops3 at e
    subst e
    clear hdeps
    refine wpOp_step ho (fun K hK => ?_)
    clear ho
    go_simp
    exact hK _ _ ⟨_, act_putD x hdef _ _, rfl, hJ.mono (fun j h => iff_f h)⟩
  | 4, ho =>
    have e : o = refG_ops4 := (Option.some.inj ho).symm; unfold refG_ops4 at e
    subst e
    have q2 : x.tmps.getD 28 undef = .int .i64 (s1 : Nat) := hdeps ⟨2, .data⟩ (by simp) rfl
    have q3 : x.tmps.getD 29 undef = .int .i64 (n : Nat) := hdeps ⟨3, .data⟩ (by simp) rfl
    simp only [Array.getD_eq_getD_getElem?] at q2 q3
    clear hdeps
    have h6 : ((s1 : Int) != (n : Int)) = true := by have := hs.out; simp; omega
    refine wpOp_step ho (fun K hK => ?_)
    clear ho
    go_simp
    exact hK _ _ ⟨_, act_putD x hdef _ _, rfl, hJ.mono (fun j h => iff_f h)⟩
  | 5, ho =>
    have e : o = refG_ops5 := (Option.some.inj ho).symm; unfold refG_ops5 at e
    subst e
    have q4 : x.tmps.getD 30 undef = .bool true := hdeps ⟨4, .data⟩ (by simp) rfl
    simp only [Array.getD_eq_getD_getElem?] at q4
    clear hdeps
    refine wpOp_step ho (fun K hK => ?_)
    clear ho
    go_simp
    exact hK _ _ ⟨_, act_putD x hdef _ _, rfl, hJ.mono (fun j h => iff_f h)⟩
  | 6, ho =>
    have e : o = refG_ops6 := (Option.some.inj ho).symm; unfold refG_ops6 at e
    subst e
    have q5 : x.tmps.getD 31 undef = .bool true := hdeps ⟨5, .guard⟩ (by simp) rfl
    have e5 : (refG_ops[5]?.bind fun x => x.dst) = some 31 := rfl
    have g5 := get_someS q5 (fun h => by cases h)
    simp only [Array.getD_eq_getD_getElem?] at q5
    clear hdeps
    refine wpOp_step ho (fun K hK => ?_)
    clear ho
    go_simp
    exact hK _ _ ⟨_, act_putD x hdef _ _, rfl, hJ.mono (fun j h => iff_f h)⟩
  | 7, ho =>
    have e : o = refG_ops7 := (Option.some.inj ho).symm; unfold refG_ops7 at e
    subst e
    have q6 : x.tmps.getD 32 undef = undef := hdeps ⟨6, .data⟩ (by simp) rfl
    have q5 : x.tmps.getD 31 undef = .bool true := hdeps ⟨5, .guard⟩ (by simp) rfl
    have e5 : (refG_ops[5]?.bind fun x => x.dst) = some 31 := rfl
    have g5 := get_someS q5 (fun h => by cases h)
    simp only [Array.getD_eq_getD_getElem?] at q6 q5
    clear hdeps
    refine wpOp_step ho (fun K hK => ?_)
    clear ho
    go_simp
    exact hK _ _ ⟨_, act_putD x hdef _ _, rfl, hJ.mono (fun j h => iff_f h)⟩
  | 8, ho =>
    have e : o = refG_ops8 := (Option.some.inj ho).symm; unfold refG_ops8 at e
    subst e
    have q5 : x.tmps.getD 31 undef = .bool true := hdeps ⟨5, .guard⟩ (by simp) rfl
    have e5 : (refG_ops[5]?.bind fun x => x.dst) = some 31 := rfl
    have g5 := get_someS q5 (fun h => by cases h)
    simp only [Array.getD_eq_getD_getElem?] at q5
    clear hdeps
    refine wpOp_step ho (fun K hK => ?_)
    clear ho
    go_simp
    exact hK _ _ ⟨_, act_putD x hdef _ _, rfl, hJ.mono (fun j h => iff_f h)⟩
  | 9, ho =>
    have e : o = refG_ops9 := (Option.some.inj ho).symm; unfold refG_ops9 at e
    subst e
    have q5 : x.tmps.getD 31 undef = .bool true := hdeps ⟨5, .guard⟩ (by simp) rfl
    have e5 : (refG_ops[5]?.bind fun x => x.dst) = some 31 := rfl
    have g5 := get_someS q5 (fun h => by cases h)
    simp only [Array.getD_eq_getD_getElem?] at q5
    clear hdeps
    refine wpOp_step ho (fun K hK => ?_)
    clear ho
    go_simp
    exact hK _ _ ⟨_, act_putD x hdef _ _, rfl, hJ.mono (fun j h => iff_f h)⟩
  | 10, ho =>
    have e : o = refG_ops10 := (Option.some.inj ho).symm; unfold refG_ops10 at e
    subst e
    have q9 : x.tmps.getD 35 undef = undef := hdeps ⟨9, .data⟩ (by simp) rfl
    have q5 : x.tmps.getD 31 undef = .bool true := hdeps ⟨5, .guard⟩ (by simp) rfl
    have e5 : (refG_ops[5]?.bind fun x => x.dst) = some 31 := rfl
    have g5 := get_someS q5 (fun h => by cases h)
    simp only [Array.getD_eq_getD_getElem?] at q9 q5
    clear hdeps
    refine wpOp_step ho (fun K hK => ?_)
    clear ho
    go_simp
    exact hK _ _ ⟨_, act_putD x hdef _ _, rfl, hJ.mono (fun j h => iff_f h)⟩
  | 11, ho =>
    have e : o = refG_ops11 := (Option.some.inj ho).symm; unfold refG_ops11 at e
    subst e
    have q8 : x.tmps.getD 34 undef = undef := hdeps ⟨8, .data⟩ (by simp) rfl
    have q10 : x.tmps.getD 36 undef = undef := hdeps ⟨10, .data⟩ (by simp) rfl
    have q5 : x.tmps.getD 31 undef = .bool true := hdeps ⟨5, .guard⟩ (by simp) rfl
    have e5 : (refG_ops[5]?.bind fun x => x.dst) = some 31 := rfl
    have g5 := get_someS q5 (fun h => by cases h)
    simp only [Array.getD_eq_getD_getElem?] at q8 q10 q5
    clear hdeps
    refine wpOp_step ho (fun K hK => ?_)
    clear ho
    go_simp
    exact hK _ _ ⟨_, act_putD x hdef _ _, rfl, hJ.mono (fun j h => iff_f h)⟩
  | 12, ho =>
    have e : o = refG_ops12 := (Option.some.inj ho).symm; unfold refG_ops12 at e
    subst e
    have q11 : x.tmps.getD 37 undef = undef := hdeps ⟨11, .data⟩ (by simp) rfl
    have q5 : x.tmps.getD 31 undef = .bool true := hdeps ⟨5, .guard⟩ (by simp) rfl
    have e5 : (refG_ops[5]?.bind fun x => x.dst) = some 31 := rfl
    have g5 := get_someS q5 (fun h => by cases h)
    simp only [Array.getD_eq_getD_getElem?] at q11 q5
    clear hdeps
    refine wpOp_step ho (fun K hK => ?_)
    clear ho
    go_simp
    exact hK _ _ ⟨_, act_putD x hdef _ _, rfl, hJ.mono (fun j h => iff_f h)⟩
  | 13, ho =>
    have e : o = refG_ops13 := (Option.some.inj ho).symm; unfold refG_ops13 at e
    subst e
    have q7 : x.tmps.getD 33 undef = undef := hdeps ⟨7, .data⟩ (by simp) rfl
    have q12 : x.tmps.getD 38 undef = undef := hdeps ⟨12, .data⟩ (by simp) rfl
    have q5 : x.tmps.getD 31 undef = .bool true := hdeps ⟨5, .guard⟩ (by simp) rfl
    have e5 : (refG_ops[5]?.bind fun x => x.dst) = some 31 := rfl
    have g5 := get_someS q5 (fun h => by cases h)
    simp only [Array.getD_eq_getD_getElem?] at q7 q12 q5
    clear hdeps
    refine wpOp_step ho (fun K hK => ?_)
    clear ho
    go_simp
    exact hK _ _ ⟨_, act_putD x hdef _ _, rfl, hJ.mono (fun j h => iff_f h)⟩
  | 14, ho =>
    have e : o = refG_ops14 := (Option.some.inj ho).symm; unfold refG_ops14 at e
    subst e
    have q5 : x.tmps.getD 31 undef = .bool true := hdeps ⟨5, .data⟩ (by simp) rfl
    have q13 : x.tmps.getD 39 undef = undef := hdeps ⟨13, .data⟩ (by simp) rfl
    simp only [Array.getD_eq_getD_getElem?] at q5 q13
    clear hdeps
    refine wpOp_step ho (fun K hK => ?_)
    clear ho
    go_simp
    exact hK _ _ ⟨_, act_putD x hdef _ _, rfl, hJ.mono (fun j h => iff_f h)⟩
  | k + 15, _ => omega
 ·intro f x w hall hJ hdef hsz hs hv
  have hx := frame_sets x.tmps t0 hsz [26, 27, 28, 29, 30, 31, 32, 33, 34, 35, 36, 37, 38, 39, 40] (fun s hn => hs s (fun j hj e => hn (refG_list s (by rw [e]; exact hsl j hj))))
  have hq := hQ (fun d => x.tmps.getD d undef) w f hall hJ (hv 14 (by decide))
  obtain ⟨T, Df⟩ := x
  dsimp only at hx hdef hq
  subst hdef
  rw [← hx] at hq
  exact hq
def refGF_val (n k C p5 p6 s1 s2 s3 : Nat) (A A1 : Option Addr) (L : List Nat) (b : Bool) : Nat → Value → Prop
 | 0, v => v = .pointer (some ⟨p5, 0, none⟩)
 | 1, v => v = .int .u32 (s1 : Nat)
 | 2, v => v = .int .i64 (s1 : Nat)
 | 3, v => v = .int .i64 (n : Nat)
 | 4, v => v = .bool false
 | 5, v => v = .bool false
 | 6, v => v = .pointer (some ⟨p6, 0, none⟩)
 | 7, v => v = .int .u32 (s2 : Nat)
 | 8, v => v = .slice A n C
 | 9, v => v = .int .i64 (n : Nat)
 | 10, v => v = .int .i64 (k : Nat)
 | 11, v => v = .slice A1 k C
 | 12, v => v = .int .u32 (s3 : Nat)
 | 13, v => v = .bool b
 | 14, v => v = .bool b
 | _, _ => True
theorem refGF (n k C p5 p6 s1 s2 s3 : Nat) (A A1 : Option Addr) (L : List Nat) (b : Bool) (Q : Exit → Act → World → Prop) (t0 : Array Value) (w0 : World) (ht : t0.size = 87)
  (hs0 : t0.getD 0 undef = .slice A n C) (hs4 : t0.getD 4 undef = .int .i64 (n : Nat)) (hs5 : t0.getD 5 undef = .pointer (some ⟨p5, 0, none⟩)) (hs6 : t0.getD 6 undef = .pointer (some ⟨p6, 0, none⟩))
  (hh : Hid ((getFix (some L)).1 = s1 ∧ (getFix (some (L.drop k))).1 = s2 ∧ (n = k + 4 ∧ n ≤ C ∧ n ≤ 1000000 ∧ s1 < 4294967296) ∧ (p5 ≠ p6 ∧ ∀ g off s, A = some ⟨g, off, s⟩ → g ≠ p5 ∧ g ≠ p6)))
  (hs : Hid (s1 = n ∧ b = !decide (s2 = s3)))
  (e2 : ∀ wx, (Instr.slice 28 (.slice A n C) none (some (.int .i64 (k : Nat))) none).run Tryz.prog wx = .ok (.slice A1 k C) wx)
  (c3 : ∀ W, Kept (fun g => g = p5 ∨ g = p6) w0 W → Calls Tryz.prog 53 #[.slice A1 k C] W fun e w' => e = .returned (.int .u32 (s3 : Nat)) ∧ W = w')
  (hJ0 : (RGJ n k C p5 p6 A A1 L w0) (fun _ => false) w0.drew)
  (hQ : ∀ (vs : Nat → Value) (w : World) (f : Nat → Bool), (∀ j, j < 15 → f j = true) → (RGJ n k C p5 p6 A A1 L w0) f w → vs 40 = .bool b → Q .normal { tmps := [26, 27, 28, 29, 30, 31, 32, 33, 34, 35, 36, 37, 38, 39, 40].foldl (fun y d => y.setIfInBounds d (vs d)) t0, defers := [] } w) :
  (Code.region 6 refG_ops true).wp Tryz.prog Q { tmps := t0, defers := [] } w0 := by
 have hsl : ∀ j, j < 15 → refG_mem (refG_slot j) := by
  intro j hj
  match j, hj with
  | 0, _ => exact (by decide : refG_mem 26)
  | 1, _ => exact (by decide : refG_mem 27)
  | 2, _ => exact (by decide : refG_mem 28)
  | 3, _ => exact (by decide : refG_mem 29)
  | 4, _ => exact (by decide : refG_mem 30)
  | 5, _ => exact (by decide : refG_mem 31)
  | 6, _ => exact (by decide : refG_mem 32)
  | 7, _ => exact (by decide : refG_mem 33)
  | 8, _ => exact (by decide : refG_mem 34)
  | 9, _ => exact (by decide : refG_mem 35)
  | 10, _ => exact (by decide : refG_mem 36)
  | 11, _ => exact (by decide : refG_mem 37)
  | 12, _ => exact (by decide : refG_mem 38)
  | 13, _ => exact (by decide : refG_mem 39)
  | 14, _ => exact (by decide : refG_mem 40)
  | k + 15, hj => omega
 refine wp_region_st (by kernel_rfl) refG_slot (refGF_val n k C p5 p6 s1 s2 s3 A A1 L b) (RGJ n k C p5 p6 A A1 L w0) t0 w0 ?_ (refG_inj) ?_ hJ0 ?_ ?_
 ·intro j o ho
  have hj : j < 15 := (Array.getElem?_eq_some_iff.1 ho).1
  rw [ht]
  match j, ho with
  | 0, ho | 1, ho | 2, ho | 3, ho | 4, ho | 5, ho | 6, ho | 7, ho | 8, ho | 9, ho | 10, ho | 11, ho | 12, ho | 13, ho | 14, ho => cases ho; exact ⟨rfl, by decide⟩
  | k + 15, _ => omega
 ·intro j o ho
  have hj : j < 15 := (Array.getElem?_eq_some_iff.1 ho).1
  match j, ho with
  | 0, ho | 1, ho | 2, ho | 3, ho | 4, ho | 5, ho | 6, ho | 7, ho | 8, ho | 9, ho | 10, ho | 11, ho | 12, ho | 13, ho | 14, ho => cases ho; decide
  | k + 15, _ => omega
 ·intro j o ho f x w hf hJ hdef hsz hs hdeps
  have hs' : ∀ s, ¬ refG_mem s → x.tmps.getD s undef = t0.getD s undef := fun s hn => hs s (fun j hj e => hn (by rw [e]; exact hsl j hj))
  have u0 := (hs' 0 (by decide)).trans hs0
  have u4 := (hs' 4 (by decide)).trans hs4
  have u5 := (hs' 5 (by decide)).trans hs5
  have u6 := (hs' 6 (by decide)).trans hs6
  have hj : j < 15 := (Array.getElem?_eq_some_iff.1 ho).1
  clear hs hs' hsl hsz ht hQ hJ0 hs0 hs4 hs5 hs6
  simp only [Array.getD_eq_getD_getElem?] at u0 u4 u5 u6
  match j, ho with
  | 0, ho =>
    have e : o = refG_ops0 := (Option.some.inj ho).symm; unfold refG_ops0 at e
    subst e
    clear hdeps
    refine wpOp_step ho (fun K hK => ?_)
    clear ho
    go_simp
    exact hK _ _ ⟨_, act_putD x hdef _ _, rfl, hJ.mono (fun j h => iff_f h)⟩
  | 1, ho =>
    have e : o = refG_ops1 := (Option.some.inj ho).symm; unfold refG_ops1 at e
    subst e
    have q0 : x.tmps.getD 26 undef = .pointer (some ⟨p5, 0, none⟩) := hdeps ⟨0, .data⟩ (by simp) rfl
    simp only [Array.getD_eq_getD_getElem?] at q0
    clear hdeps
    refine wpOp_step ho (fun K hK => ?_)
    clear ho
    go_simp
    refine (refFix_any p5 A C L (some L) w (hJ.2.1 hf)).mono ?_
    rintro e w' ⟨rfl, _, hk⟩
    rw [hh.out.1]
    exact hK _ _ ⟨_, act_putD x hdef _ _, rfl, hJ.call hh.out.2.2.2 hk⟩
  | 2, ho =>
    have e : o = refG_ops2 := (Option.some.inj ho).symm; unfold refG_ops2 at e
    subst e
    have q1 : x.tmps.getD 27 undef = .int .u32 (s1 : Nat) := hdeps ⟨1, .data⟩ (by simp) rfl
    simp only [Array.getD_eq_getD_getElem?] at q1
    clear hdeps
    refine wpOp_step ho (fun K hK => ?_)
    clear ho
    go_simp
    rw [show IntKind.i64.wrap (s1 : Int) = (s1 : Int) from IntWalk.i64_in _ (by have := hh.out; omega)]
    exact hK _ _ ⟨_, act_putD x hdef _ _, rfl, hJ.mono (fun j h => iff_f h)⟩
  | 3, ho =>
    have e : o = refG_ops3 := (Option.some.inj ho).symm; unfold refG_ops3 at e
    subst e
    clear hdeps
    refine wpOp_step ho (fun K hK => ?_)
    clear ho
    go_simp
    exact hK _ _ ⟨_, act_putD x hdef _ _, rfl, hJ.mono (fun j h => iff_f h)⟩
  | 4, ho =>
    have e : o = refG_ops4 := (Option.some.inj ho).symm; unfold refG_ops4 at e
    subst e
    have q2 : x.tmps.getD 28 undef = .int .i64 (s1 : Nat) := hdeps ⟨2, .data⟩ (by simp) rfl
    have q3 : x.tmps.getD 29 undef = .int .i64 (n : Nat) := hdeps ⟨3, .data⟩ (by simp) rfl
    simp only [Array.getD_eq_getD_getElem?] at q2 q3
    clear hdeps
    have h6 : ((s1 : Int) != (n : Int)) = false := by have := hs.out; simp; omega
    refine wpOp_step ho (fun K hK => ?_)
    clear ho
    go_simp
    exact hK _ _ ⟨_, act_putD x hdef _ _, rfl, hJ.mono (fun j h => iff_f h)⟩
  | 5, ho =>
    have e : o = refG_ops5 := (Option.some.inj ho).symm; unfold refG_ops5 at e
    subst e
    have q4 : x.tmps.getD 30 undef = .bool false := hdeps ⟨4, .data⟩ (by simp) rfl
    simp only [Array.getD_eq_getD_getElem?] at q4
    clear hdeps
    refine wpOp_step ho (fun K hK => ?_)
    clear ho
    go_simp
    exact hK _ _ ⟨_, act_putD x hdef _ _, rfl, hJ.mono (fun j h => iff_f h)⟩
  | 6, ho =>
    have e : o = refG_ops6 := (Option.some.inj ho).symm; unfold refG_ops6 at e
    subst e
    have q5 : x.tmps.getD 31 undef = .bool false := hdeps ⟨5, .guard⟩ (by simp) rfl
    have e5 : (refG_ops[5]?.bind fun x => x.dst) = some 31 := rfl
    have g5 := get_someS q5 (fun h => by cases h)
    simp only [Array.getD_eq_getD_getElem?] at q5
    clear hdeps
    refine wpOp_step ho (fun K hK => ?_)
    clear ho
    go_simp
    exact hK _ _ ⟨_, act_putD x hdef _ _, rfl, hJ.mono (fun j h => iff_f h)⟩
  | 7, ho =>
    have e : o = refG_ops7 := (Option.some.inj ho).symm; unfold refG_ops7 at e
    subst e
    have q6 : x.tmps.getD 32 undef = .pointer (some ⟨p6, 0, none⟩) := hdeps ⟨6, .data⟩ (by simp) rfl
    have q5 : x.tmps.getD 31 undef = .bool false := hdeps ⟨5, .guard⟩ (by simp) rfl
    have e5 : (refG_ops[5]?.bind fun x => x.dst) = some 31 := rfl
    have g5 := get_someS q5 (fun h => by cases h)
    simp only [Array.getD_eq_getD_getElem?] at q6 q5
    clear hdeps
    refine wpOp_step ho (fun K hK => ?_)
    clear ho
    go_simp
    refine (refFix_any p6 A C L (some (L.drop k)) w (hJ.2.2.1 hf)).mono ?_
    rintro e w' ⟨rfl, _, hk⟩
    rw [hh.out.2.1]
    exact hK _ _ ⟨_, act_putD x hdef _ _, rfl, hJ.call2 hh.out.2.2.2 hk⟩
  | 8, ho =>
    have e : o = refG_ops8 := (Option.some.inj ho).symm; unfold refG_ops8 at e
    subst e
    have q5 : x.tmps.getD 31 undef = .bool false := hdeps ⟨5, .guard⟩ (by simp) rfl
    have e5 : (refG_ops[5]?.bind fun x => x.dst) = some 31 := rfl
    have g5 := get_someS q5 (fun h => by cases h)
    simp only [Array.getD_eq_getD_getElem?] at q5
    clear hdeps
    refine wpOp_step ho (fun K hK => ?_)
    clear ho
    go_simp
    exact hK _ _ ⟨_, act_putD x hdef _ _, rfl, hJ.mono (fun j h => iff_f h)⟩
  | 9, ho =>
    have e : o = refG_ops9 := (Option.some.inj ho).symm; unfold refG_ops9 at e
    subst e
    have q5 : x.tmps.getD 31 undef = .bool false := hdeps ⟨5, .guard⟩ (by simp) rfl
    have e5 : (refG_ops[5]?.bind fun x => x.dst) = some 31 := rfl
    have g5 := get_someS q5 (fun h => by cases h)
    simp only [Array.getD_eq_getD_getElem?] at q5
    clear hdeps
    refine wpOp_step ho (fun K hK => ?_)
    clear ho
    go_simp
    exact hK _ _ ⟨_, act_putD x hdef _ _, rfl, hJ.mono (fun j h => iff_f h)⟩
  | 10, ho =>
    have e : o = refG_ops10 := (Option.some.inj ho).symm; unfold refG_ops10 at e
    subst e
    have q9 : x.tmps.getD 35 undef = .int .i64 (n : Nat) := hdeps ⟨9, .data⟩ (by simp) rfl
    have q5 : x.tmps.getD 31 undef = .bool false := hdeps ⟨5, .guard⟩ (by simp) rfl
    have e5 : (refG_ops[5]?.bind fun x => x.dst) = some 31 := rfl
    have g5 := get_someS q5 (fun h => by cases h)
    simp only [Array.getD_eq_getD_getElem?] at q9 q5
    clear hdeps
    have h10 : (n : Int) - 4 = (k : Int) := by have := hh.out; omega
    refine wpOp_step ho (fun K hK => ?_)
    clear ho
    go_simp
    rw [show IntKind.i64.wrap (k : Int) = (k : Int) from IntWalk.i64_in _ (by have := hh.out; omega)]
    exact hK _ _ ⟨_, act_putD x hdef _ _, rfl, hJ.mono (fun j h => iff_f h)⟩
  | 11, ho =>
    have e : o = refG_ops11 := (Option.some.inj ho).symm; unfold refG_ops11 at e
    subst e
    have q8 : x.tmps.getD 34 undef = .slice A n C := hdeps ⟨8, .data⟩ (by simp) rfl
    have q10 : x.tmps.getD 36 undef = .int .i64 (k : Nat) := hdeps ⟨10, .data⟩ (by simp) rfl
    have q5 : x.tmps.getD 31 undef = .bool false := hdeps ⟨5, .guard⟩ (by simp) rfl
    have e5 : (refG_ops[5]?.bind fun x => x.dst) = some 31 := rfl
    have g5 := get_someS q5 (fun h => by cases h)
    simp only [Array.getD_eq_getD_getElem?] at q8 q10 q5
    clear hdeps
    have h9 : (k : Int) ≤ (C : Int) := by have := hh.out; omega
    have h9' : (0 : Int) ≤ (k : Int) := by omega
    refine wpOp_step ho (fun K hK => ?_)
    clear ho
    go_simp
    exact hK _ _ ⟨_, act_putD x hdef _ _, rfl, hJ.mono (fun j h => iff_f h)⟩
  | 12, ho =>
    have e : o = refG_ops12 := (Option.some.inj ho).symm; unfold refG_ops12 at e
    subst e
    have q11 : x.tmps.getD 37 undef = .slice A1 k C := hdeps ⟨11, .data⟩ (by simp) rfl
    have q5 : x.tmps.getD 31 undef = .bool false := hdeps ⟨5, .guard⟩ (by simp) rfl
    have e5 : (refG_ops[5]?.bind fun x => x.dst) = some 31 := rfl
    have g5 := get_someS q5 (fun h => by cases h)
    simp only [Array.getD_eq_getD_getElem?] at q11 q5
    clear hdeps
    refine wpOp_step ho (fun K hK => ?_)
    clear ho
    go_simp
    refine (c3 w hJ.1).mono ?_
    rintro e w' ⟨rfl, rfl⟩
    exact hK _ _ ⟨_, act_putD x hdef _ _, rfl, hJ.mono (fun j h => iff_f h)⟩
  | 13, ho =>
    have e : o = refG_ops13 := (Option.some.inj ho).symm; unfold refG_ops13 at e
    subst e
    have q7 : x.tmps.getD 33 undef = .int .u32 (s2 : Nat) := hdeps ⟨7, .data⟩ (by simp) rfl
    have q12 : x.tmps.getD 38 undef = .int .u32 (s3 : Nat) := hdeps ⟨12, .data⟩ (by simp) rfl
    have q5 : x.tmps.getD 31 undef = .bool false := hdeps ⟨5, .guard⟩ (by simp) rfl
    have e5 : (refG_ops[5]?.bind fun x => x.dst) = some 31 := rfl
    have g5 := get_someS q5 (fun h => by cases h)
    simp only [Array.getD_eq_getD_getElem?] at q7 q12 q5
    clear hdeps
    have h7 : ((s2 : Int) != (s3 : Int)) = b := by rw [hs.out.2]; by_cases h : s2 = s3 <;> simp [h] <;> omega
    refine wpOp_step ho (fun K hK => ?_)
    clear ho
    go_simp
    exact hK _ _ ⟨_, act_putD x hdef _ _, rfl, hJ.mono (fun j h => iff_f h)⟩
  | 14, ho =>
    have e : o = refG_ops14 := (Option.some.inj ho).symm; unfold refG_ops14 at e
    subst e
    have q5 : x.tmps.getD 31 undef = .bool false := hdeps ⟨5, .data⟩ (by simp) rfl
    have q13 : x.tmps.getD 39 undef = .bool b := hdeps ⟨13, .data⟩ (by simp) rfl
    simp only [Array.getD_eq_getD_getElem?] at q5 q13
    clear hdeps
    refine wpOp_step ho (fun K hK => ?_)
    clear ho
    go_simp
    exact hK _ _ ⟨_, act_putD x hdef _ _, rfl, hJ.mono (fun j h => iff_f h)⟩
  | k + 15, _ => omega
 ·intro f x w hall hJ hdef hsz hs hv
  have hx := frame_sets x.tmps t0 hsz [26, 27, 28, 29, 30, 31, 32, 33, 34, 35, 36, 37, 38, 39, 40] (fun s hn => hs s (fun j hj e => hn (refG_list s (by rw [e]; exact hsl j hj))))
  have hq := hQ (fun d => x.tmps.getD d undef) w f hall hJ (hv 14 (by decide))
  obtain ⟨T, Df⟩ := x
  dsimp only at hx hdef hq
  subst hdef
  rw [← hx] at hq
  exact hq
open Go.RowKit
theorem RR.new {w W : World} {p : Nat} {A : Option Addr} {C a n : Nat} {L : List Nat} (hp : p = w.heap.size) (hW : w.alloc (.cells #[.slice A n C, .int .i64 (a : Nat), .bool false] 183) = W) (hL : L.length = n) (hn : 0 < n) (hS : SB w A C L) (ha : a ≤ n) : RR W p A C L (some (L.drop a)) := by
 subst hL hp
 have hb := below_alloc w (.cells #[.slice A L.length C, .int .i64 (a : Nat), .bool false] 183)
 rw [← hW]
 exact ⟨a, ha, heap_alloc_new _ _, fun g o s e _ => by have := hS.at g o s e hn; omega, hS.b.below hb, hS.l, hS.m, hS.n, hS.o, fun M e => by cases e; rfl⟩
theorem getFixed_lt (L : List Nat) (hL : ∀ b ∈ L, b < 256) : (getFix (some L)).1 < 4294967296 := by
 have h : ∀ i, L.getD i 0 < 256 := fun i => by
  rw [List.getD_eq_getElem?_getD]
  by_cases hj : i < L.length
  ·rw [List.getElem?_eq_getElem hj]; exact hL _ (List.getElem_mem hj)
  ·rw [List.getElem?_eq_none (by omega)]; simp
 have h0 := h 0
 have h1 := h 1
 have h2 := h 2
 have h3 := h 3
 unfold getFix
 simp only []
 split
 ·show 0 < _; omega
 ·show _ + _ + _ + _ < _; omega
theorem getPart_text (t : Nat) (r : List Nat) : getPart (t :: r) = match getText 67108864 (some r) with
  | (_, none) => none
  | (b, some r') => some ((t, b), r') := rfl
def RGI (w : World) (p C : Nat) (A1 : Option Addr) (L1 : List Nat) (G : Option (List PT)) (v : Value) (M : List Nat) (pre : List PV) (W : World) : Prop :=
 RR W p A1 C L1 (some M) ∧ OwnPV W w.heap.size v pre ∧ Below w.heap.size w W ∧ (getP M).map (pre.map (fun x : PV => x.1) ++ ·) = G ∧ pre.length + M.length ≤ 1000000
theorem refGet_any (A : Option Addr) (C n : Nat) (L : List Nat) (w : World) (hn : L.length = n) (hS : SB w A C L) (hsz : n ≤ 1000000) :
  Calls Tryz.prog 116 #[.slice A n C] w fun e w' => ∃ v xs, e = .returned (.tuple #[v, .int .i64 (errG (getFile L))]) ∧ OwnPV w' w.heap.size v xs ∧ xs.map (fun x : PV => x.1) = (getFile L).getD [] ∧ Below w.heap.size w w' := by
 by_cases h8 : n < 8
 ·rw [getFile_short (by omega), show errG none = 9 from rfl]
  have hz : (n : Int) < 8 := by omega
  clear hS hn
  go_enter Tryz.func116, Tryz.ntmps116
  go_wp2_with fail
  exact bodyPost_ret_by (results_tmp2 rfl _ _ _) rfl ⟨.slice none 0 0, [], rfl, OwnPV.nil _ _, rfl, Below.refl _ _⟩
 have hz : (8 : Int) ≤ (n : Int) := by omega
 have hzm : (n : Int) ≤ 67108864 := by omega
 obtain ⟨k, hk⟩ : ∃ k, n = k + 4 := ⟨n - 4, by omega⟩
 obtain ⟨s1, hs1⟩ : ∃ s, (getFix (some L)).1 = s := ⟨_, rfl⟩
 obtain ⟨s2, hs2⟩ : ∃ s, (getFix (some (L.drop k))).1 = s := ⟨_, rfl⟩
 obtain ⟨s3, hs3⟩ : ∃ s, crcL (L.take k) = s := ⟨_, rfl⟩
 obtain ⟨A1, A1', e2, _, b1, _, g1, _⟩ := hS.cut k (by omega)
 rw [hn] at e2
 obtain ⟨W1, hW1⟩ : ∃ W1, w.alloc (.cells #[.slice A n C, .int .i64 0, .bool false] 183) = W1 := ⟨_, rfl⟩
 have hB1 : Below w.heap.size w W1 := by rw [← hW1]; exact below_alloc _ _
 have hz1 : W1.heap.size = w.heap.size + 1 := by rw [← hW1]; simp
 have r5 : RR W1 w.heap.size A C L (some L) := RR.new (a := 0) rfl hW1 hn (by omega) hS (by omega)
 obtain ⟨W2, hW2⟩ : ∃ W2, W1.alloc (.cells #[.slice A n C, .int .i64 (k : Nat), .bool false] 183) = W2 := ⟨_, rfl⟩
 have hB2 : Below W1.heap.size W1 W2 := by rw [← hW2]; exact below_alloc _ _
 have hz2 : W2.heap.size = W1.heap.size + 1 := by rw [← hW2]; simp
 have r6 : RR W2 W1.heap.size A C L (some (L.drop k)) := RR.new (a := k) rfl hW2 hn (by omega) (hS.below hB1) (by omega)
 have hA : ∀ g off s, A = some ⟨g, off, s⟩ → g < w.heap.size := fun g o s e => hS.at g o s e (by omega)
 have r5' : RR W2 w.heap.size A C L (some L) := r5.kept (Kept.of_below (F := fun _ => False) hB2) (fun h => h) (fun _ _ _ _ h => h)
 have hBw2 : Below w.heap.size w W2 := hB1.trans (hB2.mono hB1.size)
 have hs1l : s1 < 4294967296 := by rw [← hs1]; exact getFixed_lt _ hS.b.lt
 have HH : Hid ((getFix (some L)).1 = s1 ∧ (getFix (some (L.drop k))).1 = s2 ∧ (n = k + 4 ∧ n ≤ C ∧ n ≤ 1000000 ∧ s1 < 4294967296) ∧ (w.heap.size ≠ W1.heap.size ∧ ∀ g off s, A = some ⟨g, off, s⟩ → g ≠ w.heap.size ∧ g ≠ W1.heap.size)) :=
  ⟨hs1, hs2, ⟨hk, by rw [← hn]; exact hS.l, hsz, hs1l⟩, by omega, fun g o s e => by have := hA g o s e; omega⟩
 have hnk : (n : Int) - 4 = (k : Int) := by omega
 have ht4 : (getFix (some (L.take 4))).1 = s1 := by rw [← hs1]; exact (getFix_take L (by omega)).symm
 have HF := hide (And.intro hn (And.intro hS (And.intro hBw2 (And.intro b1 (And.intro g1 (And.intro hz1 (And.intro hz2 hA)))))))
 have HK := hide hk
 have hJ0 : RGJ n k C w.heap.size W1.heap.size A A1 L W2 (fun _ => false) W2.drew := ⟨(Kept.refl _ _).drew, fun _ => r5', fun _ => r6, trivial⟩
 have HJ := hide hJ0
 by_cases hfit : s1 = n
 ·subst hfit
  obtain ⟨b, hbb⟩ : ∃ b, b = !decide (s2 = s3) := ⟨_, rfl⟩
  have HS : Hid (s1 = s1 ∧ b = !decide (s2 = s3)) := ⟨rfl, hbb⟩
  have hl1 : (L.take k).length = k := by rw [List.length_take]; omega
  have hA1 : ∀ g off s, A1 = some ⟨g, off, s⟩ → g < w.heap.size := fun g o s e => by
   obtain ⟨o', s', e'⟩ := g1 g o s e
   exact hA g o' s' e'
  have hbt : Byt w A1 k (fun i => (L.take k).getD i 0) := by have := b1.b; unfold BL at this; rw [hl1] at this; exact this
  have c3 : ∀ W, Kept (fun g => g = w.heap.size ∨ g = W1.heap.size) W2 W → Calls Tryz.prog 53 #[.slice A1 k C] W fun e w' => e = .returned (.int .u32 (s3 : Nat)) ∧ W = w' := fun W hW => by
   have h := refOne_any A1 k C (fun i => (L.take k).getD i 0) W (by omega) (((hbt.below hB1).below hB2).kept hW (fun g o s e h => by have := hA1 g o s e; rcases h with h | h <;> omega))
   rw [show sumN (fun i => (L.take k).getD i 0) k = s3 from by rw [← hs3]; unfold crcL; rw [hl1]] at h
   exact h
  have hgw : b = true → getFile L = none := fun hb => by
   have : wholeB L = false := by
    unfold wholeB
    refine decide_eq_false (fun hh => ?_)
    rw [show L.length - 4 = k by omega, hs2, hs3] at hh
    rw [hbb, hh.2.2.2] at hb
    simp at hb
   unfold getFile
   rw [this]
   rfl
  have hgf : b = false → getFile L = getP ((L.take k).drop 4) := fun hb => by
   have : wholeB L = true := by
    unfold wholeB
    refine decide_eq_true ⟨by omega, by unfold maxDisk; omega, by rw [ht4, hn], ?_⟩
    rw [show L.length - 4 = k by omega, hs2, hs3]
    by_cases e : s2 = s3
    ·exact e
    ·rw [hbb] at hb; simp [e] at hb
   unfold getFile midB
   rw [this, if_pos rfl, show L.length - 4 = k by omega]
  obtain ⟨GF, hGF⟩ : ∃ GF, getFile L = GF := ⟨_, rfl⟩
  rw [hGF] at hgw hgf ⊢
  have HG := hide (And.intro hgw (And.intro hgf (And.intro hl1 hA1)))
  clear hn hS b1 g1 hz1 hz2 hA hs1 hs2 hs3 r5 r5' r6 hB1 hB2 hBw2 hs1l ht4 hJ0 hgw hgf hl1 hA1 hbt hbb hk hGF
  go_enter Tryz.func116, Tryz.ntmps116
  go_wp2
  refine refGF s1 k C w.heap.size W1.heap.size s1 s2 s3 A A1 L b _ _ _ rfl rfl rfl rfl rfl HH (show Hid (s1 = s1 ∧ b = !decide (s2 = s3)) from ⟨rfl, HS.out.2⟩) e2 c3 HJ.out ?_
  intro vs w3 f hall hJ3 h40
  simp only [List.foldl_cons, List.foldl_nil, List.setIfInBounds_toArray, List.set_cons_succ, List.set_cons_zero]
  rw [h40]
  generalize vs 26 = y26
  generalize vs 27 = y27
  generalize vs 28 = y28
  generalize vs 29 = y29
  generalize vs 30 = y30
  generalize vs 31 = y31
  generalize vs 32 = y32
  generalize vs 33 = y33
  generalize vs 34 = y34
  generalize vs 35 = y35
  generalize vs 36 = y36
  generalize vs 37 = y37
  generalize vs 38 = y38
  generalize vs 39 = y39
  have hB3 : Below w.heap.size w w3 := HF.out.2.2.1.trans (hJ3.1.below (B := w.heap.size) (fun k hk => by have := HF.out.2.2.2.2.2.1; rcases hk with h | h <;> omega) HF.out.2.2.1.size)
  have HB := hide hB3
  clear hall hJ3 hB3 c3
  cases b with
  | true =>
    have hg9 := HG.out.1 rfl
    subst hg9
    go_wp2_with fail
    exact bodyPost_ret_by (results_tmp2 rfl _ _ _) rfl ⟨.slice none 0 0, rfl, [], OwnPV.nil _ _, rfl, HB.out⟩
  | false =>
    have hgp := HG.out.2.1 rfl
    obtain ⟨L1, hL1⟩ : ∃ L1, L.take k = L1 := ⟨_, rfl⟩
    have hb1 : SB w3 A1 C L1 := by rw [← hL1]; exact HF.out.2.2.2.1.below HB.out
    have hl1 : L1.length = k := by rw [← hL1]; exact HG.out.2.2.1
    rw [hL1] at hgp
    obtain ⟨W4, hW4⟩ : ∃ W4, w3.alloc (.cells #[.slice A1 k C, .int .i64 4, .bool false] 183) = W4 := ⟨_, rfl⟩
    have hk4 : 4 ≤ k := by have := HK.out; omega
    have r7 : RR W4 w3.heap.size A1 C L1 (some (L1.drop 4)) := RR.new (a := 4) rfl hW4 hl1 (by omega) hb1 hk4
    have hB4 : Below w.heap.size w W4 := by rw [← hW4]; exact HB.out.alloc HB.out.size _
    have hI0 : RGI w w3.heap.size C A1 L1 (getP (L1.drop 4)) (.slice none 0 0) (L1.drop 4) [] W4 := ⟨r7, OwnPV.nil _ _, hB4, by simp, by simp; omega⟩
    have hp3 : w.heap.size ≤ w3.heap.size := HB.out.size
    have HI := hide (And.intro hI0 (And.intro hl1 hp3))
    rw [← hgp] at HI
    obtain ⟨p, hp⟩ : ∃ p, w3.heap.size = p := ⟨_, rfl⟩
    have HP := hide hp
    clear hb1 r7 hB4 hI0 hL1 hgp hl1 hp3 hp
    go_wp2
    go_loopg [8] L1.length (fun q s8 wr => ∃ M pre, M.length ≤ q ∧ RGI w w3.heap.size C A1 L1 GF s8 M pre wr)
    case atStart => exact ⟨L1.drop 4, [], by rw [List.length_drop]; omega, HI.out.1⟩
    case round =>
     obtain ⟨M, pre, hMq, hR⟩ := hrel
     obtain ⟨r1, r2, r3, r4, r5⟩ := hR
     obtain ⟨VA, VC, rfl⟩ := owns_slice r2.1
     obtain ⟨at_, ha, hM, hcell⟩ := r1.open_
     obtain ⟨c0, c1, c2, f0, f1, f2⟩ := cells3 hcell
     have hkl := HI.out.2.1
     cases M with
     | nil =>
       have hat : at_ = k := by
        have := congrArg List.length hM
        rw [List.length_drop] at this
        simp at this
        omega
       subst hat
       have hxs : pre.map (fun x : PV => x.1) = GF.getD [] := by rw [← r4, getP_nil]; simp
       have he0 : errG GF = 0 := by rw [← r4, getP_nil]; rfl
       have HX := hide (And.intro r2 (And.intro r3 (And.intro hxs he0)))
       clear r1 r2 r3 r4 r5 hM hcell hxs he0 ha
       rw [hkl] at c0
       go_wp2
       go_region
       go_wp2_with fail
       obtain ⟨x1, x2, x3, x4⟩ := HX.out
       exact bodyPost_ret_by (results_tmp2 rfl _ _ _) rfl ⟨.slice VA pre.length VC, pre, by rw [x4]; rfl, x1, x3, x2.drew⟩
     | cons t r =>
       have hlen := congrArg List.length hM
       rw [List.length_drop, List.length_cons] at hlen
       have hat : at_ < k := by omega
       have hatz : (at_ : Int) < (k : Int) := by omega
       have hat0 : (0 : Int) ≤ (at_ : Int) := by omega
       have hbl1 := r1.bl.1
       obtain ⟨bb, oo, eA, hcc⟩ := hbl1.cell (by omega)
       have ht : L1.getD at_ 0 = t := by
        have h0 : (L1.drop at_)[0]? = some t := by rw [← hM]; rfl
        rw [List.getElem?_drop, Nat.add_zero] at h0
        rw [List.getD_eq_getElem?_getD, h0]
        rfl
       have hr : r = L1.drop (at_ + 1) := by
        have h0 : (L1.drop at_).drop 1 = r := by rw [← hM]; rfl
        rw [List.drop_drop] at h0
        exact h0.symm
       have ct := hcc at_ (by omega)
       rw [ht] at ct
       have htl : t < 256 := by rw [← ht]; exact hbl1.1 at_
       have HX := hide (And.intro r1 (And.intro r2 (And.intro r3 (And.intro r4 (And.intro r5 (And.intro hcell (And.intro hr eA)))))))
       clear r1 r2 r3 r4 r5 hM hcell ht hr hcc hbl1 hlen ha
       rw [hkl] at c0
       cases gk with
       | zero => simp at hMq
       | succ q =>
       subst eA
       have k0 := cell_alloc_l (W := wr) (.cells #[.int .u8 0, .slice none 0 0] 40) c0
       have k1 := cell_alloc_l (W := wr) (.cells #[.int .u8 0, .slice none 0 0] 40) c1
       have kt := cell_alloc_l (W := wr) (.cells #[.int .u8 0, .slice none 0 0] 40) ct
       go_wp2
       go_region
       go_wp2
       go_region
       obtain ⟨W5, hW5⟩ : ∃ W5, (wr.alloc (.cells #[.int .u8 (t : Nat), .slice none 0 0] 40)).drew.drew = W5 := ⟨_, rfl⟩
       rw [hW5]
       obtain ⟨r1, r2, r3, r4, r5, hcell, hr, _⟩ := HX.out
       have hB5 : Below wr.heap.size wr W5 := by rw [← hW5]; exact (below_alloc wr _).drew.drew
       have hbox5 : W5.heap[wr.heap.size]? = some (.cells #[.int .u8 (t : Nat), .slice none 0 0] 40 (0, 0)) := by rw [← hW5]; exact heap_alloc_new _ _
       have hs5 : W5.heap.size = wr.heap.size + 1 := by rw [← hW5]; show (wr.alloc _).heap.size = _; simp
       have hcell5 := (hB5.block _ (block_lt hcell)).trans hcell
       have hM : t :: r = L1.drop at_ := by
        obtain ⟨a2, _, e2, hc2⟩ := r1.open_
        rw [hcell] at hc2
        injection hc2 with hc2
        injection hc2 with hc2 _ _
        injection hc2 with hc2
        simp at hc2
        have : at_ = a2 := by omega
        rw [this]; exact e2
       have r1' := r1.kept (Kept.of_below (F := fun _ => False) hB5) (fun h => h) (fun _ _ _ _ h => h)
       rw [hM] at r1'
       obtain ⟨rm, hkm⟩ := RR.move (m := 1) (by omega) r1' hcell5
       rw [show ((at_ + 1 : Nat) : Int) = (at_ : Int) + 1 by omega, ← hr] at rm
       rw [show ((at_ + 1 : Nat) : Int) = (at_ : Int) + 1 by omega] at hkm
       obtain ⟨W6, hW6⟩ : ∃ W6, W5.setCell ⟨w3.heap.size, 1, none⟩ (.int .i64 ((at_ : Int) + 1)) = W6 := ⟨_, rfl⟩
       rw [hW6] at rm hkm
       have hpl : w3.heap.size < wr.heap.size := block_lt hcell
       have htx := rrText_any w3.heap.size (some ⟨bb, oo, none⟩) C L1 (some r) 67108864 W6 rm (wf64 (by omega) (by omega)) (by have := HI.out.2.1; omega)
       obtain ⟨bx, S', hgt⟩ : ∃ bx S', getText 67108864 (some r) = (bx, S') := ⟨_, _, rfl⟩
       rw [hgt] at htx
       simp only at htx
       have hbox6 := hkm.heap hbox5 (by show ¬ wr.heap.size = w3.heap.size; omega)
       obtain ⟨c0', c1', c2', f0', f1', f2'⟩ := cells3 hcell5
       rw [hkl] at c0'
       have HY := hide (And.intro hB5 (And.intro hs5 (And.intro hkm (And.intro hbox6 (And.intro hM (And.intro hgt hpl))))))
       clear hB5 hbox5 hs5 hcell5 hM r1' rm hkm hpl hbox6 hgt r1 r2 r3 r4 r5 hcell hr hW5 k0 k1 kt c0 c1 c2 f0 f1 f2 ct
       go_wp2_with fail
       refine htx.mono ?_
       rintro e w7 ⟨v7, rfl, ho7, hr7, hk7⟩
       obtain ⟨A7, C7, rfl⟩ := owns_slice ho7
       obtain ⟨hB5, hs5, hkm, hbox6, hM, hgt, hpl⟩ := HY.out
       have hbox7 := hk7.heap hbox6 (by show ¬ wr.heap.size = w3.heap.size; omega)
       obtain ⟨d0, d1, i0, i1⟩ := cells2 hbox7
       obtain ⟨fl, ff⟩ := hr7.flag
       obtain ⟨W8, hW8⟩ : ∃ W8, w7.setCell ⟨wr.heap.size, 1, none⟩ (.slice A7 bx.length C7) = W8 := ⟨_, rfl⟩
       have hK8 : Kept (fun k => k = wr.heap.size) w7 W8 := by rw [← hW8]; exact (Kept.refl (fun k => k = wr.heap.size) w7).setCell (.inl rfl) _
       have hbox8 : W8.heap[wr.heap.size]? = some (.cells #[.int .u8 (t : Nat), .slice A7 bx.length C7] 40 (0, 0)) := by rw [← hW8]; exact heap_setCell_same _ _ 1 _ _ _ hbox7
       obtain ⟨fl8, ff8⟩ : W8.cell? ⟨w3.heap.size, 2, none⟩ = some (.bool S'.isNone) ∧ W8.frozen? ⟨w3.heap.size, 2, none⟩ = false := ⟨hK8.cell fl (by show ¬ w3.heap.size = wr.heap.size; omega), hK8.unfrozen fl (by show ¬ w3.heap.size = wr.heap.size; omega) ff⟩
       have HZ := hide (And.intro ho7 (And.intro hr7 (And.intro hk7 (And.intro hK8 hbox8))))
       clear ho7 hr7 hk7 hbox7 hK8 hB5 hs5 hkm hbox6 hM hgt hpl fl ff htx
       cases S' with
       | none =>
         simp only [Option.isNone_none] at fl8
         go_wp2_with fail
         obtain ⟨r1, r2, r3, r4, r5, hcell, hr, _⟩ := HX.out
         obtain ⟨hB5, hs5, hkm, hbox6, hM, hgt, hpl⟩ := HY.out
         obtain ⟨ho7, hr7, hk7, hK8, hbox8⟩ := HZ.out
         have hgn : GF = none := by
          rw [← r4, getP_bad (by simp) (by rw [getPart_text, hgt])]
          rfl
         subst hgn
         have hsz6 := hkm.size
         have hsz7 := hk7.size
         have hwr := r3.size
         have hp3 := HI.out.2.2
         have hfin : Below w.heap.size w W8 := r3.trans (((Kept.of_below (F := fun k => w.heap.size ≤ k) hB5).trans ((hkm.mono (G := fun k => w.heap.size ≤ k) (fun k _ e => by omega)).trans ((hk7.mono (G := fun k => w.heap.size ≤ k) (fun k _ e => by omega)).trans (hK8.mono (G := fun k => w.heap.size ≤ k) (fun k _ e => by omega)) (fun _ _ h => h)) (fun _ _ h => h)) (fun _ _ h => h)).below (fun _ h => h) hwr)
         exact bodyPost_ret_by (results_tmp2 rfl _ _ _) rfl ⟨.slice none 0 0, [], rfl, OwnPV.nil _ _, rfl, hfin⟩
       | some r' =>
         simp only [Option.isNone_some] at fl8
         obtain ⟨r1, r2, r3, r4, r5, hcell, hr, hA1⟩ := HX.out
         obtain ⟨hB5, hs5, hkm, hbox6, hM, hgt, hpl⟩ := HY.out
         obtain ⟨ho7, hr7, hk7, hK8, hbox8⟩ := HZ.out
         obtain ⟨i0, hi, hq0, hq1, hq2⟩ := info_parts info_part
         obtain ⟨d0, d1, j0, j1⟩ := cells2 hbox8
         have hsz6 := hkm.size
         have hsz7 := hk7.size
         have hsz8 := hK8.size
         have hwr := r3.size
         have hp3 := HI.out.2.2
         have k1 : Kept (fun k => k = w3.heap.size) wr W5 := Kept.of_below hB5
         have k2 := k1.trans hkm (fun _ _ h => h)
         have k3 := k2.trans hk7 (fun _ _ h => h)
         have k4 : Kept (fun k => k = w3.heap.size) wr W8 := k3.trans hK8 (fun k hk (e : k = wr.heap.size) => by omega)
         have o8 := r2.kept k4 (fun k e => by
          have e' : k = w3.heap.size := e
          subst e'
          exact ⟨owns_tyne r2.1 hcell (by decide), fun x hx => owns_tyne (r2.2.1 x hx).1 hcell (by decide)⟩)
         have t8 := owns_kept ho7 hK8 (fun g hg (e : g = wr.heap.size) => by subst e; exact owns_tyne ho7 (hk7.heap hbox6 (by show ¬ wr.heap.size = w3.heap.size; omega)) (by decide) hg)
         have hbw : bb < w.heap.size := HG.out.2.2.2 bb oo none rfl
         have q8 := hr7.kept hK8 (by show ¬ w3.heap.size = wr.heap.size; omega) (fun g o s e => by cases e; show ¬ bb = wr.heap.size; omega)
         have hB8 : Below w.heap.size w W8 := r3.trans (k4.below (B := w.heap.size) (fun k (e : k = w3.heap.size) => by omega) hwr)
         have hLt : ∀ b ∈ t :: r, b < 256 := fun b hb => by rw [hM] at hb; exact r1.bl.1.lt b (List.mem_of_mem_drop hb)
         have hgp : getPart (t :: r) = some ((t, bx), r') := by rw [getPart_text, hgt]
         obtain ⟨_, hokp⟩ := getPart_some hLt hgp
         have hplt := getPart_lt hgp
         rw [getP_step hgp] at r4
         obtain ⟨W9, hW9⟩ : ∃ W9, W8.alloc (.cells #[.int .u8 (t : Nat), .slice A7 bx.length C7] 40) = W9 := ⟨_, rfl⟩
         have hB9 : Below W8.heap.size W8 W9 := by rw [← hW9]; exact below_alloc _ _
         have hnw : ∀ j u, [Value.int .u8 (t : Nat), Value.slice A7 bx.length C7][j]? = some u → W9.cell? ((⟨W8.heap.size, 0, none⟩ : Addr).add j) = some u := by rw [← hW9]; exact cells_part2 _ _ _ _ _ (heap_alloc_new _ _)
         have o9 := o8.kept (Kept.of_below (F := fun _ => False) hB9) (fun _ h => h.elim)
         have hone : ∀ u ∈ [Value.int .u8 (t : Nat), Value.slice A7 bx.length C7], u.oneCell' = true := by
          intro u hu
          simp at hu
          rcases hu with rfl | rfl <;> rfl
         have hown := o9.1
         have hb9 : w.heap.size ≤ W9.heap.size := Nat.le_trans hB8.size hB9.size
         have hlow : ∀ y ∈ pre, ∀ g, y.2.ownBlock = some g → g < wr.heap.size := fun y hy g hg => (owns_cells (r2.2.1 y hy).1 g hg).1
         have hw6 : wr.heap.size ≤ W6.heap.size := by omega
         have HL := hide (And.intro hlow hw6)
         clear hlow hw6
         have HW := hide (And.intro o9 (And.intro t8 (And.intro q8 (And.intro hB8 (And.intro hB9 (And.intro hokp (And.intro hplt r4)))))))
         clear r1 r2 r3 r4 hcell hr hB5 hs5 hkm hbox6 hM hgt ho7 hr7 hk7 hK8 hbox8 k1 k2 k3 k4 o8 t8 q8 hB8 hLt hgp hokp hB9 o9
         go_wp2_with (at_builtin; go_must (refine wpList_append_keepS _ rfl (.tmp 82) (.tmp 84) 41 rfl 40 i0 (.agg #[.int .u8 0, .slice none 0 0]) 2 32 Tryz.underlying41 hi hq0 hq1 hq2 rfl (by omega) w.heap.size (.slice VA pre.length VC) pre.length (pcells pre) rfl hown ⟨W8.heap.size, 0, none⟩ 1 1 [.int .u8 (t : Nat), .slice A7 bx.length C7] rfl rfl hnw hone (by unfold maxLen; omega) (by omega) hb9 ?_); intro A9 C9 w10 hown10 hg10 _)
         obtain ⟨o9, t8, q8, hB8, hB9, hokp, hplt', r4⟩ := HW.out
         have hK10 : Kept (fun k => (Value.slice VA pre.length VC).ownBlock = some k) W8 w10 := (Kept.of_below (F := fun k => (Value.slice VA pre.length VC).ownBlock = some k) hB9).trans (hg10.kept (F := fun k => (Value.slice VA pre.length VC).ownBlock = some k) (fun _ h => h)) (fun _ _ h => h)
         have hob : ∀ g, (Value.slice VA pre.length VC).ownBlock = some g → w.heap.size ≤ g := fun g hg => (owns_cells o9.1 g hg).2.1
         have hnew : RGI w w3.heap.size C (some ⟨bb, oo, none⟩) L1 GF (.slice A9 (pre.length + 1) C9) r' (pre ++ [((t, bx), .slice A7 bx.length C7)]) w10 := by
          obtain ⟨a2, _, _, hc2⟩ := q8.open_
          refine ⟨q8.kept hK10 (fun e => ?_) (fun g o s e h => ?_), ⟨?_, ?_, ?_⟩, hB8.trans (hK10.below (B := w.heap.size) (fun k hk => hob k hk) hB8.size), ?_, ?_⟩
          ·exact owns_tyne o9.1 ((hB9.block _ (block_lt hc2)).trans hc2) (by decide) e
          ·cases e; have := hob _ h; omega
          ·rw [pcells_append, List.length_append]; exact hown10
          ·intro y hy
           rcases List.mem_append.1 hy with hy | hy
           ·exact ⟨owns_kept (o9.2.1 y hy).1 (hg10.kept (F := fun k => (Value.slice VA pre.length VC).ownBlock = some k) (fun _ h => h)) (fun g hg h => owns_apart o9.1 (o9.2.1 y hy).1 (by decide) g h hg), (o9.2.1 y hy).2⟩
           ·have hy' : y = ((t, bx), .slice A7 bx.length C7) := by simpa using hy
            subst hy'
            exact ⟨owns_lower (owns_kept t8 hK10 (fun g hg h => owns_apart o9.1 (owns_thru t8 hB9) (by decide) g h hg)) (by have := HL.out.2; omega), hokp⟩
          ·refine List.pairwise_append.2 ⟨o9.2.2, List.pairwise_singleton _ _, fun y hy z hz g hgb hgz => ?_⟩
           have hz' : z = ((t, bx), .slice A7 bx.length C7) := by simpa using hz
           subst hz'
           have h1 := (owns_cells t8 g hgz).2.1
           have h2 := HL.out.1 y hy g hgb
           have h3 := HL.out.2
           omega
          ·rw [← r4, Option.map_map]
           congr 1
           funext x
           simp
          ·rw [List.length_append, List.length_singleton]
           rw [List.length_cons] at r5 hplt'
           omega
         have HNW := hide hnew
         clear hnew hown10 hg10 hK10 hob o9 t8 q8 hB8 hB9 hokp r4 hown hnw hi hq0 hq1 hq2 hone
         go_roundg q
         case measure => omega
         case rel => exact ⟨r', _, by rw [List.length_cons] at hMq hplt'; omega, HNW.out⟩
 ·have hgn : getFile L = none := getFile_size (by rw [ht4]; omega)
  rw [hgn, show errG none = 9 from rfl]
  have HS : Hid (s1 ≠ n) := hfit
  clear hn hS b1 g1 hz1 hz2 hA hk hs1 hs2 hs3 r5 r5' r6 hB1 hB2 hBw2 hs1l ht4 hJ0 hgn hfit
  go_enter Tryz.func116, Tryz.ntmps116
  go_wp2
  refine refGS n k C w.heap.size W1.heap.size s1 s2 s3 A A1 L false _ _ _ rfl rfl rfl rfl rfl HH HS HJ.out ?_
  intro vs w3 f hall hJ3 h40
  simp only [List.foldl_cons, List.foldl_nil, List.setIfInBounds_toArray, List.set_cons_succ, List.set_cons_zero]
  rw [h40]
  have hB3 : Below w.heap.size w w3 := HF.out.2.2.1.trans (hJ3.1.below (B := w.heap.size) (fun k hk => by have := HF.out.2.2.2.2.2.1; rcases hk with h | h <;> omega) HF.out.2.2.1.size)
  have HB := hide hB3
  clear hall hJ3 hB3
  go_wp2_with fail
  exact bodyPost_ret_by (results_tmp2 rfl _ _ _) rfl ⟨.slice none 0 0, [], rfl, OwnPV.nil _ _, rfl, HB.out⟩
end Go.Proofs.YtppdbinppibjhaaGreatDoor
