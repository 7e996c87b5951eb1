/-
  slices.IndexFunc, slices.ContainsFunc at documents.
-/
import Derived.Test.YtpmldopbjlnknaaGreatDPaths
import Derived.Test.YtpmldopbjlnknaaGreatRegT
set_option maxHeartbeats 4000000
set_option maxRecDepth 100000
set_option linter.unusedVariables false
set_option linter.unusedSimpArgs false
namespace Go.Proofs.YtpmldopbjlnknaaGreat
open Go.RowKit Go.Shelf
def firstOf (p : Nat → Bool) (len : Nat) (r : Int) : Prop := (r = -1 ∧ ∀ i, i < len → p i = false) ∨ ((0 : Int) ≤ r ∧ ∃ i, i < len ∧ p i = true)
theorem firstOf_any {p : Nat → Bool} {len : Nat} {r : Int} (h : firstOf p len r) : decide ((0 : Int) ≤ r) = (List.range len).any p := by
 rcases h with ⟨rfl, h⟩ | ⟨h0, i, hi, hp⟩
 ·have : (List.range len).any p = false := by
   rw [List.any_eq_false]
   intro x hx
   rw [h x (List.mem_range.1 hx)]
   decide
  rw [this]
  rfl
 ·have : (List.range len).any p = true := List.any_eq_true.2 ⟨i, List.mem_range.2 hi, hp⟩
  rw [this]
  exact decide_eq_true h0
theorem indexFuncD_any (a : Option Addr) (len cap g : Nat) (f : Nat → DT) (p : Nat → Bool) (w : World) (hlen : len ≤ 140737488355328) (hrow : RowK w a 4 len (fun i => cellD (f i))) (eg : ∀ args w, (callFunc g args).run Tryz.prog w = .ok (.enter g args) w)
  (hp : ∀ W i, i < len → Below w.heap.size w W → Calls Tryz.prog g #[.agg #[by8 (f i).P, by8 (f i).L, .int .u32 ((f i).S : Nat), .int .i64 (f i).Z]] W fun e w' => e = .returned (.bool (p i)) ∧ Below W.heap.size W w') :
  Calls Tryz.prog 65 #[.slice a len cap, .func (.func g) #[] #[]] w fun e w' => (∃ r, e = .returned (.int .i64 r) ∧ firstOf p len r ∧ r ≤ len) ∧ Below w.heap.size w w' := by
 have HR := hide hrow
 have HP := hide hp
 clear hrow hp
 go_enter Tryz.func65, Tryz.ntmps65
 go_wp2_with fail
 go_loopg [8] len (fun q s8 wr => ∃ k : Nat, k + q = len ∧ s8 = .int .i64 k ∧ (∀ i, i < k → p i = false) ∧ Below w.heap.size w wr)
 case atStart => exact ⟨0, by omega, rfl, fun i h => by omega, Below.refl _ _⟩
 case round =>
  obtain ⟨k, hkq, rfl, hno, hB⟩ := hrel
  have HNO := hide hno
  have HB := hide hB
  clear hno
  cases gk with
  | zero =>
    obtain rfl : k = len := by omega
    clear hB
    go_wp2_with fail
    go_ret
    exact ⟨⟨_, rfl, .inl ⟨rfl, HNO.out⟩, by omega⟩, HB.out⟩
  | succ q =>
    have hkl : k < len := by omega
    have hk1 : (k : Int) < (len : Int) := by omega
    obtain ⟨b, off, rfl, q0, q1, q2, q3⟩ := (HR.out.below hB).at4 hkl
    have hc := HP.out wr k hkl hB
    clear hB
    unfold by8 at q0 q1 hc
    go_wp2_with fail
    refine hc.mono ?_
    rintro e w2 ⟨rfl, hb2⟩
    have HB2 := hide (HB.out.trans (hb2.mono HB.out.size))
    clear hc hb2 q0 q1 q2 q3
    cases hpk : p k with
    | true =>
      have H1 := hide hpk
      clear hpk
      go_wp2_with fail
      go_ret
      exact ⟨⟨_, rfl, .inr ⟨by omega, k, hkl, H1.out⟩, by omega⟩, HB2.out⟩
    | false =>
      have H1 := hide hpk
      clear hpk
      go_wp2_with fail
      go_roundg q
      case measure => omega
      case rel =>
       refine ⟨k + 1, by omega, by go_num, fun i hi => ?_, HB2.out⟩
       rcases Nat.lt_or_ge i k with h | h
       ·exact HNO.out i h
       ·obtain rfl : i = k := by omega
        exact H1.out
theorem containsFuncD_any (a : Option Addr) (len cap g : Nat) (f : Nat → DT) (p : Nat → Bool) (w : World) (hlen : len ≤ 140737488355328) (hrow : RowK w a 4 len (fun i => cellD (f i))) (eg : ∀ args w, (callFunc g args).run Tryz.prog w = .ok (.enter g args) w)
  (hp : ∀ W i, i < len → Below w.heap.size w W → Calls Tryz.prog g #[.agg #[by8 (f i).P, by8 (f i).L, .int .u32 ((f i).S : Nat), .int .i64 (f i).Z]] W fun e w' => e = .returned (.bool (p i)) ∧ Below W.heap.size W w') :
  Calls Tryz.prog 35 #[.slice a len cap, .func (.func g) #[] #[]] w fun e w' => e = .returned (.bool ((List.range len).any p)) ∧ Below w.heap.size w w' := by
 have hix := indexFuncD_any a len cap g f p w hlen hrow eg hp
 clear hrow hp eg
 go_enter Tryz.func35, Tryz.ntmps35
 go_wp2_with fail
 refine hix.mono ?_
 rintro e w2 ⟨⟨r, rfl, hr, _⟩, hb⟩
 have HR := hide (firstOf_any hr)
 have HB := hide hb
 clear hix hr hb
 go_wp2_with fail
 go_ret
 exact ⟨by rw [← HR.out]; rfl, HB.out⟩
open Go.RowKit Go.Shelf
theorem indexFuncF_any (a : Option Addr) (len cap g : Nat) (f : Nat → Fil) (p : Nat → Bool) (w : World) (hlen : len ≤ 140737488355328) (hrow : RowK w a 2 len (fun i => cellF (f i))) (eg : ∀ args w, (callFunc g args).run Tryz.prog w = .ok (.enter g args) w)
  (hp : ∀ W i, i < len → Below w.heap.size w W → Calls Tryz.prog g #[.agg #[by8 (f i).P, .slice (f i).pB (f i).B.length (f i).cB]] W fun e w' => e = .returned (.bool (p i)) ∧ Below W.heap.size W w') :
  Calls Tryz.prog 105 #[.slice a len cap, .func (.func g) #[] #[]] w fun e w' => (∃ r, e = .returned (.int .i64 r) ∧ firstOf p len r ∧ r ≤ len) ∧ Below w.heap.size w w' := by
 have HR := hide hrow
 have HP := hide hp
 clear hrow hp
 go_enter Tryz.func105, Tryz.ntmps105
 go_wp2_with fail
 go_loopg [8] len (fun q s8 wr => ∃ k : Nat, k + q = len ∧ s8 = .int .i64 k ∧ (∀ i, i < k → p i = false) ∧ Below w.heap.size w wr)
 case atStart => exact ⟨0, by omega, rfl, fun i h => by omega, Below.refl _ _⟩
 case round =>
  obtain ⟨k, hkq, rfl, hno, hB⟩ := hrel
  have HNO := hide hno
  have HB := hide hB
  clear hno
  cases gk with
  | zero =>
    obtain rfl : k = len := by omega
    clear hB
    go_wp2_with fail
    go_ret
    exact ⟨⟨_, rfl, .inl ⟨rfl, HNO.out⟩, by omega⟩, HB.out⟩
  | succ q =>
    have hkl : k < len := by omega
    have hk1 : (k : Int) < (len : Int) := by omega
    obtain ⟨b, off, rfl, q0, q1⟩ := (HR.out.below hB).at2 hkl
    have hc := HP.out wr k hkl hB
    clear hB
    unfold by8 at q0 hc
    go_wp2_with fail
    refine hc.mono ?_
    rintro e w2 ⟨rfl, hb2⟩
    have HB2 := hide (HB.out.trans (hb2.mono HB.out.size))
    clear hc hb2 q0 q1
    cases hpk : p k with
    | true =>
      have H1 := hide hpk
      clear hpk
      go_wp2_with fail
      go_ret
      exact ⟨⟨_, rfl, .inr ⟨by omega, k, hkl, H1.out⟩, by omega⟩, HB2.out⟩
    | false =>
      have H1 := hide hpk
      clear hpk
      go_wp2_with fail
      go_roundg q
      case measure => omega
      case rel =>
       refine ⟨k + 1, by omega, by go_num, fun i hi => ?_, HB2.out⟩
       rcases Nat.lt_or_ge i k with h | h
       ·exact HNO.out i h
       ·obtain rfl : i = k := by omega
        exact H1.out
theorem containsFuncF_any (a : Option Addr) (len cap g : Nat) (f : Nat → Fil) (p : Nat → Bool) (w : World) (hlen : len ≤ 140737488355328) (hrow : RowK w a 2 len (fun i => cellF (f i))) (eg : ∀ args w, (callFunc g args).run Tryz.prog w = .ok (.enter g args) w)
  (hp : ∀ W i, i < len → Below w.heap.size w W → Calls Tryz.prog g #[.agg #[by8 (f i).P, .slice (f i).pB (f i).B.length (f i).cB]] W fun e w' => e = .returned (.bool (p i)) ∧ Below W.heap.size W w') :
  Calls Tryz.prog 54 #[.slice a len cap, .func (.func g) #[] #[]] w fun e w' => e = .returned (.bool ((List.range len).any p)) ∧ Below w.heap.size w w' := by
 have hix := indexFuncF_any a len cap g f p w hlen hrow eg hp
 clear hrow hp eg
 go_enter Tryz.func54, Tryz.ntmps54
 go_wp2_with fail
 refine hix.mono ?_
 rintro e w2 ⟨⟨r, rfl, hr, _⟩, hb⟩
 have HR := hide (firstOf_any hr)
 have HB := hide hb
 clear hix hr hb
 go_wp2_with fail
 go_ret
 exact ⟨by rw [← HR.out]; rfl, HB.out⟩
open Go.RowKit Go.Shelf
abbrev dfit_o0 : Oper := ⟨some 3, .fieldAddr 47 (.tmp 1) 1, 0, "doc.go:34", #[], none⟩
abbrev dfit_o1 : Oper := ⟨some 4, .load 9 (.tmp 3), 9, "doc.go:34", #[⟨0, .data⟩], none⟩
abbrev dfit_o2 : Oper := ⟨some 5, .fieldAddr 47 (.tmp 1) 0, 0, "doc.go:34", #[], none⟩
abbrev dfit_o3 : Oper := ⟨some 6, .load 9 (.tmp 5), 9, "doc.go:34", #[⟨2, .data⟩], none⟩
abbrev dfit_o4 : Oper := ⟨some 7, .call ⟨.value (.func 32), #[.tmp 6], #[9]⟩, 9, "doc.go:34", #[⟨3, .data⟩], none⟩
abbrev dfit_o5 : Oper := ⟨some 8, .binOp .neq 9 (.tmp 4) (.tmp 7) 9, 4, "doc.go:34", #[⟨1, .data⟩, ⟨4, .data⟩], none⟩
abbrev dfit_o6 : Oper := ⟨some 9, .move (.tmp 8), 4, "doc.go:34", #[⟨5, .data⟩, ⟨4, .chain⟩], none⟩
abbrev dfit_o7 : Oper := ⟨some 10, .fieldAddr 47 (.tmp 1) 3, 0, "doc.go:34", #[⟨6, .guard⟩], some (6, false)⟩
abbrev dfit_o8 : Oper := ⟨some 11, .load 3 (.tmp 10), 3, "doc.go:34", #[⟨7, .data⟩, ⟨6, .guard⟩], some (6, false)⟩
abbrev dfit_o9 : Oper := ⟨some 12, .binOp .lss 3 (.tmp 11) (.const (.int .i64 0)) 3, 4, "doc.go:34", #[⟨8, .data⟩, ⟨6, .guard⟩], some (6, false)⟩
abbrev dfit_o10 : Oper := ⟨some 13, .pick (.tmp 9) (.const (.bool true)) (.tmp 12), 4, "doc.go:34", #[⟨6, .data⟩, ⟨9, .data⟩], none⟩
abbrev dfit_o11 : Oper := ⟨some 14, .move (.tmp 13), 4, "doc.go:34", #[⟨10, .data⟩, ⟨6, .chain⟩], none⟩
abbrev dfit_o12 : Oper := ⟨some 15, .fieldAddr 47 (.tmp 1) 3, 0, "doc.go:34", #[⟨11, .guard⟩], some (11, false)⟩
abbrev dfit_o13 : Oper := ⟨some 16, .load 3 (.tmp 15), 3, "doc.go:34", #[⟨12, .data⟩, ⟨11, .guard⟩], some (11, false)⟩
abbrev dfit_o14 : Oper := ⟨some 17, .binOp .gtr 3 (.tmp 16) (.const (.int .i64 1048576)) 3, 4, "doc.go:34", #[⟨13, .data⟩, ⟨11, .guard⟩], some (11, false)⟩
abbrev dfit_o15 : Oper := ⟨some 18, .pick (.tmp 14) (.const (.bool true)) (.tmp 17), 4, "doc.go:34", #[⟨11, .data⟩, ⟨14, .data⟩], none⟩
abbrev dfit_o16 : Oper := ⟨some 2, .assign (.tmp 18), 4, "doc.go:34", #[⟨15, .data⟩, ⟨11, .chain⟩, ⟨0, .phase⟩, ⟨1, .phase⟩, ⟨2, .phase⟩, ⟨3, .phase⟩, ⟨4, .phase⟩, ⟨5, .phase⟩, ⟨6, .phase⟩, ⟨7, .phase⟩, ⟨8, .phase⟩, ⟨9, .phase⟩, ⟨10, .phase⟩, ⟨11, .phase⟩, ⟨12, .phase⟩, ⟨13, .phase⟩, ⟨14, .phase⟩, ⟨15, .phase⟩], none⟩
def dfit_ops : Array Oper := #[dfit_o0, dfit_o1, dfit_o2, dfit_o3, dfit_o4, dfit_o5, dfit_o6, dfit_o7, dfit_o8, dfit_o9, dfit_o10, dfit_o11, dfit_o12, dfit_o13, dfit_o14, dfit_o15, dfit_o16]
abbrev dfit_mem (s : Nat) : Prop := s ∈ [3, 4, 5, 6, 7, 8, 9, 10, 11, 12, 13, 14, 15, 16, 17, 18, 2]
theorem dfit_slots : ∀ j, j < 17 → dfit_mem (slotOf dfit_ops j) := by
 intro j hj
 match j, hj with
 | 0, _ => exact (by decide : dfit_mem 3)
 | 1, _ => exact (by decide : dfit_mem 4)
 | 2, _ => exact (by decide : dfit_mem 5)
 | 3, _ => exact (by decide : dfit_mem 6)
 | 4, _ => exact (by decide : dfit_mem 7)
 | 5, _ => exact (by decide : dfit_mem 8)
 | 6, _ => exact (by decide : dfit_mem 9)
 | 7, _ => exact (by decide : dfit_mem 10)
 | 8, _ => exact (by decide : dfit_mem 11)
 | 9, _ => exact (by decide : dfit_mem 12)
 | 10, _ => exact (by decide : dfit_mem 13)
 | 11, _ => exact (by decide : dfit_mem 14)
 | 12, _ => exact (by decide : dfit_mem 15)
 | 13, _ => exact (by decide : dfit_mem 16)
 | 14, _ => exact (by decide : dfit_mem 17)
 | 15, _ => exact (by decide : dfit_mem 18)
 | 16, _ => exact (by decide : dfit_mem 2)
 | k + 17, hj => omega
def dfit_val (b1 : Nat) (d : DT) (l : List UInt8) (c1 c2 c3 : Bool) : Nat → Value → World → Prop
 | 0, v, w => v = .pointer (some ⟨b1, 1, none⟩)
 | 1, v, w => v = by8 d.L
 | 2, v, w => v = .pointer (some ⟨b1, 0, none⟩)
 | 3, v, w => v = by8 d.P
 | 4, v, w => v = by8 l
 | 5, v, w => v = .bool c1
 | 6, v, w => v = .bool c1
 | 7, v, w => v = (if (!(c1)) = true then .pointer (some ⟨b1, 3, none⟩) else undef)
 | 8, v, w => v = (if (!(c1)) = true then .int .i64 d.Z else undef)
 | 9, v, w => v = (if (!(c1)) = true then .bool c2 else undef)
 | 10, v, w => v = .bool (c1 || c2)
 | 11, v, w => v = .bool (c1 || c2)
 | 12, v, w => v = (if (!((c1 || c2))) = true then .pointer (some ⟨b1, 3, none⟩) else undef)
 | 13, v, w => v = (if (!((c1 || c2))) = true then .int .i64 d.Z else undef)
 | 14, v, w => v = (if (!((c1 || c2))) = true then .bool c3 else undef)
 | 15, v, w => v = .bool ((c1 || c2) || c3)
 | 16, v, w => v = .bool ((c1 || c2) || c3)
 | _, _, _ => True
theorem dfit_below (b1 : Nat) (d : DT) (l : List UInt8) (c1 c2 c3 : Bool) (w w' : World) (hb : Below w.heap.size w w') : ∀ j v, dfit_val b1 d l c1 c2 c3 j v w → dfit_val b1 d l c1 c2 c3 j v w' := by
 intro j v h
 match j, h with
 | 0, h | 1, h | 2, h | 3, h | 4, h | 5, h | 6, h | 7, h | 8, h | 9, h | 10, h | 11, h | 12, h | 13, h | 14, h | 15, h | 16, h => exact h
 | _ + 17, h => exact h
theorem dfit_s0 {Fc : Fence} (hF : Wide Fc) {nC : Nat} (b1 : Nat) (d : DT) (l : List UInt8) (c1 c2 c3 : Bool) (Q : Exit → Act → World → Prop) (df : List Deferred) (w0 : World)
  (h0 : w0.cell? ⟨b1, 0, none⟩ = some (by8 d.P)) (h1 : w0.cell? ⟨b1, 1, none⟩ = some (by8 d.L)) (h3 : w0.cell? ⟨b1, 3, none⟩ = some (.int .i64 d.Z)) (hp : d.P.length ≤ 1000000) (hl : ofL d.P = l) (hc1 : (!(d.L == l)) = c1) (hc2 : decide (d.Z < 0) = c2) (hc3 : decide ((1048576 : Int) < d.Z) = c3)
  (x : Act) (w : World) (hB : Below w0.heap.size w0 w) (hdef : x.defers = df) (u1 : x.tmps.getD 1 undef = .pointer (some ⟨b1, 0, none⟩))
  : wpOpIn Fc nC Tryz.prog dfit_ops Q 0 (fun a' w' => ∃ v, a' = x.put (some 3) v ∧ (v = .pointer (some ⟨b1, 1, none⟩)) ∧ Below w.heap.size w w') x w := by
 have ho : dfit_ops[0]? = some dfit_o0 := rfl
 simp only [Array.getD_eq_getD_getElem?] at u1
 refine wpOpIn_plain ho rfl (oper_inK hF.fn (fun K hK => ?_))
 clear ho
 rw [Oper.semAt_plain Fc _ _ (by intro c h; cases h)]
 simp only [dfit_o0]
 go_simp
 exact hK _ _ ⟨_, act_putD x hdef _ _, rfl, Below.refl _ _⟩
theorem dfit_s1 {Fc : Fence} (hF : Wide Fc) {nC : Nat} (b1 : Nat) (d : DT) (l : List UInt8) (c1 c2 c3 : Bool) (Q : Exit → Act → World → Prop) (df : List Deferred) (w0 : World)
  (h0 : w0.cell? ⟨b1, 0, none⟩ = some (by8 d.P)) (h1 : w0.cell? ⟨b1, 1, none⟩ = some (by8 d.L)) (h3 : w0.cell? ⟨b1, 3, none⟩ = some (.int .i64 d.Z)) (hp : d.P.length ≤ 1000000) (hl : ofL d.P = l) (hc1 : (!(d.L == l)) = c1) (hc2 : decide (d.Z < 0) = c2) (hc3 : decide ((1048576 : Int) < d.Z) = c3)
  (x : Act) (w : World) (hB : Below w0.heap.size w0 w) (hdef : x.defers = df) (u1 : x.tmps.getD 1 undef = .pointer (some ⟨b1, 0, none⟩))
  (p0 : dfit_val b1 d l c1 c2 c3 0 (x.tmps.getD 3 undef) w)
  : wpOpIn Fc nC Tryz.prog dfit_ops Q 1 (fun a' w' => ∃ v, a' = x.put (some 4) v ∧ (v = by8 d.L) ∧ Below w.heap.size w w') x w := by
 have ho : dfit_ops[1]? = some dfit_o1 := rfl
 simp only [Array.getD_eq_getD_getElem?] at u1
 have q0 : x.tmps.getD 3 undef = .pointer (some ⟨b1, 1, none⟩) := p0
 simp only [Array.getD_eq_getD_getElem?] at q0
 have m := cell_thru h1 hB
 refine wpOpIn_plain ho rfl (oper_inK hF.fn (fun K hK => ?_))
 clear ho
 rw [Oper.semAt_plain Fc _ _ (by intro c h; cases h)]
 simp only [dfit_o1]
 go_simp
 exact hK _ _ ⟨_, act_putD x hdef _ _, rfl, Below.refl _ _⟩
theorem dfit_s2 {Fc : Fence} (hF : Wide Fc) {nC : Nat} (b1 : Nat) (d : DT) (l : List UInt8) (c1 c2 c3 : Bool) (Q : Exit → Act → World → Prop) (df : List Deferred) (w0 : World)
  (h0 : w0.cell? ⟨b1, 0, none⟩ = some (by8 d.P)) (h1 : w0.cell? ⟨b1, 1, none⟩ = some (by8 d.L)) (h3 : w0.cell? ⟨b1, 3, none⟩ = some (.int .i64 d.Z)) (hp : d.P.length ≤ 1000000) (hl : ofL d.P = l) (hc1 : (!(d.L == l)) = c1) (hc2 : decide (d.Z < 0) = c2) (hc3 : decide ((1048576 : Int) < d.Z) = c3)
  (x : Act) (w : World) (hB : Below w0.heap.size w0 w) (hdef : x.defers = df) (u1 : x.tmps.getD 1 undef = .pointer (some ⟨b1, 0, none⟩))
  : wpOpIn Fc nC Tryz.prog dfit_ops Q 2 (fun a' w' => ∃ v, a' = x.put (some 5) v ∧ (v = .pointer (some ⟨b1, 0, none⟩)) ∧ Below w.heap.size w w') x w := by
 have ho : dfit_ops[2]? = some dfit_o2 := rfl
 simp only [Array.getD_eq_getD_getElem?] at u1
 refine wpOpIn_plain ho rfl (oper_inK hF.fn (fun K hK => ?_))
 clear ho
 rw [Oper.semAt_plain Fc _ _ (by intro c h; cases h)]
 simp only [dfit_o2]
 go_simp
 exact hK _ _ ⟨_, act_putD x hdef _ _, rfl, Below.refl _ _⟩
theorem dfit_s3 {Fc : Fence} (hF : Wide Fc) {nC : Nat} (b1 : Nat) (d : DT) (l : List UInt8) (c1 c2 c3 : Bool) (Q : Exit → Act → World → Prop) (df : List Deferred) (w0 : World)
  (h0 : w0.cell? ⟨b1, 0, none⟩ = some (by8 d.P)) (h1 : w0.cell? ⟨b1, 1, none⟩ = some (by8 d.L)) (h3 : w0.cell? ⟨b1, 3, none⟩ = some (.int .i64 d.Z)) (hp : d.P.length ≤ 1000000) (hl : ofL d.P = l) (hc1 : (!(d.L == l)) = c1) (hc2 : decide (d.Z < 0) = c2) (hc3 : decide ((1048576 : Int) < d.Z) = c3)
  (x : Act) (w : World) (hB : Below w0.heap.size w0 w) (hdef : x.defers = df) (u1 : x.tmps.getD 1 undef = .pointer (some ⟨b1, 0, none⟩))
  (p2 : dfit_val b1 d l c1 c2 c3 2 (x.tmps.getD 5 undef) w)
  : wpOpIn Fc nC Tryz.prog dfit_ops Q 3 (fun a' w' => ∃ v, a' = x.put (some 6) v ∧ (v = by8 d.P) ∧ Below w.heap.size w w') x w := by
 have ho : dfit_ops[3]? = some dfit_o3 := rfl
 simp only [Array.getD_eq_getD_getElem?] at u1
 have q2 : x.tmps.getD 5 undef = .pointer (some ⟨b1, 0, none⟩) := p2
 simp only [Array.getD_eq_getD_getElem?] at q2
 have m := cell_thru h0 hB
 refine wpOpIn_plain ho rfl (oper_inK hF.fn (fun K hK => ?_))
 clear ho
 rw [Oper.semAt_plain Fc _ _ (by intro c h; cases h)]
 simp only [dfit_o3]
 go_simp
 exact hK _ _ ⟨_, act_putD x hdef _ _, rfl, Below.refl _ _⟩
theorem dfit_s4 {Fc : Fence} (hF : Wide Fc) {nC : Nat} (b1 : Nat) (d : DT) (l : List UInt8) (c1 c2 c3 : Bool) (Q : Exit → Act → World → Prop) (df : List Deferred) (w0 : World)
  (h0 : w0.cell? ⟨b1, 0, none⟩ = some (by8 d.P)) (h1 : w0.cell? ⟨b1, 1, none⟩ = some (by8 d.L)) (h3 : w0.cell? ⟨b1, 3, none⟩ = some (.int .i64 d.Z)) (hp : d.P.length ≤ 1000000) (hl : ofL d.P = l) (hc1 : (!(d.L == l)) = c1) (hc2 : decide (d.Z < 0) = c2) (hc3 : decide ((1048576 : Int) < d.Z) = c3)
  (x : Act) (w : World) (hB : Below w0.heap.size w0 w) (hdef : x.defers = df) (u1 : x.tmps.getD 1 undef = .pointer (some ⟨b1, 0, none⟩))
  (p3 : dfit_val b1 d l c1 c2 c3 3 (x.tmps.getD 6 undef) w)
  : wpOpIn Fc nC Tryz.prog dfit_ops Q 4 (fun a' w' => ∃ v, a' = x.put (some 7) v ∧ (v = by8 l) ∧ Below w.heap.size w w') x w := by
 have ho : dfit_ops[4]? = some dfit_o4 := rfl
 simp only [Array.getD_eq_getD_getElem?] at u1
 have q3 : x.tmps.getD 6 undef = by8 d.P := p3
 simp only [Array.getD_eq_getD_getElem?] at q3
 refine wpOpIn_plain ho rfl (oper_inK hF.fn (fun K hK => ?_))
 clear ho
 rw [Oper.semAt_plain Fc _ _ (by intro c h; cases h)]
 simp only [dfit_o4]
 go_simp
 refine ⟨hF.deep, (hF.call (of_any d.P w hp)).mono ?_⟩
 rintro e w' ⟨rfl, hb⟩
 exact hK _ _ ⟨_, act_putD x hdef _ _, by rw [hl], hb⟩
theorem dfit_s5 {Fc : Fence} (hF : Wide Fc) {nC : Nat} (b1 : Nat) (d : DT) (l : List UInt8) (c1 c2 c3 : Bool) (Q : Exit → Act → World → Prop) (df : List Deferred) (w0 : World)
  (h0 : w0.cell? ⟨b1, 0, none⟩ = some (by8 d.P)) (h1 : w0.cell? ⟨b1, 1, none⟩ = some (by8 d.L)) (h3 : w0.cell? ⟨b1, 3, none⟩ = some (.int .i64 d.Z)) (hp : d.P.length ≤ 1000000) (hl : ofL d.P = l) (hc1 : (!(d.L == l)) = c1) (hc2 : decide (d.Z < 0) = c2) (hc3 : decide ((1048576 : Int) < d.Z) = c3)
  (x : Act) (w : World) (hB : Below w0.heap.size w0 w) (hdef : x.defers = df) (u1 : x.tmps.getD 1 undef = .pointer (some ⟨b1, 0, none⟩))
  (p1 : dfit_val b1 d l c1 c2 c3 1 (x.tmps.getD 4 undef) w)
  (p4 : dfit_val b1 d l c1 c2 c3 4 (x.tmps.getD 7 undef) w)
  : wpOpIn Fc nC Tryz.prog dfit_ops Q 5 (fun a' w' => ∃ v, a' = x.put (some 8) v ∧ (v = .bool c1) ∧ Below w.heap.size w w') x w := by
 have ho : dfit_ops[5]? = some dfit_o5 := rfl
 simp only [Array.getD_eq_getD_getElem?] at u1
 have q1 : x.tmps.getD 4 undef = by8 d.L := p1
 have q4 : x.tmps.getD 7 undef = by8 l := p4
 simp only [Array.getD_eq_getD_getElem?] at q1 q4
 have m := hc1
 unfold by8 at *
 refine wpOpIn_plain ho rfl (oper_inK hF.fn (fun K hK => ?_))
 clear ho
 rw [Oper.semAt_plain Fc _ _ (by intro c h; cases h)]
 simp only [dfit_o5]
 go_simp
 exact hK _ _ ⟨_, act_putD x hdef _ _, rfl, Below.refl _ _⟩
theorem dfit_s6 {Fc : Fence} (hF : Wide Fc) {nC : Nat} (b1 : Nat) (d : DT) (l : List UInt8) (c1 c2 c3 : Bool) (Q : Exit → Act → World → Prop) (df : List Deferred) (w0 : World)
  (h0 : w0.cell? ⟨b1, 0, none⟩ = some (by8 d.P)) (h1 : w0.cell? ⟨b1, 1, none⟩ = some (by8 d.L)) (h3 : w0.cell? ⟨b1, 3, none⟩ = some (.int .i64 d.Z)) (hp : d.P.length ≤ 1000000) (hl : ofL d.P = l) (hc1 : (!(d.L == l)) = c1) (hc2 : decide (d.Z < 0) = c2) (hc3 : decide ((1048576 : Int) < d.Z) = c3)
  (x : Act) (w : World) (hB : Below w0.heap.size w0 w) (hdef : x.defers = df) (u1 : x.tmps.getD 1 undef = .pointer (some ⟨b1, 0, none⟩))
  (p5 : dfit_val b1 d l c1 c2 c3 5 (x.tmps.getD 8 undef) w)
  : wpOpIn Fc nC Tryz.prog dfit_ops Q 6 (fun a' w' => ∃ v, a' = x.put (some 9) v ∧ (v = .bool c1) ∧ Below w.heap.size w w') x w := by
 have ho : dfit_ops[6]? = some dfit_o6 := rfl
 simp only [Array.getD_eq_getD_getElem?] at u1
 have q5 : x.tmps.getD 8 undef = .bool c1 := p5
 simp only [Array.getD_eq_getD_getElem?] at q5
 refine wpOpIn_plain ho rfl (oper_inK hF.fn (fun K hK => ?_))
 clear ho
 rw [Oper.semAt_plain Fc _ _ (by intro c h; cases h)]
 simp only [dfit_o6]
 go_simp
 exact hK _ _ ⟨_, act_putD x hdef _ _, rfl, Below.refl _ _⟩
theorem dfit_s7 {Fc : Fence} (hF : Wide Fc) {nC : Nat} (b1 : Nat) (d : DT) (l : List UInt8) (c1 c2 c3 : Bool) (Q : Exit → Act → World → Prop) (df : List Deferred) (w0 : World)
  (h0 : w0.cell? ⟨b1, 0, none⟩ = some (by8 d.P)) (h1 : w0.cell? ⟨b1, 1, none⟩ = some (by8 d.L)) (h3 : w0.cell? ⟨b1, 3, none⟩ = some (.int .i64 d.Z)) (hp : d.P.length ≤ 1000000) (hl : ofL d.P = l) (hc1 : (!(d.L == l)) = c1) (hc2 : decide (d.Z < 0) = c2) (hc3 : decide ((1048576 : Int) < d.Z) = c3)
  (x : Act) (w : World) (hB : Below w0.heap.size w0 w) (hdef : x.defers = df) (u1 : x.tmps.getD 1 undef = .pointer (some ⟨b1, 0, none⟩))
  (p6 : dfit_val b1 d l c1 c2 c3 6 (x.tmps.getD 9 undef) w)
  : wpOpIn Fc nC Tryz.prog dfit_ops Q 7 (fun a' w' => ∃ v, a' = x.put (some 10) v ∧ (v = (if (!(c1)) = true then .pointer (some ⟨b1, 3, none⟩) else undef)) ∧ Below w.heap.size w w') x w := by
 have ho : dfit_ops[7]? = some dfit_o7 := rfl
 simp only [Array.getD_eq_getD_getElem?] at u1
 have q6 : x.tmps.getD 9 undef = .bool c1 := p6
 simp only [Array.getD_eq_getD_getElem?] at q6
 cases c1 <;> cases c2
 all_goals
  simp only [Bool.or_true, Bool.true_or, Bool.or_false, Bool.false_or, Bool.and_true, Bool.true_and, Bool.and_false, Bool.false_and, Bool.not_true, Bool.not_false, beqB, neqB, if_true, if_false, Bool.false_eq_true, reduceIte] at q6 ⊢
  have e6 : (dfit_ops[6]?.bind fun x => x.dst) = some 9 := rfl
  have g6 := get_someT q6 (fun h => by cases h)
  refine wpOpIn_stepT hF ho (fun K hK => ?_)
  clear ho
  rw [Oper.semAt_plain Fc _ _ (by intro c h; cases h)]
  simp only [dfit_o7]
  go_simp
  exact hK _ _ ⟨_, act_putD x hdef _ _, rfl, Below.refl _ _⟩
theorem dfit_s8 {Fc : Fence} (hF : Wide Fc) {nC : Nat} (b1 : Nat) (d : DT) (l : List UInt8) (c1 c2 c3 : Bool) (Q : Exit → Act → World → Prop) (df : List Deferred) (w0 : World)
  (h0 : w0.cell? ⟨b1, 0, none⟩ = some (by8 d.P)) (h1 : w0.cell? ⟨b1, 1, none⟩ = some (by8 d.L)) (h3 : w0.cell? ⟨b1, 3, none⟩ = some (.int .i64 d.Z)) (hp : d.P.length ≤ 1000000) (hl : ofL d.P = l) (hc1 : (!(d.L == l)) = c1) (hc2 : decide (d.Z < 0) = c2) (hc3 : decide ((1048576 : Int) < d.Z) = c3)
  (x : Act) (w : World) (hB : Below w0.heap.size w0 w) (hdef : x.defers = df) (u1 : x.tmps.getD 1 undef = .pointer (some ⟨b1, 0, none⟩))
  (p7 : dfit_val b1 d l c1 c2 c3 7 (x.tmps.getD 10 undef) w)
  (p6 : dfit_val b1 d l c1 c2 c3 6 (x.tmps.getD 9 undef) w)
  : wpOpIn Fc nC Tryz.prog dfit_ops Q 8 (fun a' w' => ∃ v, a' = x.put (some 11) v ∧ (v = (if (!(c1)) = true then .int .i64 d.Z else undef)) ∧ Below w.heap.size w w') x w := by
 have ho : dfit_ops[8]? = some dfit_o8 := rfl
 simp only [Array.getD_eq_getD_getElem?] at u1
 have q7 : x.tmps.getD 10 undef = (if (!(c1)) = true then .pointer (some ⟨b1, 3, none⟩) else undef) := p7
 have q6 : x.tmps.getD 9 undef = .bool c1 := p6
 simp only [Array.getD_eq_getD_getElem?] at q7 q6
 cases c1 <;> cases c2
 all_goals
  simp only [Bool.or_true, Bool.true_or, Bool.or_false, Bool.false_or, Bool.and_true, Bool.true_and, Bool.and_false, Bool.false_and, Bool.not_true, Bool.not_false, beqB, neqB, if_true, if_false, Bool.false_eq_true, reduceIte] at q7 q6 ⊢
  have e6 : (dfit_ops[6]?.bind fun x => x.dst) = some 9 := rfl
  have g6 := get_someT q6 (fun h => by cases h)
  have m := cell_thru h3 hB
  refine wpOpIn_stepT hF ho (fun K hK => ?_)
  clear ho
  rw [Oper.semAt_plain Fc _ _ (by intro c h; cases h)]
  simp only [dfit_o8]
  go_simp
  exact hK _ _ ⟨_, act_putD x hdef _ _, rfl, Below.refl _ _⟩
theorem dfit_s9 {Fc : Fence} (hF : Wide Fc) {nC : Nat} (b1 : Nat) (d : DT) (l : List UInt8) (c1 c2 c3 : Bool) (Q : Exit → Act → World → Prop) (df : List Deferred) (w0 : World)
  (h0 : w0.cell? ⟨b1, 0, none⟩ = some (by8 d.P)) (h1 : w0.cell? ⟨b1, 1, none⟩ = some (by8 d.L)) (h3 : w0.cell? ⟨b1, 3, none⟩ = some (.int .i64 d.Z)) (hp : d.P.length ≤ 1000000) (hl : ofL d.P = l) (hc1 : (!(d.L == l)) = c1) (hc2 : decide (d.Z < 0) = c2) (hc3 : decide ((1048576 : Int) < d.Z) = c3)
  (x : Act) (w : World) (hB : Below w0.heap.size w0 w) (hdef : x.defers = df) (u1 : x.tmps.getD 1 undef = .pointer (some ⟨b1, 0, none⟩))
  (p8 : dfit_val b1 d l c1 c2 c3 8 (x.tmps.getD 11 undef) w)
  (p6 : dfit_val b1 d l c1 c2 c3 6 (x.tmps.getD 9 undef) w)
  : wpOpIn Fc nC Tryz.prog dfit_ops Q 9 (fun a' w' => ∃ v, a' = x.put (some 12) v ∧ (v = (if (!(c1)) = true then .bool c2 else undef)) ∧ Below w.heap.size w w') x w := by
 have ho : dfit_ops[9]? = some dfit_o9 := rfl
 simp only [Array.getD_eq_getD_getElem?] at u1
 have q8 : x.tmps.getD 11 undef = (if (!(c1)) = true then .int .i64 d.Z else undef) := p8
 have q6 : x.tmps.getD 9 undef = .bool c1 := p6
 simp only [Array.getD_eq_getD_getElem?] at q8 q6
 cases c1 <;> cases c2
 all_goals
  simp only [Bool.or_true, Bool.true_or, Bool.or_false, Bool.false_or, Bool.and_true, Bool.true_and, Bool.and_false, Bool.false_and, Bool.not_true, Bool.not_false, beqB, neqB, if_true, if_false, Bool.false_eq_true, reduceIte] at q8 q6 ⊢
  have e6 : (dfit_ops[6]?.bind fun x => x.dst) = some 9 := rfl
  have g6 := get_someT q6 (fun h => by cases h)
  have m := hc2
  refine wpOpIn_stepT hF ho (fun K hK => ?_)
  clear ho
  rw [Oper.semAt_plain Fc _ _ (by intro c h; cases h)]
  simp only [dfit_o9]
  go_simp
  exact hK _ _ ⟨_, act_putD x hdef _ _, rfl, Below.refl _ _⟩
theorem dfit_s10 {Fc : Fence} (hF : Wide Fc) {nC : Nat} (b1 : Nat) (d : DT) (l : List UInt8) (c1 c2 c3 : Bool) (Q : Exit → Act → World → Prop) (df : List Deferred) (w0 : World)
  (h0 : w0.cell? ⟨b1, 0, none⟩ = some (by8 d.P)) (h1 : w0.cell? ⟨b1, 1, none⟩ = some (by8 d.L)) (h3 : w0.cell? ⟨b1, 3, none⟩ = some (.int .i64 d.Z)) (hp : d.P.length ≤ 1000000) (hl : ofL d.P = l) (hc1 : (!(d.L == l)) = c1) (hc2 : decide (d.Z < 0) = c2) (hc3 : decide ((1048576 : Int) < d.Z) = c3)
  (x : Act) (w : World) (hB : Below w0.heap.size w0 w) (hdef : x.defers = df) (u1 : x.tmps.getD 1 undef = .pointer (some ⟨b1, 0, none⟩))
  (p6 : dfit_val b1 d l c1 c2 c3 6 (x.tmps.getD 9 undef) w)
  (p9 : dfit_val b1 d l c1 c2 c3 9 (x.tmps.getD 12 undef) w)
  : wpOpIn Fc nC Tryz.prog dfit_ops Q 10 (fun a' w' => ∃ v, a' = x.put (some 13) v ∧ (v = .bool (c1 || c2)) ∧ Below w.heap.size w w') x w := by
 have ho : dfit_ops[10]? = some dfit_o10 := rfl
 simp only [Array.getD_eq_getD_getElem?] at u1
 have q6 : x.tmps.getD 9 undef = .bool c1 := p6
 have q9 : x.tmps.getD 12 undef = (if (!(c1)) = true then .bool c2 else undef) := p9
 simp only [Array.getD_eq_getD_getElem?] at q6 q9
 cases c1 <;> cases c2
 all_goals
  simp only [Bool.or_true, Bool.true_or, Bool.or_false, Bool.false_or, Bool.and_true, Bool.true_and, Bool.and_false, Bool.false_and, Bool.not_true, Bool.not_false, beqB, neqB, if_true, if_false, Bool.false_eq_true, reduceIte] at q6 q9 ⊢
  refine wpOpIn_plain ho rfl (oper_inK hF.fn (fun K hK => ?_))
  clear ho
  rw [Oper.semAt_plain Fc _ _ (by intro c h; cases h)]
  simp only [dfit_o10]
  go_simp
  exact hK _ _ ⟨_, act_putD x hdef _ _, rfl, Below.refl _ _⟩
theorem dfit_s11 {Fc : Fence} (hF : Wide Fc) {nC : Nat} (b1 : Nat) (d : DT) (l : List UInt8) (c1 c2 c3 : Bool) (Q : Exit → Act → World → Prop) (df : List Deferred) (w0 : World)
  (h0 : w0.cell? ⟨b1, 0, none⟩ = some (by8 d.P)) (h1 : w0.cell? ⟨b1, 1, none⟩ = some (by8 d.L)) (h3 : w0.cell? ⟨b1, 3, none⟩ = some (.int .i64 d.Z)) (hp : d.P.length ≤ 1000000) (hl : ofL d.P = l) (hc1 : (!(d.L == l)) = c1) (hc2 : decide (d.Z < 0) = c2) (hc3 : decide ((1048576 : Int) < d.Z) = c3)
  (x : Act) (w : World) (hB : Below w0.heap.size w0 w) (hdef : x.defers = df) (u1 : x.tmps.getD 1 undef = .pointer (some ⟨b1, 0, none⟩))
  (p10 : dfit_val b1 d l c1 c2 c3 10 (x.tmps.getD 13 undef) w)
  : wpOpIn Fc nC Tryz.prog dfit_ops Q 11 (fun a' w' => ∃ v, a' = x.put (some 14) v ∧ (v = .bool (c1 || c2)) ∧ Below w.heap.size w w') x w := by
 have ho : dfit_ops[11]? = some dfit_o11 := rfl
 simp only [Array.getD_eq_getD_getElem?] at u1
 have q10 : x.tmps.getD 13 undef = .bool (c1 || c2) := p10
 simp only [Array.getD_eq_getD_getElem?] at q10
 refine wpOpIn_plain ho rfl (oper_inK hF.fn (fun K hK => ?_))
 clear ho
 rw [Oper.semAt_plain Fc _ _ (by intro c h; cases h)]
 simp only [dfit_o11]
 go_simp
 exact hK _ _ ⟨_, act_putD x hdef _ _, rfl, Below.refl _ _⟩
theorem dfit_s12 {Fc : Fence} (hF : Wide Fc) {nC : Nat} (b1 : Nat) (d : DT) (l : List UInt8) (c1 c2 c3 : Bool) (Q : Exit → Act → World → Prop) (df : List Deferred) (w0 : World)
  (h0 : w0.cell? ⟨b1, 0, none⟩ = some (by8 d.P)) (h1 : w0.cell? ⟨b1, 1, none⟩ = some (by8 d.L)) (h3 : w0.cell? ⟨b1, 3, none⟩ = some (.int .i64 d.Z)) (hp : d.P.length ≤ 1000000) (hl : ofL d.P = l) (hc1 : (!(d.L == l)) = c1) (hc2 : decide (d.Z < 0) = c2) (hc3 : decide ((1048576 : Int) < d.Z) = c3)
  (x : Act) (w : World) (hB : Below w0.heap.size w0 w) (hdef : x.defers = df) (u1 : x.tmps.getD 1 undef = .pointer (some ⟨b1, 0, none⟩))
  (p11 : dfit_val b1 d l c1 c2 c3 11 (x.tmps.getD 14 undef) w)
  : wpOpIn Fc nC Tryz.prog dfit_ops Q 12 (fun a' w' => ∃ v, a' = x.put (some 15) v ∧ (v = (if (!((c1 || c2))) = true then .pointer (some ⟨b1, 3, none⟩) else undef)) ∧ Below w.heap.size w w') x w := by
 have ho : dfit_ops[12]? = some dfit_o12 := rfl
 simp only [Array.getD_eq_getD_getElem?] at u1
 have q11 : x.tmps.getD 14 undef = .bool (c1 || c2) := p11
 simp only [Array.getD_eq_getD_getElem?] at q11
 cases c1 <;> cases c2
 all_goals
  simp only [Bool.or_true, Bool.true_or, Bool.or_false, Bool.false_or, Bool.and_true, Bool.true_and, Bool.and_false, Bool.false_and, Bool.not_true, Bool.not_false, beqB, neqB, if_true, if_false, Bool.false_eq_true, reduceIte] at q11 ⊢
  have e11 : (dfit_ops[11]?.bind fun x => x.dst) = some 14 := rfl
  have g11 := get_someT q11 (fun h => by cases h)
  refine wpOpIn_stepT hF ho (fun K hK => ?_)
  clear ho
  rw [Oper.semAt_plain Fc _ _ (by intro c h; cases h)]
  simp only [dfit_o12]
  go_simp
  exact hK _ _ ⟨_, act_putD x hdef _ _, rfl, Below.refl _ _⟩
theorem dfit_s13 {Fc : Fence} (hF : Wide Fc) {nC : Nat} (b1 : Nat) (d : DT) (l : List UInt8) (c1 c2 c3 : Bool) (Q : Exit → Act → World → Prop) (df : List Deferred) (w0 : World)
  (h0 : w0.cell? ⟨b1, 0, none⟩ = some (by8 d.P)) (h1 : w0.cell? ⟨b1, 1, none⟩ = some (by8 d.L)) (h3 : w0.cell? ⟨b1, 3, none⟩ = some (.int .i64 d.Z)) (hp : d.P.length ≤ 1000000) (hl : ofL d.P = l) (hc1 : (!(d.L == l)) = c1) (hc2 : decide (d.Z < 0) = c2) (hc3 : decide ((1048576 : Int) < d.Z) = c3)
  (x : Act) (w : World) (hB : Below w0.heap.size w0 w) (hdef : x.defers = df) (u1 : x.tmps.getD 1 undef = .pointer (some ⟨b1, 0, none⟩))
  (p12 : dfit_val b1 d l c1 c2 c3 12 (x.tmps.getD 15 undef) w)
  (p11 : dfit_val b1 d l c1 c2 c3 11 (x.tmps.getD 14 undef) w)
  : wpOpIn Fc nC Tryz.prog dfit_ops Q 13 (fun a' w' => ∃ v, a' = x.put (some 16) v ∧ (v = (if (!((c1 || c2))) = true then .int .i64 d.Z else undef)) ∧ Below w.heap.size w w') x w := by
 have ho : dfit_ops[13]? = some dfit_o13 := rfl
 simp only [Array.getD_eq_getD_getElem?] at u1
 have q12 : x.tmps.getD 15 undef = (if (!((c1 || c2))) = true then .pointer (some ⟨b1, 3, none⟩) else undef) := p12
 have q11 : x.tmps.getD 14 undef = .bool (c1 || c2) := p11
 simp only [Array.getD_eq_getD_getElem?] at q12 q11
 cases c1 <;> cases c2
 all_goals
  simp only [Bool.or_true, Bool.true_or, Bool.or_false, Bool.false_or, Bool.and_true, Bool.true_and, Bool.and_false, Bool.false_and, Bool.not_true, Bool.not_false, beqB, neqB, if_true, if_false, Bool.false_eq_true, reduceIte] at q12 q11 ⊢
  have e11 : (dfit_ops[11]?.bind fun x => x.dst) = some 14 := rfl
  have g11 := get_someT q11 (fun h => by cases h)
  have m := cell_thru h3 hB
  refine wpOpIn_stepT hF ho (fun K hK => ?_)
  clear ho
  rw [Oper.semAt_plain Fc _ _ (by intro c h; cases h)]
  simp only [dfit_o13]
  go_simp
  exact hK _ _ ⟨_, act_putD x hdef _ _, rfl, Below.refl _ _⟩
theorem dfit_s14 {Fc : Fence} (hF : Wide Fc) {nC : Nat} (b1 : Nat) (d : DT) (l : List UInt8) (c1 c2 c3 : Bool) (Q : Exit → Act → World → Prop) (df : List Deferred) (w0 : World)
  (h0 : w0.cell? ⟨b1, 0, none⟩ = some (by8 d.P)) (h1 : w0.cell? ⟨b1, 1, none⟩ = some (by8 d.L)) (h3 : w0.cell? ⟨b1, 3, none⟩ = some (.int .i64 d.Z)) (hp : d.P.length ≤ 1000000) (hl : ofL d.P = l) (hc1 : (!(d.L == l)) = c1) (hc2 : decide (d.Z < 0) = c2) (hc3 : decide ((1048576 : Int) < d.Z) = c3)
  (x : Act) (w : World) (hB : Below w0.heap.size w0 w) (hdef : x.defers = df) (u1 : x.tmps.getD 1 undef = .pointer (some ⟨b1, 0, none⟩))
  (p13 : dfit_val b1 d l c1 c2 c3 13 (x.tmps.getD 16 undef) w)
  (p11 : dfit_val b1 d l c1 c2 c3 11 (x.tmps.getD 14 undef) w)
  : wpOpIn Fc nC Tryz.prog dfit_ops Q 14 (fun a' w' => ∃ v, a' = x.put (some 17) v ∧ (v = (if (!((c1 || c2))) = true then .bool c3 else undef)) ∧ Below w.heap.size w w') x w := by
 have ho : dfit_ops[14]? = some dfit_o14 := rfl
 simp only [Array.getD_eq_getD_getElem?] at u1
 have q13 : x.tmps.getD 16 undef = (if (!((c1 || c2))) = true then .int .i64 d.Z else undef) := p13
 have q11 : x.tmps.getD 14 undef = .bool (c1 || c2) := p11
 simp only [Array.getD_eq_getD_getElem?] at q13 q11
 cases c1 <;> cases c2
 all_goals
  simp only [Bool.or_true, Bool.true_or, Bool.or_false, Bool.false_or, Bool.and_true, Bool.true_and, Bool.and_false, Bool.false_and, Bool.not_true, Bool.not_false, beqB, neqB, if_true, if_false, Bool.false_eq_true, reduceIte] at q13 q11 ⊢
  have e11 : (dfit_ops[11]?.bind fun x => x.dst) = some 14 := rfl
  have g11 := get_someT q11 (fun h => by cases h)
  have m := hc3
  refine wpOpIn_stepT hF ho (fun K hK => ?_)
  clear ho
  rw [Oper.semAt_plain Fc _ _ (by intro c h; cases h)]
  simp only [dfit_o14]
  go_simp
  exact hK _ _ ⟨_, act_putD x hdef _ _, rfl, Below.refl _ _⟩
theorem dfit_s15 {Fc : Fence} (hF : Wide Fc) {nC : Nat} (b1 : Nat) (d : DT) (l : List UInt8) (c1 c2 c3 : Bool) (Q : Exit → Act → World → Prop) (df : List Deferred) (w0 : World)
  (h0 : w0.cell? ⟨b1, 0, none⟩ = some (by8 d.P)) (h1 : w0.cell? ⟨b1, 1, none⟩ = some (by8 d.L)) (h3 : w0.cell? ⟨b1, 3, none⟩ = some (.int .i64 d.Z)) (hp : d.P.length ≤ 1000000) (hl : ofL d.P = l) (hc1 : (!(d.L == l)) = c1) (hc2 : decide (d.Z < 0) = c2) (hc3 : decide ((1048576 : Int) < d.Z) = c3)
  (x : Act) (w : World) (hB : Below w0.heap.size w0 w) (hdef : x.defers = df) (u1 : x.tmps.getD 1 undef = .pointer (some ⟨b1, 0, none⟩))
  (p11 : dfit_val b1 d l c1 c2 c3 11 (x.tmps.getD 14 undef) w)
  (p14 : dfit_val b1 d l c1 c2 c3 14 (x.tmps.getD 17 undef) w)
  : wpOpIn Fc nC Tryz.prog dfit_ops Q 15 (fun a' w' => ∃ v, a' = x.put (some 18) v ∧ (v = .bool ((c1 || c2) || c3)) ∧ Below w.heap.size w w') x w := by
 have ho : dfit_ops[15]? = some dfit_o15 := rfl
 simp only [Array.getD_eq_getD_getElem?] at u1
 have q11 : x.tmps.getD 14 undef = .bool (c1 || c2) := p11
 have q14 : x.tmps.getD 17 undef = (if (!((c1 || c2))) = true then .bool c3 else undef) := p14
 simp only [Array.getD_eq_getD_getElem?] at q11 q14
 cases c1 <;> cases c2
 all_goals
  simp only [Bool.or_true, Bool.true_or, Bool.or_false, Bool.false_or, Bool.and_true, Bool.true_and, Bool.and_false, Bool.false_and, Bool.not_true, Bool.not_false, beqB, neqB, if_true, if_false, Bool.false_eq_true, reduceIte] at q11 q14 ⊢
  refine wpOpIn_plain ho rfl (oper_inK hF.fn (fun K hK => ?_))
  clear ho
  rw [Oper.semAt_plain Fc _ _ (by intro c h; cases h)]
  simp only [dfit_o15]
  go_simp
  exact hK _ _ ⟨_, act_putD x hdef _ _, rfl, Below.refl _ _⟩
theorem dfit_s16 {Fc : Fence} (hF : Wide Fc) {nC : Nat} (b1 : Nat) (d : DT) (l : List UInt8) (c1 c2 c3 : Bool) (Q : Exit → Act → World → Prop) (df : List Deferred) (w0 : World)
  (h0 : w0.cell? ⟨b1, 0, none⟩ = some (by8 d.P)) (h1 : w0.cell? ⟨b1, 1, none⟩ = some (by8 d.L)) (h3 : w0.cell? ⟨b1, 3, none⟩ = some (.int .i64 d.Z)) (hp : d.P.length ≤ 1000000) (hl : ofL d.P = l) (hc1 : (!(d.L == l)) = c1) (hc2 : decide (d.Z < 0) = c2) (hc3 : decide ((1048576 : Int) < d.Z) = c3)
  (x : Act) (w : World) (hB : Below w0.heap.size w0 w) (hdef : x.defers = df) (u1 : x.tmps.getD 1 undef = .pointer (some ⟨b1, 0, none⟩))
  (p15 : dfit_val b1 d l c1 c2 c3 15 (x.tmps.getD 18 undef) w)
  : wpOpIn Fc nC Tryz.prog dfit_ops Q 16 (fun a' w' => ∃ v, a' = x.put (some 2) v ∧ (v = .bool ((c1 || c2) || c3)) ∧ Below w.heap.size w w') x w := by
 have ho : dfit_ops[16]? = some dfit_o16 := rfl
 simp only [Array.getD_eq_getD_getElem?] at u1
 have q15 : x.tmps.getD 18 undef = .bool ((c1 || c2) || c3) := p15
 simp only [Array.getD_eq_getD_getElem?] at q15
 refine wpOpIn_plain ho rfl (oper_inK hF.fn (fun K hK => ?_))
 clear ho
 rw [Oper.semAt_plain Fc _ _ (by intro c h; cases h)]
 simp only [dfit_o16]
 go_simp
 exact hK _ _ ⟨_, act_putD x hdef _ _, rfl, Below.refl _ _⟩
theorem dfit {Fc : Fence} (hF : Wide Fc) {nC : Nat} (b1 : Nat) (d : DT) (l : List UInt8) (c1 c2 c3 : Bool) (Q : Exit → Act → World → Prop) (t0 : Array Value) (df : List Deferred) (w0 : World) (ht : t0.size = 19)
  (hs1 : t0.getD 1 undef = .pointer (some ⟨b1, 0, none⟩))
  (h0 : w0.cell? ⟨b1, 0, none⟩ = some (by8 d.P)) (h1 : w0.cell? ⟨b1, 1, none⟩ = some (by8 d.L)) (h3 : w0.cell? ⟨b1, 3, none⟩ = some (.int .i64 d.Z)) (hp : d.P.length ≤ 1000000) (hl : ofL d.P = l) (hc1 : (!(d.L == l)) = c1) (hc2 : decide (d.Z < 0) = c2) (hc3 : decide ((1048576 : Int) < d.Z) = c3)
  (hQ : ∀ (vs : Nat → Value) (w : World), Below w0.heap.size w0 w → (vs 2 = .bool ((c1 || c2) || c3)) → Q .normal { tmps := [3, 4, 5, 6, 7, 8, 9, 10, 11, 12, 13, 14, 15, 16, 17, 18, 2].foldl (fun y d => y.setIfInBounds d (vs d)) t0, defers := df } w) :
  (Code.region 1 dfit_ops true).wpIn Fc nC Tryz.prog Q { tmps := t0, defers := df } w0 := by
 refine wpIn_region_tail 17 (by decide) (by kernel_rfl) (fun a b => Below a.heap.size a b) (dfit_val b1 d l c1 c2 c3) t0 df w0 (by rw [ht]; kernel_rfl) (by kernel_rfl) (by kernel_rfl) (by kernel_rfl) ((Below.refl _ _).drew) (fun _ _ _ h k => h.trans (k.mono h.size)) (dfit_below b1 d l c1 c2 c3) ?_ ?_
 ·intro j o ho hj x w hB hdef hsz hs hdeps
  have hs' : ∀ s, ¬ dfit_mem s → x.tmps.getD s undef = t0.getD s undef := fun s hn => hs s (fun j hj e => hn (by rw [e]; exact dfit_slots j hj))
  have u1 := (hs' 1 (by decide)).trans hs1
  match j, ho, hj with
  | 0, ho, _ =>
    have e : o = dfit_o0 := (Option.some.inj ho).symm
    subst e
    exact dfit_s0 hF b1 d l c1 c2 c3 Q df w0 h0 h1 h3 hp hl hc1 hc2 hc3 x w hB hdef u1 
  | 1, ho, _ =>
    have e : o = dfit_o1 := (Option.some.inj ho).symm
    subst e
    exact dfit_s1 hF b1 d l c1 c2 c3 Q df w0 h0 h1 h3 hp hl hc1 hc2 hc3 x w hB hdef u1 (hdeps ⟨0, .data⟩ (by simp) rfl)
  | 2, ho, _ =>
    have e : o = dfit_o2 := (Option.some.inj ho).symm
    subst e
    exact dfit_s2 hF b1 d l c1 c2 c3 Q df w0 h0 h1 h3 hp hl hc1 hc2 hc3 x w hB hdef u1 
  | 3, ho, _ =>
    have e : o = dfit_o3 := (Option.some.inj ho).symm
    subst e
    exact dfit_s3 hF b1 d l c1 c2 c3 Q df w0 h0 h1 h3 hp hl hc1 hc2 hc3 x w hB hdef u1 (hdeps ⟨2, .data⟩ (by simp) rfl)
  | 4, ho, _ =>
    have e : o = dfit_o4 := (Option.some.inj ho).symm
    subst e
    exact dfit_s4 hF b1 d l c1 c2 c3 Q df w0 h0 h1 h3 hp hl hc1 hc2 hc3 x w hB hdef u1 (hdeps ⟨3, .data⟩ (by simp) rfl)
  | 5, ho, _ =>
    have e : o = dfit_o5 := (Option.some.inj ho).symm
    subst e
    exact dfit_s5 hF b1 d l c1 c2 c3 Q df w0 h0 h1 h3 hp hl hc1 hc2 hc3 x w hB hdef u1 (hdeps ⟨1, .data⟩ (by simp) rfl) (hdeps ⟨4, .data⟩ (by simp) rfl)
  | 6, ho, _ =>
    have e : o = dfit_o6 := (Option.some.inj ho).symm
    subst e
    exact dfit_s6 hF b1 d l c1 c2 c3 Q df w0 h0 h1 h3 hp hl hc1 hc2 hc3 x w hB hdef u1 (hdeps ⟨5, .data⟩ (by simp) rfl)
  | 7, ho, _ =>
    have e : o = dfit_o7 := (Option.some.inj ho).symm
    subst e
    exact dfit_s7 hF b1 d l c1 c2 c3 Q df w0 h0 h1 h3 hp hl hc1 hc2 hc3 x w hB hdef u1 (hdeps ⟨6, .guard⟩ (by simp) rfl)
  | 8, ho, _ =>
    have e : o = dfit_o8 := (Option.some.inj ho).symm
    subst e
    exact dfit_s8 hF b1 d l c1 c2 c3 Q df w0 h0 h1 h3 hp hl hc1 hc2 hc3 x w hB hdef u1 (hdeps ⟨7, .data⟩ (by simp) rfl) (hdeps ⟨6, .guard⟩ (by simp) rfl)
  | 9, ho, _ =>
    have e : o = dfit_o9 := (Option.some.inj ho).symm
    subst e
    exact dfit_s9 hF b1 d l c1 c2 c3 Q df w0 h0 h1 h3 hp hl hc1 hc2 hc3 x w hB hdef u1 (hdeps ⟨8, .data⟩ (by simp) rfl) (hdeps ⟨6, .guard⟩ (by simp) rfl)
  | 10, ho, _ =>
    have e : o = dfit_o10 := (Option.some.inj ho).symm
    subst e
    exact dfit_s10 hF b1 d l c1 c2 c3 Q df w0 h0 h1 h3 hp hl hc1 hc2 hc3 x w hB hdef u1 (hdeps ⟨6, .data⟩ (by simp) rfl) (hdeps ⟨9, .data⟩ (by simp) rfl)
  | 11, ho, _ =>
    have e : o = dfit_o11 := (Option.some.inj ho).symm
    subst e
    exact dfit_s11 hF b1 d l c1 c2 c3 Q df w0 h0 h1 h3 hp hl hc1 hc2 hc3 x w hB hdef u1 (hdeps ⟨10, .data⟩ (by simp) rfl)
  | 12, ho, _ =>
    have e : o = dfit_o12 := (Option.some.inj ho).symm
    subst e
    exact dfit_s12 hF b1 d l c1 c2 c3 Q df w0 h0 h1 h3 hp hl hc1 hc2 hc3 x w hB hdef u1 (hdeps ⟨11, .guard⟩ (by simp) rfl)
  | 13, ho, _ =>
    have e : o = dfit_o13 := (Option.some.inj ho).symm
    subst e
    exact dfit_s13 hF b1 d l c1 c2 c3 Q df w0 h0 h1 h3 hp hl hc1 hc2 hc3 x w hB hdef u1 (hdeps ⟨12, .data⟩ (by simp) rfl) (hdeps ⟨11, .guard⟩ (by simp) rfl)
  | 14, ho, _ =>
    have e : o = dfit_o14 := (Option.some.inj ho).symm
    subst e
    exact dfit_s14 hF b1 d l c1 c2 c3 Q df w0 h0 h1 h3 hp hl hc1 hc2 hc3 x w hB hdef u1 (hdeps ⟨13, .data⟩ (by simp) rfl) (hdeps ⟨11, .guard⟩ (by simp) rfl)
  | 15, ho, _ =>
    have e : o = dfit_o15 := (Option.some.inj ho).symm
    subst e
    exact dfit_s15 hF b1 d l c1 c2 c3 Q df w0 h0 h1 h3 hp hl hc1 hc2 hc3 x w hB hdef u1 (hdeps ⟨11, .data⟩ (by simp) rfl) (hdeps ⟨14, .data⟩ (by simp) rfl)
  | 16, ho, _ =>
    have e : o = dfit_o16 := (Option.some.inj ho).symm
    subst e
    exact dfit_s16 hF b1 d l c1 c2 c3 Q df w0 h0 h1 h3 hp hl hc1 hc2 hc3 x w hB hdef u1 (hdeps ⟨15, .data⟩ (by simp) rfl)
  | k + 17, _, hj => omega
 ·intro x w hB hdef hsz hs hv
  have hx := frame_sets x.tmps t0 hsz [3, 4, 5, 6, 7, 8, 9, 10, 11, 12, 13, 14, 15, 16, 17, 18, 2] (fun s hn => hs s (fun j hj e => hn (by rw [e]; exact dfit_slots j hj)))
  have hq := hQ (fun d => x.tmps.getD d undef) w hB (hv 16 (by decide))
  obtain ⟨T, Df⟩ := x
  dsimp only at hx hdef hq
  subst hdef
  rw [← hx] at hq
  exact hq
open Go.RowKit Go.Shelf
theorem wrongD_any (d : DT) (w : World) (hp : d.P.length ≤ 1000000) :
  Calls Tryz.prog 31 #[.agg #[by8 d.P, by8 d.L, .int .u32 (d.S : Nat), .int .i64 d.Z]] w fun e w' => e = .returned (.bool (!fitD d)) ∧ Below w.heap.size w w' := by
 have hres : ((!(d.L == ofL d.P)) || decide (d.Z < 0) || decide ((1048576 : Int) < d.Z)) = !fitD d := by
  unfold fitD
  rw [Bool.eq_iff_iff]
  simp
  rw [or_assoc]
 obtain ⟨W1, hW1⟩ : ∃ W1, w.alloc (.cells #[by8 d.P, by8 d.L, .int .u32 (d.S : Nat), .int .i64 d.Z] 47) = W1 := ⟨_, rfl⟩
 obtain ⟨n0, n1, n2, n3⟩ := cellsAt4 (show W1.heap[w.heap.size]? = some (.cells #[by8 d.P, by8 d.L, .int .u32 (d.S : Nat), .int .i64 d.Z] 47 (0, 0)) by rw [← hW1]; exact heap_alloc_new _ _)
 have hB1 : Below w.heap.size w W1 := by rw [← hW1]; exact below_alloc _ _
 have HN := hide (And.intro n0 (And.intro n1 n3))
 have HW := hide hW1
 have HB := hide hB1
 have HR := hide hres
 clear n0 n1 n2 n3 hW1 hB1 hres
 go_enter Tryz.func31, Tryz.ntmps31
 go_wp2_with fail
 rw [HW.out]
 refine (wpIn_wide (n := 0)).1 (dfit wide_plain w.heap.size d _ _ _ _ _ _ _ _ rfl rfl HN.out.1 HN.out.2.1 HN.out.2.2 hp rfl rfl rfl rfl ?_)
 intro vs W2 hb2 h2
 simp only [List.foldl_cons, List.foldl_nil, List.setIfInBounds_toArray, List.set_cons_succ, List.set_cons_zero]
 rw [h2, HR.out]
 have HB2 := hide (HB.out.trans (hb2.mono HB.out.size))
 clear hb2 h2
 go_wp2_with fail
 go_ret
 exact ⟨rfl, HB2.out⟩
theorem longF_any (f : Fil) (w : World) :
  Calls Tryz.prog 51 #[.agg #[by8 f.P, .slice f.pB f.B.length f.cB]] w fun e w' => e = .returned (.bool (!decide (f.B.length ≤ 1048576))) ∧ Below w.heap.size w w' := by
 have hres : decide ((1048576 : Int) < (f.B.length : Nat)) = !decide (f.B.length ≤ 1048576) := by
  rw [Bool.eq_iff_iff]; simp; omega
 have HR := hide hres
 clear hres
 unfold by8
 go_enter Tryz.func51, Tryz.ntmps51
 go_wp2_with fail
 go_ret
 exact ⟨by rw [← HR.out]; rfl, below_alloc _ _⟩
theorem any_not (n : Nat) (p : Nat → Bool) : ((List.range n).any fun i => !p i) = !(List.range n).all p := by
 rw [Bool.eq_iff_iff]; simp
theorem rightDocs_any (a : Option Addr) (len cap : Nat) (f : Nat → DT) (w : World) (hlen : len ≤ 140737488355328) (hrow : RowK w a 4 len (fun i => cellD (f i))) (hP : ∀ i, i < len → (f i).P.length ≤ 1000000) :
  Calls Tryz.prog 10 #[.slice a len cap] w fun e w' => e = .returned (.bool ((decide (len ≤ 4000) && riseP [] (pathsN (fun i => (f i).P) len)) && (List.range len).all fun i => fitD (f i))) ∧ Below w.heap.size w w' := by
 have h1 := callsIn_wide.1 (rightPathsD_in 40 (by omega) a len cap f w hlen hrow hP)
 generalize hr1 : (decide (len ≤ 4000) && riseP [] (pathsN (fun i => (f i).P) len)) = r1 at h1
 have H := hide (And.intro hrow hr1)
 clear hrow hr1
 go_enter Tryz.func10, Tryz.ntmps10
 cases r1 with
 | false =>
   go_wp2_with fail
   refine h1.mono ?_
   rintro e w2 ⟨rfl, hb2⟩
   have HB := hide hb2
   clear h1 hb2
   go_wp2_with fail
   go_ret
   exact ⟨rfl, HB.out⟩
 | true =>
   go_wp2_with fail
   refine h1.mono ?_
   rintro e w2 ⟨rfl, hb2⟩
   have HB := hide hb2
   have h3 := containsFuncD_any a len cap 31 f (fun i => !fitD (f i)) w2 hlen (H.out.1.below hb2) (enters_of Tryz.func31 (by kernel_rfl) rfl) (fun W i hi _ => wrongD_any (f i) W (hP i hi))
   rw [any_not] at h3
   clear h1 hb2
   go_wp2_with fail
   refine h3.mono ?_
   rintro e w3 ⟨rfl, hb3⟩
   have HB3 := hide (HB.out.trans (hb3.mono HB.out.size))
   clear h3 hb3
   go_wp2_with fail
   go_ret
   exact ⟨by simp, HB3.out⟩
theorem rightFiles_any (a : Option Addr) (len cap : Nat) (f : Nat → Fil) (w : World) (hlen : len ≤ 140737488355328) (hrow : RowK w a 2 len (fun i => cellF (f i))) (hP : ∀ i, i < len → (f i).P.length ≤ 1000000) :
  Calls Tryz.prog 20 #[.slice a len cap] w fun e w' => e = .returned (.bool ((decide (len ≤ 4000) && riseP [] (pathsN (fun i => (f i).P) len)) && (List.range len).all fun i => decide ((f i).B.length ≤ 1048576))) ∧ Below w.heap.size w w' := by
 have h1 := callsIn_wide.1 (rightPathsF_in 40 (by omega) a len cap f w hlen hrow hP)
 generalize hr1 : (decide (len ≤ 4000) && riseP [] (pathsN (fun i => (f i).P) len)) = r1 at h1
 have H := hide (And.intro hrow hr1)
 clear hrow hr1
 go_enter Tryz.func20, Tryz.ntmps20
 cases r1 with
 | false =>
   go_wp2_with fail
   refine h1.mono ?_
   rintro e w2 ⟨rfl, hb2⟩
   have HB := hide hb2
   clear h1 hb2
   go_wp2_with fail
   go_ret
   exact ⟨rfl, HB.out⟩
 | true =>
   go_wp2_with fail
   refine h1.mono ?_
   rintro e w2 ⟨rfl, hb2⟩
   have HB := hide hb2
   have h3 := containsFuncF_any a len cap 51 f (fun i => !decide ((f i).B.length ≤ 1048576)) w2 hlen (H.out.1.below hb2) (enters_of Tryz.func51 (by kernel_rfl) rfl) (fun W i hi _ => longF_any (f i) W)
   rw [any_not] at h3
   clear h1 hb2
   go_wp2_with fail
   refine h3.mono ?_
   rintro e w3 ⟨rfl, hb3⟩
   have HB3 := hide (HB.out.trans (hb3.mono HB.out.size))
   clear h3 hb3
   go_wp2_with fail
   go_ret
   exact ⟨by simp, HB3.out⟩
end Go.Proofs.YtpmldopbjlnknaaGreat
