/-
  Drawn regions of mudlarkref22 (written by tools/gen-dref.py).
-/
import Derived.Test.YtpmldopbjlnknaaDAwake
import Derived.Test.YtpmldopbjlnknaaLRefs
import Derived.Test.YtpmldopbjlnknaaRegS
namespace Go.Proofs.Ytpmldopbjlnknaa
open Go.RowKit Go.Shelf
set_option linter.unusedVariables false
set_option linter.unusedSimpArgs false

abbrev drf4_o0 : Oper := { dst := some 10, op := Op.move (Operand.tmp 0), type := 22, pos := "ref.go:22", after := #[], guard := none }
abbrev drf4_o1 : Oper := { dst := some 11, op := Op.move (Operand.tmp 3), type := 3, pos := "ref.go:22", after := #[], guard := none }
abbrev drf4_o2 : Oper := { dst := some 12, op := Op.indexAddr 22 (Operand.tmp 10) (Operand.tmp 11), type := 0, pos := "ref.go:22", after := #[{ on := 0, ground := Ground.data }, { on := 1, ground := Ground.data }], guard := none }
abbrev drf4_o3 : Oper := { dst := some 13, op := Op.fieldAddr 46 (Operand.tmp 12) 0, type := 0, pos := "ref.go:22", after := #[{ on := 2, ground := Ground.data }], guard := none }
abbrev drf4_o4 : Oper := { dst := some 14, op := Op.load 9 (Operand.tmp 13), type := 9, pos := "ref.go:22", after := #[{ on := 3, ground := Ground.data }], guard := none }
abbrev drf4_o5 : Oper := { dst := some 15, op := Op.call { callee := Callee.value (Operand.func 33), args := #[Operand.tmp 14], argTypes := #[9] }, type := 4, pos := "ref.go:22", after := #[{ on := 4, ground := Ground.data }], guard := none }
abbrev drf4_o6 : Oper := { dst := some 16, op := Op.unOp UnOp.not 4 (Operand.tmp 15), type := 4, pos := "ref.go:22", after := #[{ on := 5, ground := Ground.data }], guard := none }
abbrev drf4_o7 : Oper := { dst := some 17, op := Op.move (Operand.tmp 16), type := 4, pos := "ref.go:22", after := #[{ on := 6, ground := Ground.data }, { on := 5, ground := Ground.chain }], guard := none }
abbrev drf4_o8 : Oper := { dst := some 18, op := Op.move (Operand.tmp 0), type := 22, pos := "ref.go:22", after := #[{ on := 7, ground := Ground.guard }], guard := some (7, false) }
abbrev drf4_o9 : Oper := { dst := some 19, op := Op.move (Operand.tmp 3), type := 3, pos := "ref.go:22", after := #[{ on := 7, ground := Ground.guard }], guard := some (7, false) }
abbrev drf4_o10 : Oper := { dst := some 20, op := Op.indexAddr 22 (Operand.tmp 18) (Operand.tmp 19), type := 0, pos := "ref.go:22", after := #[{ on := 8, ground := Ground.data }, { on := 9, ground := Ground.data }, { on := 7, ground := Ground.guard }], guard := some (7, false) }
abbrev drf4_o11 : Oper := { dst := some 21, op := Op.fieldAddr 46 (Operand.tmp 20) 1, type := 0, pos := "ref.go:22", after := #[{ on := 10, ground := Ground.data }, { on := 7, ground := Ground.guard }], guard := some (7, false) }
abbrev drf4_o12 : Oper := { dst := some 22, op := Op.load 34 (Operand.tmp 21), type := 34, pos := "ref.go:22", after := #[{ on := 11, ground := Ground.data }, { on := 7, ground := Ground.guard }], guard := some (7, false) }
abbrev drf4_o13 : Oper := { dst := some 23, op := Op.call { callee := Callee.builtin Builtin.len, args := #[Operand.tmp 22], argTypes := #[34] }, type := 3, pos := "ref.go:22", after := #[{ on := 12, ground := Ground.data }, { on := 7, ground := Ground.guard }], guard := some (7, false) }
abbrev drf4_o14 : Oper := { dst := some 24, op := Op.binOp BinOp.gtr 3 (Operand.tmp 23) (Operand.const (Value.int IntKind.i64 1048576)) 3, type := 4, pos := "ref.go:22", after := #[{ on := 13, ground := Ground.data }, { on := 7, ground := Ground.guard }], guard := some (7, false) }
abbrev drf4_o15 : Oper := { dst := some 25, op := Op.pick (Operand.tmp 17) (Operand.const (Value.bool true)) (Operand.tmp 24), type := 4, pos := "ref.go:22", after := #[{ on := 7, ground := Ground.data }, { on := 14, ground := Ground.data }], guard := none }
abbrev drf4_o16 : Oper := { dst := some 26, op := Op.move (Operand.tmp 25), type := 4, pos := "ref.go:22", after := #[{ on := 15, ground := Ground.data }, { on := 7, ground := Ground.chain }], guard := none }
abbrev drf4_o17 : Oper := { dst := some 27, op := Op.move (Operand.tmp 3), type := 3, pos := "ref.go:22", after := #[{ on := 16, ground := Ground.guard }], guard := some (16, false) }
abbrev drf4_o18 : Oper := { dst := some 28, op := Op.binOp BinOp.gtr 3 (Operand.tmp 27) (Operand.const (Value.int IntKind.i64 0)) 3, type := 4, pos := "ref.go:22", after := #[{ on := 17, ground := Ground.data }, { on := 16, ground := Ground.guard }], guard := some (16, false) }
abbrev drf4_o19 : Oper := { dst := some 29, op := Op.move (Operand.tmp 28), type := 4, pos := "ref.go:22", after := #[{ on := 18, ground := Ground.data }, { on := 16, ground := Ground.chain }, { on := 16, ground := Ground.guard }], guard := some (16, false) }
abbrev drf4_o20 : Oper := { dst := some 30, op := Op.move (Operand.tmp 0), type := 22, pos := "ref.go:22", after := #[{ on := 19, ground := Ground.guard }], guard := some (19, true) }
abbrev drf4_o21 : Oper := { dst := some 31, op := Op.move (Operand.tmp 3), type := 3, pos := "ref.go:22", after := #[{ on := 19, ground := Ground.guard }], guard := some (19, true) }
abbrev drf4_o22 : Oper := { dst := some 32, op := Op.binOp BinOp.sub 3 (Operand.tmp 31) (Operand.const (Value.int IntKind.i64 1)) 3, type := 3, pos := "ref.go:22", after := #[{ on := 21, ground := Ground.data }, { on := 19, ground := Ground.guard }], guard := some (19, true) }
abbrev drf4_o23 : Oper := { dst := some 33, op := Op.indexAddr 22 (Operand.tmp 30) (Operand.tmp 32), type := 0, pos := "ref.go:22", after := #[{ on := 20, ground := Ground.data }, { on := 22, ground := Ground.data }, { on := 19, ground := Ground.guard }], guard := some (19, true) }
abbrev drf4_o24 : Oper := { dst := some 34, op := Op.fieldAddr 46 (Operand.tmp 33) 0, type := 0, pos := "ref.go:22", after := #[{ on := 23, ground := Ground.data }, { on := 19, ground := Ground.guard }], guard := some (19, true) }
abbrev drf4_o25 : Oper := { dst := some 35, op := Op.load 9 (Operand.tmp 34), type := 9, pos := "ref.go:22", after := #[{ on := 24, ground := Ground.data }, { on := 19, ground := Ground.guard }], guard := some (19, true) }
abbrev drf4_o26 : Oper := { dst := some 36, op := Op.move (Operand.tmp 0), type := 22, pos := "ref.go:22", after := #[{ on := 19, ground := Ground.guard }], guard := some (19, true) }
abbrev drf4_o27 : Oper := { dst := some 37, op := Op.move (Operand.tmp 3), type := 3, pos := "ref.go:22", after := #[{ on := 19, ground := Ground.guard }], guard := some (19, true) }
abbrev drf4_o28 : Oper := { dst := some 38, op := Op.indexAddr 22 (Operand.tmp 36) (Operand.tmp 37), type := 0, pos := "ref.go:22", after := #[{ on := 26, ground := Ground.data }, { on := 27, ground := Ground.data }, { on := 19, ground := Ground.guard }], guard := some (19, true) }
abbrev drf4_o29 : Oper := { dst := some 39, op := Op.fieldAddr 46 (Operand.tmp 38) 0, type := 0, pos := "ref.go:22", after := #[{ on := 28, ground := Ground.data }, { on := 19, ground := Ground.guard }], guard := some (19, true) }
abbrev drf4_o30 : Oper := { dst := some 40, op := Op.load 9 (Operand.tmp 39), type := 9, pos := "ref.go:22", after := #[{ on := 29, ground := Ground.data }, { on := 19, ground := Ground.guard }], guard := some (19, true) }
abbrev drf4_o31 : Oper := { dst := some 41, op := Op.binOp BinOp.geq 9 (Operand.tmp 35) (Operand.tmp 40) 9, type := 4, pos := "ref.go:22", after := #[{ on := 25, ground := Ground.data }, { on := 30, ground := Ground.data }, { on := 19, ground := Ground.guard }], guard := some (19, true) }
abbrev drf4_o32 : Oper := { dst := some 42, op := Op.pick (Operand.tmp 29) (Operand.tmp 41) (Operand.const (Value.bool false)), type := 4, pos := "ref.go:22", after := #[{ on := 19, ground := Ground.data }, { on := 31, ground := Ground.data }, { on := 16, ground := Ground.guard }], guard := some (16, false) }
abbrev drf4_o33 : Oper := { dst := some 43, op := Op.pick (Operand.tmp 26) (Operand.const (Value.bool true)) (Operand.tmp 42), type := 4, pos := "ref.go:22", after := #[{ on := 16, ground := Ground.data }, { on := 32, ground := Ground.data }], guard := none }
def drf4_ops : Array Oper := #[drf4_o0, drf4_o1, drf4_o2, drf4_o3, drf4_o4, drf4_o5, drf4_o6, drf4_o7, drf4_o8, drf4_o9, drf4_o10, drf4_o11, drf4_o12, drf4_o13, drf4_o14, drf4_o15, drf4_o16, drf4_o17, drf4_o18, drf4_o19, drf4_o20, drf4_o21, drf4_o22, drf4_o23, drf4_o24, drf4_o25, drf4_o26, drf4_o27, drf4_o28, drf4_o29, drf4_o30, drf4_o31, drf4_o32, drf4_o33]
abbrev drf4_mem (s : Nat) : Prop := s ∈ [10, 11, 12, 13, 14, 15, 16, 17, 18, 19, 20, 21, 22, 23, 24, 25, 26, 27, 28, 29, 30, 31, 32, 33, 34, 35, 36, 37, 38, 39, 40, 41, 42, 43]
set_option maxRecDepth 100000 in
theorem drf4_slots : ∀ j, j < 34 → drf4_mem (slotOf drf4_ops j) := by
  intro j hj
  match j, hj with
  | 0, _ => exact (by decide : drf4_mem 10)
  | 1, _ => exact (by decide : drf4_mem 11)
  | 2, _ => exact (by decide : drf4_mem 12)
  | 3, _ => exact (by decide : drf4_mem 13)
  | 4, _ => exact (by decide : drf4_mem 14)
  | 5, _ => exact (by decide : drf4_mem 15)
  | 6, _ => exact (by decide : drf4_mem 16)
  | 7, _ => exact (by decide : drf4_mem 17)
  | 8, _ => exact (by decide : drf4_mem 18)
  | 9, _ => exact (by decide : drf4_mem 19)
  | 10, _ => exact (by decide : drf4_mem 20)
  | 11, _ => exact (by decide : drf4_mem 21)
  | 12, _ => exact (by decide : drf4_mem 22)
  | 13, _ => exact (by decide : drf4_mem 23)
  | 14, _ => exact (by decide : drf4_mem 24)
  | 15, _ => exact (by decide : drf4_mem 25)
  | 16, _ => exact (by decide : drf4_mem 26)
  | 17, _ => exact (by decide : drf4_mem 27)
  | 18, _ => exact (by decide : drf4_mem 28)
  | 19, _ => exact (by decide : drf4_mem 29)
  | 20, _ => exact (by decide : drf4_mem 30)
  | 21, _ => exact (by decide : drf4_mem 31)
  | 22, _ => exact (by decide : drf4_mem 32)
  | 23, _ => exact (by decide : drf4_mem 33)
  | 24, _ => exact (by decide : drf4_mem 34)
  | 25, _ => exact (by decide : drf4_mem 35)
  | 26, _ => exact (by decide : drf4_mem 36)
  | 27, _ => exact (by decide : drf4_mem 37)
  | 28, _ => exact (by decide : drf4_mem 38)
  | 29, _ => exact (by decide : drf4_mem 39)
  | 30, _ => exact (by decide : drf4_mem 40)
  | 31, _ => exact (by decide : drf4_mem 41)
  | 32, _ => exact (by decide : drf4_mem 42)
  | 33, _ => exact (by decide : drf4_mem 43)
  | k + 34, hj => omega
def drfA_val (gF oF n cF i jp : Nat) (P PQ : List UInt8) (pB : Option Addr) (B : List Nat) (cB : Nat) : Nat → Value → World → Prop
  | 0, v, w => v = .slice (some ⟨gF, oF, none⟩) n cF
  | 1, v, w => v = .int .i64 (i : Nat)
  | 2, v, w => v = .pointer (some ⟨gF, oF + i * 2, none⟩)
  | 3, v, w => v = .pointer (some ⟨gF, oF + i * 2, none⟩)
  | 4, v, w => v = by8 P
  | 5, v, w => v = .bool true
  | 6, v, w => v = .bool false
  | 7, v, w => v = .bool false
  | 8, v, w => v = .slice (some ⟨gF, oF, none⟩) n cF
  | 9, v, w => v = .int .i64 (i : Nat)
  | 10, v, w => v = .pointer (some ⟨gF, oF + i * 2, none⟩)
  | 11, v, w => v = .pointer (some ⟨gF, oF + i * 2 + 1, none⟩)
  | 12, v, w => v = .slice pB (B.length) cB
  | 13, v, w => v = .int .i64 ((B.length) : Nat)
  | 14, v, w => v = .bool false
  | 15, v, w => v = .bool false
  | 16, v, w => v = .bool false
  | 17, v, w => v = .int .i64 (i : Nat)
  | 18, v, w => v = .bool false
  | 19, v, w => v = .bool false
  | 20, v, w => v = undef
  | 21, v, w => v = undef
  | 22, v, w => v = undef
  | 23, v, w => v = undef
  | 24, v, w => v = undef
  | 25, v, w => v = undef
  | 26, v, w => v = undef
  | 27, v, w => v = undef
  | 28, v, w => v = undef
  | 29, v, w => v = undef
  | 30, v, w => v = undef
  | 31, v, w => v = undef
  | 32, v, w => v = .bool false
  | 33, v, w => v = .bool false
  | _, _, _ => True
theorem drfA_below (gF oF n cF i jp : Nat) (P PQ : List UInt8) (pB : Option Addr) (B : List Nat) (cB : Nat) (w w' : World) (hb : Below w.heap.size w w') : ∀ j v, drfA_val gF oF n cF i jp P PQ pB B cB j v w → drfA_val gF oF n cF i jp P PQ pB B cB j v w' := by
  intro j v h
  match j, h with
  | 0, h => exact h
  | 1, h => exact h
  | 2, h => exact h
  | 3, h => exact h
  | 4, h => exact h
  | 5, h => exact h
  | 6, h => exact h
  | 7, h => exact h
  | 8, h => exact h
  | 9, h => exact h
  | 10, h => exact h
  | 11, h => exact h
  | 12, h => exact h
  | 13, h => exact h
  | 14, h => exact h
  | 15, h => exact h
  | 16, h => exact h
  | 17, h => exact h
  | 18, h => exact h
  | 19, h => exact h
  | 20, h => exact h
  | 21, h => exact h
  | 22, h => exact h
  | 23, h => exact h
  | 24, h => exact h
  | 25, h => exact h
  | 26, h => exact h
  | 27, h => exact h
  | 28, h => exact h
  | 29, h => exact h
  | 30, h => exact h
  | 31, h => exact h
  | 32, h => exact h
  | 33, h => exact h
  | _ + 34, h => exact h
def drfA_H (Fc : Fence) (gF oF n cF i jp : Nat) (P PQ : List UInt8) (pB : Option Addr) (B : List Nat) (cB : Nat) (df : List Deferred) (w0 : World) (x : Act) (w : World) : Prop :=
  (Wide Fc) ∧ (i < n) ∧ (n ≤ 140737488351232) ∧ (w0.cell? ⟨gF, oF + i * 2, none⟩ = some (by8 P)) ∧ (P.length ≤ 1000000) ∧ (rightP P = true) ∧ (w0.cell? ⟨gF, oF + i * 2 + 1, none⟩ = some (.slice pB (B.length) cB)) ∧ (decide ((1048576 : Int) < (B.length : Nat)) = false) ∧ (decide (0 < i) = false) ∧ (Below w0.heap.size w0 w) ∧ (x.defers = df) ∧ (x.tmps.getD 0 undef = .slice (some ⟨gF, oF, none⟩) n cF) ∧ (x.tmps.getD 3 undef = .int .i64 (i : Nat))
section
set_option maxRecDepth 100000
set_option maxHeartbeats 2000000
variable {Fc : Fence} {nC : Nat} (gF oF n cF i jp : Nat) (P PQ : List UInt8) (pB : Option Addr) (B : List Nat) (cB : Nat) (Q : Exit → Act → World → Prop) (df : List Deferred) (w0 : World) (x : Act) (w : World)
theorem drfA_s0 (H : drfA_H Fc gF oF n cF i jp P PQ pB B cB df w0 x w)
    : Stp Fc nC Try.prog drf4_ops Q 0 10 (drfA_val gF oF n cF i jp P PQ pB B cB 0) x w := by
  obtain ⟨hF, hi, hn, f0, hp, hr, f1, h2, h3, hB, hdef, u0, u3⟩ := H
  have ho : drf4_ops[0]? = some drf4_o0 := rfl
  simp only [Array.getD_eq_getD_getElem?] at u0 u3
  refine wpOpIn_plain ho rfl (oper_inK hF.fn (fun K hK => ?_))
  clear ho
  rw [Oper.semAt_plain Fc _ _ (by intro c h; cases h)]
  simp only [drf4_o0]
  go_simp
  exact hK _ _ ⟨_, act_putD x hdef _ _, rfl, Below.refl _ _⟩
theorem drfA_s1 (H : drfA_H Fc gF oF n cF i jp P PQ pB B cB df w0 x w)
    : Stp Fc nC Try.prog drf4_ops Q 1 11 (drfA_val gF oF n cF i jp P PQ pB B cB 1) x w := by
  obtain ⟨hF, hi, hn, f0, hp, hr, f1, h2, h3, hB, hdef, u0, u3⟩ := H
  have ho : drf4_ops[1]? = some drf4_o1 := rfl
  simp only [Array.getD_eq_getD_getElem?] at u0 u3
  refine wpOpIn_plain ho rfl (oper_inK hF.fn (fun K hK => ?_))
  clear ho
  rw [Oper.semAt_plain Fc _ _ (by intro c h; cases h)]
  simp only [drf4_o1]
  go_simp
  exact hK _ _ ⟨_, act_putD x hdef _ _, rfl, Below.refl _ _⟩
theorem drfA_s2 (H : drfA_H Fc gF oF n cF i jp P PQ pB B cB df w0 x w)
    (p0 : drfA_val gF oF n cF i jp P PQ pB B cB 0 (x.tmps.getD 10 undef) w)
    (p1 : drfA_val gF oF n cF i jp P PQ pB B cB 1 (x.tmps.getD 11 undef) w)
    : Stp Fc nC Try.prog drf4_ops Q 2 12 (drfA_val gF oF n cF i jp P PQ pB B cB 2) x w := by
  obtain ⟨hF, hi, hn, f0, hp, hr, f1, h2, h3, hB, hdef, u0, u3⟩ := H
  have ho : drf4_ops[2]? = some drf4_o2 := rfl
  simp only [Array.getD_eq_getD_getElem?] at u0 u3
  have q0 : x.tmps.getD 10 undef = .slice (some ⟨gF, oF, none⟩) n cF := p0
  have q1 : x.tmps.getD 11 undef = .int .i64 (i : Nat) := p1
  simp only [Array.getD_eq_getD_getElem?] at q0 q1
  have i0 : (0 : Int) ≤ (i : Int) := by omega
  have i1 : (i : Int) < (n : Int) := by omega
  refine wpOpIn_plain ho rfl (oper_inK hF.fn (fun K hK => ?_))
  clear ho
  rw [Oper.semAt_plain Fc _ _ (by intro c h; cases h)]
  simp only [drf4_o2]
  go_simp
  exact hK _ _ ⟨_, act_putD x hdef _ _, rfl, Below.refl _ _⟩
theorem drfA_s3 (H : drfA_H Fc gF oF n cF i jp P PQ pB B cB df w0 x w)
    (p2 : drfA_val gF oF n cF i jp P PQ pB B cB 2 (x.tmps.getD 12 undef) w)
    : Stp Fc nC Try.prog drf4_ops Q 3 13 (drfA_val gF oF n cF i jp P PQ pB B cB 3) x w := by
  obtain ⟨hF, hi, hn, f0, hp, hr, f1, h2, h3, hB, hdef, u0, u3⟩ := H
  have ho : drf4_ops[3]? = some drf4_o3 := rfl
  simp only [Array.getD_eq_getD_getElem?] at u0 u3
  have q2 : x.tmps.getD 12 undef = .pointer (some ⟨gF, oF + i * 2, none⟩) := p2
  simp only [Array.getD_eq_getD_getElem?] at q2
  refine wpOpIn_plain ho rfl (oper_inK hF.fn (fun K hK => ?_))
  clear ho
  rw [Oper.semAt_plain Fc _ _ (by intro c h; cases h)]
  simp only [drf4_o3]
  go_simp
  exact hK _ _ ⟨_, act_putD x hdef _ _, rfl, Below.refl _ _⟩
theorem drfA_s4 (H : drfA_H Fc gF oF n cF i jp P PQ pB B cB df w0 x w)
    (p3 : drfA_val gF oF n cF i jp P PQ pB B cB 3 (x.tmps.getD 13 undef) w)
    : Stp Fc nC Try.prog drf4_ops Q 4 14 (drfA_val gF oF n cF i jp P PQ pB B cB 4) x w := by
  obtain ⟨hF, hi, hn, f0, hp, hr, f1, h2, h3, hB, hdef, u0, u3⟩ := H
  have ho : drf4_ops[4]? = some drf4_o4 := rfl
  simp only [Array.getD_eq_getD_getElem?] at u0 u3
  have q3 : x.tmps.getD 13 undef = .pointer (some ⟨gF, oF + i * 2, none⟩) := p3
  simp only [Array.getD_eq_getD_getElem?] at q3
  have m := cell_thru f0 hB
  refine wpOpIn_plain ho rfl (oper_inK hF.fn (fun K hK => ?_))
  clear ho
  rw [Oper.semAt_plain Fc _ _ (by intro c h; cases h)]
  simp only [drf4_o4]
  go_simp
  exact hK _ _ ⟨_, act_putD x hdef _ _, rfl, Below.refl _ _⟩
theorem drfA_s5 (H : drfA_H Fc gF oF n cF i jp P PQ pB B cB df w0 x w)
    (p4 : drfA_val gF oF n cF i jp P PQ pB B cB 4 (x.tmps.getD 14 undef) w)
    : Stp Fc nC Try.prog drf4_ops Q 5 15 (drfA_val gF oF n cF i jp P PQ pB B cB 5) x w := by
  obtain ⟨hF, hi, hn, f0, hp, hr, f1, h2, h3, hB, hdef, u0, u3⟩ := H
  have ho : drf4_ops[5]? = some drf4_o5 := rfl
  simp only [Array.getD_eq_getD_getElem?] at u0 u3
  have q4 : x.tmps.getD 14 undef = by8 P := p4
  simp only [Array.getD_eq_getD_getElem?] at q4
  refine wpOpIn_plain ho rfl (oper_inK hF.fn (fun K hK => ?_))
  clear ho
  rw [Oper.semAt_plain Fc _ _ (by intro c h; cases h)]
  simp only [drf4_o5]
  go_simp
  refine ⟨hF.deep, (hF.call (refRight_any P w hp)).mono ?_⟩
  rintro e w' ⟨rfl, hb⟩
  exact hK _ _ ⟨_, act_putD x hdef _ _, by rw [hr]; exact rfl, hb⟩
theorem drfA_s6 (H : drfA_H Fc gF oF n cF i jp P PQ pB B cB df w0 x w)
    (p5 : drfA_val gF oF n cF i jp P PQ pB B cB 5 (x.tmps.getD 15 undef) w)
    : Stp Fc nC Try.prog drf4_ops Q 6 16 (drfA_val gF oF n cF i jp P PQ pB B cB 6) x w := by
  obtain ⟨hF, hi, hn, f0, hp, hr, f1, h2, h3, hB, hdef, u0, u3⟩ := H
  have ho : drf4_ops[6]? = some drf4_o6 := rfl
  simp only [Array.getD_eq_getD_getElem?] at u0 u3
  have q5 : x.tmps.getD 15 undef = .bool true := p5
  simp only [Array.getD_eq_getD_getElem?] at q5
  refine wpOpIn_plain ho rfl (oper_inK hF.fn (fun K hK => ?_))
  clear ho
  rw [Oper.semAt_plain Fc _ _ (by intro c h; cases h)]
  simp only [drf4_o6]
  go_simp
  exact hK _ _ ⟨_, act_putD x hdef _ _, rfl, Below.refl _ _⟩
theorem drfA_s7 (H : drfA_H Fc gF oF n cF i jp P PQ pB B cB df w0 x w)
    (p6 : drfA_val gF oF n cF i jp P PQ pB B cB 6 (x.tmps.getD 16 undef) w)
    : Stp Fc nC Try.prog drf4_ops Q 7 17 (drfA_val gF oF n cF i jp P PQ pB B cB 7) x w := by
  obtain ⟨hF, hi, hn, f0, hp, hr, f1, h2, h3, hB, hdef, u0, u3⟩ := H
  have ho : drf4_ops[7]? = some drf4_o7 := rfl
  simp only [Array.getD_eq_getD_getElem?] at u0 u3
  have q6 : x.tmps.getD 16 undef = .bool false := p6
  simp only [Array.getD_eq_getD_getElem?] at q6
  refine wpOpIn_plain ho rfl (oper_inK hF.fn (fun K hK => ?_))
  clear ho
  rw [Oper.semAt_plain Fc _ _ (by intro c h; cases h)]
  simp only [drf4_o7]
  go_simp
  exact hK _ _ ⟨_, act_putD x hdef _ _, rfl, Below.refl _ _⟩
theorem drfA_s8 (H : drfA_H Fc gF oF n cF i jp P PQ pB B cB df w0 x w)
    (p7 : drfA_val gF oF n cF i jp P PQ pB B cB 7 (x.tmps.getD 17 undef) w)
    : Stp Fc nC Try.prog drf4_ops Q 8 18 (drfA_val gF oF n cF i jp P PQ pB B cB 8) x w := by
  obtain ⟨hF, hi, hn, f0, hp, hr, f1, h2, h3, hB, hdef, u0, u3⟩ := H
  have ho : drf4_ops[8]? = some drf4_o8 := rfl
  simp only [Array.getD_eq_getD_getElem?] at u0 u3
  have q7 : x.tmps.getD 17 undef = .bool false := p7
  simp only [Array.getD_eq_getD_getElem?] at q7
  have e7 : (drf4_ops[7]?.bind fun x => x.dst) = some 17 := rfl
  have g7 := get_someT q7 (fun h => by cases h)
  refine wpOpIn_stepT hF ho (fun K hK => ?_)
  clear ho
  rw [Oper.semAt_plain Fc _ _ (by intro c h; cases h)]
  simp only [drf4_o8]
  go_simp
  exact hK _ _ ⟨_, act_putD x hdef _ _, rfl, Below.refl _ _⟩
theorem drfA_s9 (H : drfA_H Fc gF oF n cF i jp P PQ pB B cB df w0 x w)
    (p7 : drfA_val gF oF n cF i jp P PQ pB B cB 7 (x.tmps.getD 17 undef) w)
    : Stp Fc nC Try.prog drf4_ops Q 9 19 (drfA_val gF oF n cF i jp P PQ pB B cB 9) x w := by
  obtain ⟨hF, hi, hn, f0, hp, hr, f1, h2, h3, hB, hdef, u0, u3⟩ := H
  have ho : drf4_ops[9]? = some drf4_o9 := rfl
  simp only [Array.getD_eq_getD_getElem?] at u0 u3
  have q7 : x.tmps.getD 17 undef = .bool false := p7
  simp only [Array.getD_eq_getD_getElem?] at q7
  have e7 : (drf4_ops[7]?.bind fun x => x.dst) = some 17 := rfl
  have g7 := get_someT q7 (fun h => by cases h)
  refine wpOpIn_stepT hF ho (fun K hK => ?_)
  clear ho
  rw [Oper.semAt_plain Fc _ _ (by intro c h; cases h)]
  simp only [drf4_o9]
  go_simp
  exact hK _ _ ⟨_, act_putD x hdef _ _, rfl, Below.refl _ _⟩
theorem drfA_s10 (H : drfA_H Fc gF oF n cF i jp P PQ pB B cB df w0 x w)
    (p8 : drfA_val gF oF n cF i jp P PQ pB B cB 8 (x.tmps.getD 18 undef) w)
    (p9 : drfA_val gF oF n cF i jp P PQ pB B cB 9 (x.tmps.getD 19 undef) w)
    (p7 : drfA_val gF oF n cF i jp P PQ pB B cB 7 (x.tmps.getD 17 undef) w)
    : Stp Fc nC Try.prog drf4_ops Q 10 20 (drfA_val gF oF n cF i jp P PQ pB B cB 10) x w := by
  obtain ⟨hF, hi, hn, f0, hp, hr, f1, h2, h3, hB, hdef, u0, u3⟩ := H
  have ho : drf4_ops[10]? = some drf4_o10 := rfl
  simp only [Array.getD_eq_getD_getElem?] at u0 u3
  have q8 : x.tmps.getD 18 undef = .slice (some ⟨gF, oF, none⟩) n cF := p8
  have q9 : x.tmps.getD 19 undef = .int .i64 (i : Nat) := p9
  have q7 : x.tmps.getD 17 undef = .bool false := p7
  simp only [Array.getD_eq_getD_getElem?] at q8 q9 q7
  have e7 : (drf4_ops[7]?.bind fun x => x.dst) = some 17 := rfl
  have g7 := get_someT q7 (fun h => by cases h)
  have i0 : (0 : Int) ≤ (i : Int) := by omega
  have i1 : (i : Int) < (n : Int) := by omega
  refine wpOpIn_stepT hF ho (fun K hK => ?_)
  clear ho
  rw [Oper.semAt_plain Fc _ _ (by intro c h; cases h)]
  simp only [drf4_o10]
  go_simp
  exact hK _ _ ⟨_, act_putD x hdef _ _, rfl, Below.refl _ _⟩
theorem drfA_s11 (H : drfA_H Fc gF oF n cF i jp P PQ pB B cB df w0 x w)
    (p10 : drfA_val gF oF n cF i jp P PQ pB B cB 10 (x.tmps.getD 20 undef) w)
    (p7 : drfA_val gF oF n cF i jp P PQ pB B cB 7 (x.tmps.getD 17 undef) w)
    : Stp Fc nC Try.prog drf4_ops Q 11 21 (drfA_val gF oF n cF i jp P PQ pB B cB 11) x w := by
  obtain ⟨hF, hi, hn, f0, hp, hr, f1, h2, h3, hB, hdef, u0, u3⟩ := H
  have ho : drf4_ops[11]? = some drf4_o11 := rfl
  simp only [Array.getD_eq_getD_getElem?] at u0 u3
  have q10 : x.tmps.getD 20 undef = .pointer (some ⟨gF, oF + i * 2, none⟩) := p10
  have q7 : x.tmps.getD 17 undef = .bool false := p7
  simp only [Array.getD_eq_getD_getElem?] at q10 q7
  have e7 : (drf4_ops[7]?.bind fun x => x.dst) = some 17 := rfl
  have g7 := get_someT q7 (fun h => by cases h)
  refine wpOpIn_stepT hF ho (fun K hK => ?_)
  clear ho
  rw [Oper.semAt_plain Fc _ _ (by intro c h; cases h)]
  simp only [drf4_o11]
  go_simp
  exact hK _ _ ⟨_, act_putD x hdef _ _, rfl, Below.refl _ _⟩
theorem drfA_s12 (H : drfA_H Fc gF oF n cF i jp P PQ pB B cB df w0 x w)
    (p11 : drfA_val gF oF n cF i jp P PQ pB B cB 11 (x.tmps.getD 21 undef) w)
    (p7 : drfA_val gF oF n cF i jp P PQ pB B cB 7 (x.tmps.getD 17 undef) w)
    : Stp Fc nC Try.prog drf4_ops Q 12 22 (drfA_val gF oF n cF i jp P PQ pB B cB 12) x w := by
  obtain ⟨hF, hi, hn, f0, hp, hr, f1, h2, h3, hB, hdef, u0, u3⟩ := H
  have ho : drf4_ops[12]? = some drf4_o12 := rfl
  simp only [Array.getD_eq_getD_getElem?] at u0 u3
  have q11 : x.tmps.getD 21 undef = .pointer (some ⟨gF, oF + i * 2 + 1, none⟩) := p11
  have q7 : x.tmps.getD 17 undef = .bool false := p7
  simp only [Array.getD_eq_getD_getElem?] at q11 q7
  have e7 : (drf4_ops[7]?.bind fun x => x.dst) = some 17 := rfl
  have g7 := get_someT q7 (fun h => by cases h)
  have m := cell_thru f1 hB
  refine wpOpIn_stepT hF ho (fun K hK => ?_)
  clear ho
  rw [Oper.semAt_plain Fc _ _ (by intro c h; cases h)]
  simp only [drf4_o12]
  go_simp
  exact hK _ _ ⟨_, act_putD x hdef _ _, rfl, Below.refl _ _⟩
theorem drfA_s13 (H : drfA_H Fc gF oF n cF i jp P PQ pB B cB df w0 x w)
    (p12 : drfA_val gF oF n cF i jp P PQ pB B cB 12 (x.tmps.getD 22 undef) w)
    (p7 : drfA_val gF oF n cF i jp P PQ pB B cB 7 (x.tmps.getD 17 undef) w)
    : Stp Fc nC Try.prog drf4_ops Q 13 23 (drfA_val gF oF n cF i jp P PQ pB B cB 13) x w := by
  obtain ⟨hF, hi, hn, f0, hp, hr, f1, h2, h3, hB, hdef, u0, u3⟩ := H
  have ho : drf4_ops[13]? = some drf4_o13 := rfl
  simp only [Array.getD_eq_getD_getElem?] at u0 u3
  have q12 : x.tmps.getD 22 undef = .slice pB (B.length) cB := p12
  have q7 : x.tmps.getD 17 undef = .bool false := p7
  simp only [Array.getD_eq_getD_getElem?] at q12 q7
  have e7 : (drf4_ops[7]?.bind fun x => x.dst) = some 17 := rfl
  have g7 := get_someT q7 (fun h => by cases h)
  refine wpOpIn_stepT hF ho (fun K hK => ?_)
  clear ho
  rw [Oper.semAt_plain Fc _ _ (by intro c h; cases h)]
  simp only [drf4_o13]
  go_simp
  exact hK _ _ ⟨_, act_putD x hdef _ _, rfl, Below.refl _ _⟩
theorem drfA_s14 (H : drfA_H Fc gF oF n cF i jp P PQ pB B cB df w0 x w)
    (p13 : drfA_val gF oF n cF i jp P PQ pB B cB 13 (x.tmps.getD 23 undef) w)
    (p7 : drfA_val gF oF n cF i jp P PQ pB B cB 7 (x.tmps.getD 17 undef) w)
    : Stp Fc nC Try.prog drf4_ops Q 14 24 (drfA_val gF oF n cF i jp P PQ pB B cB 14) x w := by
  obtain ⟨hF, hi, hn, f0, hp, hr, f1, h2, h3, hB, hdef, u0, u3⟩ := H
  have ho : drf4_ops[14]? = some drf4_o14 := rfl
  simp only [Array.getD_eq_getD_getElem?] at u0 u3
  have q13 : x.tmps.getD 23 undef = .int .i64 ((B.length) : Nat) := p13
  have q7 : x.tmps.getD 17 undef = .bool false := p7
  simp only [Array.getD_eq_getD_getElem?] at q13 q7
  have e7 : (drf4_ops[7]?.bind fun x => x.dst) = some 17 := rfl
  have g7 := get_someT q7 (fun h => by cases h)
  have m := h2
  refine wpOpIn_stepT hF ho (fun K hK => ?_)
  clear ho
  rw [Oper.semAt_plain Fc _ _ (by intro c h; cases h)]
  simp only [drf4_o14]
  go_simp
  exact hK _ _ ⟨_, act_putD x hdef _ _, rfl, Below.refl _ _⟩
theorem drfA_s15 (H : drfA_H Fc gF oF n cF i jp P PQ pB B cB df w0 x w)
    (p7 : drfA_val gF oF n cF i jp P PQ pB B cB 7 (x.tmps.getD 17 undef) w)
    (p14 : drfA_val gF oF n cF i jp P PQ pB B cB 14 (x.tmps.getD 24 undef) w)
    : Stp Fc nC Try.prog drf4_ops Q 15 25 (drfA_val gF oF n cF i jp P PQ pB B cB 15) x w := by
  obtain ⟨hF, hi, hn, f0, hp, hr, f1, h2, h3, hB, hdef, u0, u3⟩ := H
  have ho : drf4_ops[15]? = some drf4_o15 := rfl
  simp only [Array.getD_eq_getD_getElem?] at u0 u3
  have q7 : x.tmps.getD 17 undef = .bool false := p7
  have q14 : x.tmps.getD 24 undef = .bool false := p14
  simp only [Array.getD_eq_getD_getElem?] at q7 q14
  refine wpOpIn_plain ho rfl (oper_inK hF.fn (fun K hK => ?_))
  clear ho
  rw [Oper.semAt_plain Fc _ _ (by intro c h; cases h)]
  simp only [drf4_o15]
  go_simp
  exact hK _ _ ⟨_, act_putD x hdef _ _, rfl, Below.refl _ _⟩
theorem drfA_s16 (H : drfA_H Fc gF oF n cF i jp P PQ pB B cB df w0 x w)
    (p15 : drfA_val gF oF n cF i jp P PQ pB B cB 15 (x.tmps.getD 25 undef) w)
    : Stp Fc nC Try.prog drf4_ops Q 16 26 (drfA_val gF oF n cF i jp P PQ pB B cB 16) x w := by
  obtain ⟨hF, hi, hn, f0, hp, hr, f1, h2, h3, hB, hdef, u0, u3⟩ := H
  have ho : drf4_ops[16]? = some drf4_o16 := rfl
  simp only [Array.getD_eq_getD_getElem?] at u0 u3
  have q15 : x.tmps.getD 25 undef = .bool false := p15
  simp only [Array.getD_eq_getD_getElem?] at q15
  refine wpOpIn_plain ho rfl (oper_inK hF.fn (fun K hK => ?_))
  clear ho
  rw [Oper.semAt_plain Fc _ _ (by intro c h; cases h)]
  simp only [drf4_o16]
  go_simp
  exact hK _ _ ⟨_, act_putD x hdef _ _, rfl, Below.refl _ _⟩
theorem drfA_s17 (H : drfA_H Fc gF oF n cF i jp P PQ pB B cB df w0 x w)
    (p16 : drfA_val gF oF n cF i jp P PQ pB B cB 16 (x.tmps.getD 26 undef) w)
    : Stp Fc nC Try.prog drf4_ops Q 17 27 (drfA_val gF oF n cF i jp P PQ pB B cB 17) x w := by
  obtain ⟨hF, hi, hn, f0, hp, hr, f1, h2, h3, hB, hdef, u0, u3⟩ := H
  have ho : drf4_ops[17]? = some drf4_o17 := rfl
  simp only [Array.getD_eq_getD_getElem?] at u0 u3
  have q16 : x.tmps.getD 26 undef = .bool false := p16
  simp only [Array.getD_eq_getD_getElem?] at q16
  have e16 : (drf4_ops[16]?.bind fun x => x.dst) = some 26 := rfl
  have g16 := get_someT q16 (fun h => by cases h)
  refine wpOpIn_stepT hF ho (fun K hK => ?_)
  clear ho
  rw [Oper.semAt_plain Fc _ _ (by intro c h; cases h)]
  simp only [drf4_o17]
  go_simp
  exact hK _ _ ⟨_, act_putD x hdef _ _, rfl, Below.refl _ _⟩
theorem drfA_s18 (H : drfA_H Fc gF oF n cF i jp P PQ pB B cB df w0 x w)
    (p17 : drfA_val gF oF n cF i jp P PQ pB B cB 17 (x.tmps.getD 27 undef) w)
    (p16 : drfA_val gF oF n cF i jp P PQ pB B cB 16 (x.tmps.getD 26 undef) w)
    : Stp Fc nC Try.prog drf4_ops Q 18 28 (drfA_val gF oF n cF i jp P PQ pB B cB 18) x w := by
  obtain ⟨hF, hi, hn, f0, hp, hr, f1, h2, h3, hB, hdef, u0, u3⟩ := H
  have ho : drf4_ops[18]? = some drf4_o18 := rfl
  simp only [Array.getD_eq_getD_getElem?] at u0 u3
  have q17 : x.tmps.getD 27 undef = .int .i64 (i : Nat) := p17
  have q16 : x.tmps.getD 26 undef = .bool false := p16
  simp only [Array.getD_eq_getD_getElem?] at q17 q16
  have e16 : (drf4_ops[16]?.bind fun x => x.dst) = some 26 := rfl
  have g16 := get_someT q16 (fun h => by cases h)
  have m := h3
  refine wpOpIn_stepT hF ho (fun K hK => ?_)
  clear ho
  rw [Oper.semAt_plain Fc _ _ (by intro c h; cases h)]
  simp only [drf4_o18]
  go_simp
  exact hK _ _ ⟨_, act_putD x hdef _ _, rfl, Below.refl _ _⟩
theorem drfA_s19 (H : drfA_H Fc gF oF n cF i jp P PQ pB B cB df w0 x w)
    (p18 : drfA_val gF oF n cF i jp P PQ pB B cB 18 (x.tmps.getD 28 undef) w)
    (p16 : drfA_val gF oF n cF i jp P PQ pB B cB 16 (x.tmps.getD 26 undef) w)
    : Stp Fc nC Try.prog drf4_ops Q 19 29 (drfA_val gF oF n cF i jp P PQ pB B cB 19) x w := by
  obtain ⟨hF, hi, hn, f0, hp, hr, f1, h2, h3, hB, hdef, u0, u3⟩ := H
  have ho : drf4_ops[19]? = some drf4_o19 := rfl
  simp only [Array.getD_eq_getD_getElem?] at u0 u3
  have q18 : x.tmps.getD 28 undef = .bool false := p18
  have q16 : x.tmps.getD 26 undef = .bool false := p16
  simp only [Array.getD_eq_getD_getElem?] at q18 q16
  have e16 : (drf4_ops[16]?.bind fun x => x.dst) = some 26 := rfl
  have g16 := get_someT q16 (fun h => by cases h)
  refine wpOpIn_stepT hF ho (fun K hK => ?_)
  clear ho
  rw [Oper.semAt_plain Fc _ _ (by intro c h; cases h)]
  simp only [drf4_o19]
  go_simp
  exact hK _ _ ⟨_, act_putD x hdef _ _, rfl, Below.refl _ _⟩
theorem drfA_s20 (H : drfA_H Fc gF oF n cF i jp P PQ pB B cB df w0 x w)
    (p19 : drfA_val gF oF n cF i jp P PQ pB B cB 19 (x.tmps.getD 29 undef) w)
    : Stp Fc nC Try.prog drf4_ops Q 20 30 (drfA_val gF oF n cF i jp P PQ pB B cB 20) x w := by
  obtain ⟨hF, hi, hn, f0, hp, hr, f1, h2, h3, hB, hdef, u0, u3⟩ := H
  have ho : drf4_ops[20]? = some drf4_o20 := rfl
  simp only [Array.getD_eq_getD_getElem?] at u0 u3
  have q19 : x.tmps.getD 29 undef = .bool false := p19
  simp only [Array.getD_eq_getD_getElem?] at q19
  have e19 : (drf4_ops[19]?.bind fun x => x.dst) = some 29 := rfl
  have g19 := get_someT q19 (fun h => by cases h)
  refine wpOpIn_stepT hF ho (fun K hK => ?_)
  clear ho
  rw [Oper.semAt_plain Fc _ _ (by intro c h; cases h)]
  simp only [drf4_o20]
  go_simp
  exact hK _ _ ⟨_, act_putD x hdef _ _, rfl, Below.refl _ _⟩
theorem drfA_s21 (H : drfA_H Fc gF oF n cF i jp P PQ pB B cB df w0 x w)
    (p19 : drfA_val gF oF n cF i jp P PQ pB B cB 19 (x.tmps.getD 29 undef) w)
    : Stp Fc nC Try.prog drf4_ops Q 21 31 (drfA_val gF oF n cF i jp P PQ pB B cB 21) x w := by
  obtain ⟨hF, hi, hn, f0, hp, hr, f1, h2, h3, hB, hdef, u0, u3⟩ := H
  have ho : drf4_ops[21]? = some drf4_o21 := rfl
  simp only [Array.getD_eq_getD_getElem?] at u0 u3
  have q19 : x.tmps.getD 29 undef = .bool false := p19
  simp only [Array.getD_eq_getD_getElem?] at q19
  have e19 : (drf4_ops[19]?.bind fun x => x.dst) = some 29 := rfl
  have g19 := get_someT q19 (fun h => by cases h)
  refine wpOpIn_stepT hF ho (fun K hK => ?_)
  clear ho
  rw [Oper.semAt_plain Fc _ _ (by intro c h; cases h)]
  simp only [drf4_o21]
  go_simp
  exact hK _ _ ⟨_, act_putD x hdef _ _, rfl, Below.refl _ _⟩
theorem drfA_s22 (H : drfA_H Fc gF oF n cF i jp P PQ pB B cB df w0 x w)
    (p21 : drfA_val gF oF n cF i jp P PQ pB B cB 21 (x.tmps.getD 31 undef) w)
    (p19 : drfA_val gF oF n cF i jp P PQ pB B cB 19 (x.tmps.getD 29 undef) w)
    : Stp Fc nC Try.prog drf4_ops Q 22 32 (drfA_val gF oF n cF i jp P PQ pB B cB 22) x w := by
  obtain ⟨hF, hi, hn, f0, hp, hr, f1, h2, h3, hB, hdef, u0, u3⟩ := H
  have ho : drf4_ops[22]? = some drf4_o22 := rfl
  simp only [Array.getD_eq_getD_getElem?] at u0 u3
  have q21 : x.tmps.getD 31 undef = undef := p21
  have q19 : x.tmps.getD 29 undef = .bool false := p19
  simp only [Array.getD_eq_getD_getElem?] at q21 q19
  have e19 : (drf4_ops[19]?.bind fun x => x.dst) = some 29 := rfl
  have g19 := get_someT q19 (fun h => by cases h)
  refine wpOpIn_stepT hF ho (fun K hK => ?_)
  clear ho
  rw [Oper.semAt_plain Fc _ _ (by intro c h; cases h)]
  simp only [drf4_o22]
  go_simp
  exact hK _ _ ⟨_, act_putD x hdef _ _, rfl, Below.refl _ _⟩
theorem drfA_s23 (H : drfA_H Fc gF oF n cF i jp P PQ pB B cB df w0 x w)
    (p20 : drfA_val gF oF n cF i jp P PQ pB B cB 20 (x.tmps.getD 30 undef) w)
    (p22 : drfA_val gF oF n cF i jp P PQ pB B cB 22 (x.tmps.getD 32 undef) w)
    (p19 : drfA_val gF oF n cF i jp P PQ pB B cB 19 (x.tmps.getD 29 undef) w)
    : Stp Fc nC Try.prog drf4_ops Q 23 33 (drfA_val gF oF n cF i jp P PQ pB B cB 23) x w := by
  obtain ⟨hF, hi, hn, f0, hp, hr, f1, h2, h3, hB, hdef, u0, u3⟩ := H
  have ho : drf4_ops[23]? = some drf4_o23 := rfl
  simp only [Array.getD_eq_getD_getElem?] at u0 u3
  have q20 : x.tmps.getD 30 undef = undef := p20
  have q22 : x.tmps.getD 32 undef = undef := p22
  have q19 : x.tmps.getD 29 undef = .bool false := p19
  simp only [Array.getD_eq_getD_getElem?] at q20 q22 q19
  have e19 : (drf4_ops[19]?.bind fun x => x.dst) = some 29 := rfl
  have g19 := get_someT q19 (fun h => by cases h)
  refine wpOpIn_stepT hF ho (fun K hK => ?_)
  clear ho
  rw [Oper.semAt_plain Fc _ _ (by intro c h; cases h)]
  simp only [drf4_o23]
  go_simp
  exact hK _ _ ⟨_, act_putD x hdef _ _, rfl, Below.refl _ _⟩
theorem drfA_s24 (H : drfA_H Fc gF oF n cF i jp P PQ pB B cB df w0 x w)
    (p23 : drfA_val gF oF n cF i jp P PQ pB B cB 23 (x.tmps.getD 33 undef) w)
    (p19 : drfA_val gF oF n cF i jp P PQ pB B cB 19 (x.tmps.getD 29 undef) w)
    : Stp Fc nC Try.prog drf4_ops Q 24 34 (drfA_val gF oF n cF i jp P PQ pB B cB 24) x w := by
  obtain ⟨hF, hi, hn, f0, hp, hr, f1, h2, h3, hB, hdef, u0, u3⟩ := H
  have ho : drf4_ops[24]? = some drf4_o24 := rfl
  simp only [Array.getD_eq_getD_getElem?] at u0 u3
  have q23 : x.tmps.getD 33 undef = undef := p23
  have q19 : x.tmps.getD 29 undef = .bool false := p19
  simp only [Array.getD_eq_getD_getElem?] at q23 q19
  have e19 : (drf4_ops[19]?.bind fun x => x.dst) = some 29 := rfl
  have g19 := get_someT q19 (fun h => by cases h)
  refine wpOpIn_stepT hF ho (fun K hK => ?_)
  clear ho
  rw [Oper.semAt_plain Fc _ _ (by intro c h; cases h)]
  simp only [drf4_o24]
  go_simp
  exact hK _ _ ⟨_, act_putD x hdef _ _, rfl, Below.refl _ _⟩
theorem drfA_s25 (H : drfA_H Fc gF oF n cF i jp P PQ pB B cB df w0 x w)
    (p24 : drfA_val gF oF n cF i jp P PQ pB B cB 24 (x.tmps.getD 34 undef) w)
    (p19 : drfA_val gF oF n cF i jp P PQ pB B cB 19 (x.tmps.getD 29 undef) w)
    : Stp Fc nC Try.prog drf4_ops Q 25 35 (drfA_val gF oF n cF i jp P PQ pB B cB 25) x w := by
  obtain ⟨hF, hi, hn, f0, hp, hr, f1, h2, h3, hB, hdef, u0, u3⟩ := H
  have ho : drf4_ops[25]? = some drf4_o25 := rfl
  simp only [Array.getD_eq_getD_getElem?] at u0 u3
  have q24 : x.tmps.getD 34 undef = undef := p24
  have q19 : x.tmps.getD 29 undef = .bool false := p19
  simp only [Array.getD_eq_getD_getElem?] at q24 q19
  have e19 : (drf4_ops[19]?.bind fun x => x.dst) = some 29 := rfl
  have g19 := get_someT q19 (fun h => by cases h)
  refine wpOpIn_stepT hF ho (fun K hK => ?_)
  clear ho
  rw [Oper.semAt_plain Fc _ _ (by intro c h; cases h)]
  simp only [drf4_o25]
  go_simp
  exact hK _ _ ⟨_, act_putD x hdef _ _, rfl, Below.refl _ _⟩
theorem drfA_s26 (H : drfA_H Fc gF oF n cF i jp P PQ pB B cB df w0 x w)
    (p19 : drfA_val gF oF n cF i jp P PQ pB B cB 19 (x.tmps.getD 29 undef) w)
    : Stp Fc nC Try.prog drf4_ops Q 26 36 (drfA_val gF oF n cF i jp P PQ pB B cB 26) x w := by
  obtain ⟨hF, hi, hn, f0, hp, hr, f1, h2, h3, hB, hdef, u0, u3⟩ := H
  have ho : drf4_ops[26]? = some drf4_o26 := rfl
  simp only [Array.getD_eq_getD_getElem?] at u0 u3
  have q19 : x.tmps.getD 29 undef = .bool false := p19
  simp only [Array.getD_eq_getD_getElem?] at q19
  have e19 : (drf4_ops[19]?.bind fun x => x.dst) = some 29 := rfl
  have g19 := get_someT q19 (fun h => by cases h)
  refine wpOpIn_stepT hF ho (fun K hK => ?_)
  clear ho
  rw [Oper.semAt_plain Fc _ _ (by intro c h; cases h)]
  simp only [drf4_o26]
  go_simp
  exact hK _ _ ⟨_, act_putD x hdef _ _, rfl, Below.refl _ _⟩
theorem drfA_s27 (H : drfA_H Fc gF oF n cF i jp P PQ pB B cB df w0 x w)
    (p19 : drfA_val gF oF n cF i jp P PQ pB B cB 19 (x.tmps.getD 29 undef) w)
    : Stp Fc nC Try.prog drf4_ops Q 27 37 (drfA_val gF oF n cF i jp P PQ pB B cB 27) x w := by
  obtain ⟨hF, hi, hn, f0, hp, hr, f1, h2, h3, hB, hdef, u0, u3⟩ := H
  have ho : drf4_ops[27]? = some drf4_o27 := rfl
  simp only [Array.getD_eq_getD_getElem?] at u0 u3
  have q19 : x.tmps.getD 29 undef = .bool false := p19
  simp only [Array.getD_eq_getD_getElem?] at q19
  have e19 : (drf4_ops[19]?.bind fun x => x.dst) = some 29 := rfl
  have g19 := get_someT q19 (fun h => by cases h)
  refine wpOpIn_stepT hF ho (fun K hK => ?_)
  clear ho
  rw [Oper.semAt_plain Fc _ _ (by intro c h; cases h)]
  simp only [drf4_o27]
  go_simp
  exact hK _ _ ⟨_, act_putD x hdef _ _, rfl, Below.refl _ _⟩
theorem drfA_s28 (H : drfA_H Fc gF oF n cF i jp P PQ pB B cB df w0 x w)
    (p26 : drfA_val gF oF n cF i jp P PQ pB B cB 26 (x.tmps.getD 36 undef) w)
    (p27 : drfA_val gF oF n cF i jp P PQ pB B cB 27 (x.tmps.getD 37 undef) w)
    (p19 : drfA_val gF oF n cF i jp P PQ pB B cB 19 (x.tmps.getD 29 undef) w)
    : Stp Fc nC Try.prog drf4_ops Q 28 38 (drfA_val gF oF n cF i jp P PQ pB B cB 28) x w := by
  obtain ⟨hF, hi, hn, f0, hp, hr, f1, h2, h3, hB, hdef, u0, u3⟩ := H
  have ho : drf4_ops[28]? = some drf4_o28 := rfl
  simp only [Array.getD_eq_getD_getElem?] at u0 u3
  have q26 : x.tmps.getD 36 undef = undef := p26
  have q27 : x.tmps.getD 37 undef = undef := p27
  have q19 : x.tmps.getD 29 undef = .bool false := p19
  simp only [Array.getD_eq_getD_getElem?] at q26 q27 q19
  have e19 : (drf4_ops[19]?.bind fun x => x.dst) = some 29 := rfl
  have g19 := get_someT q19 (fun h => by cases h)
  refine wpOpIn_stepT hF ho (fun K hK => ?_)
  clear ho
  rw [Oper.semAt_plain Fc _ _ (by intro c h; cases h)]
  simp only [drf4_o28]
  go_simp
  exact hK _ _ ⟨_, act_putD x hdef _ _, rfl, Below.refl _ _⟩
theorem drfA_s29 (H : drfA_H Fc gF oF n cF i jp P PQ pB B cB df w0 x w)
    (p28 : drfA_val gF oF n cF i jp P PQ pB B cB 28 (x.tmps.getD 38 undef) w)
    (p19 : drfA_val gF oF n cF i jp P PQ pB B cB 19 (x.tmps.getD 29 undef) w)
    : Stp Fc nC Try.prog drf4_ops Q 29 39 (drfA_val gF oF n cF i jp P PQ pB B cB 29) x w := by
  obtain ⟨hF, hi, hn, f0, hp, hr, f1, h2, h3, hB, hdef, u0, u3⟩ := H
  have ho : drf4_ops[29]? = some drf4_o29 := rfl
  simp only [Array.getD_eq_getD_getElem?] at u0 u3
  have q28 : x.tmps.getD 38 undef = undef := p28
  have q19 : x.tmps.getD 29 undef = .bool false := p19
  simp only [Array.getD_eq_getD_getElem?] at q28 q19
  have e19 : (drf4_ops[19]?.bind fun x => x.dst) = some 29 := rfl
  have g19 := get_someT q19 (fun h => by cases h)
  refine wpOpIn_stepT hF ho (fun K hK => ?_)
  clear ho
  rw [Oper.semAt_plain Fc _ _ (by intro c h; cases h)]
  simp only [drf4_o29]
  go_simp
  exact hK _ _ ⟨_, act_putD x hdef _ _, rfl, Below.refl _ _⟩
theorem drfA_s30 (H : drfA_H Fc gF oF n cF i jp P PQ pB B cB df w0 x w)
    (p29 : drfA_val gF oF n cF i jp P PQ pB B cB 29 (x.tmps.getD 39 undef) w)
    (p19 : drfA_val gF oF n cF i jp P PQ pB B cB 19 (x.tmps.getD 29 undef) w)
    : Stp Fc nC Try.prog drf4_ops Q 30 40 (drfA_val gF oF n cF i jp P PQ pB B cB 30) x w := by
  obtain ⟨hF, hi, hn, f0, hp, hr, f1, h2, h3, hB, hdef, u0, u3⟩ := H
  have ho : drf4_ops[30]? = some drf4_o30 := rfl
  simp only [Array.getD_eq_getD_getElem?] at u0 u3
  have q29 : x.tmps.getD 39 undef = undef := p29
  have q19 : x.tmps.getD 29 undef = .bool false := p19
  simp only [Array.getD_eq_getD_getElem?] at q29 q19
  have e19 : (drf4_ops[19]?.bind fun x => x.dst) = some 29 := rfl
  have g19 := get_someT q19 (fun h => by cases h)
  refine wpOpIn_stepT hF ho (fun K hK => ?_)
  clear ho
  rw [Oper.semAt_plain Fc _ _ (by intro c h; cases h)]
  simp only [drf4_o30]
  go_simp
  exact hK _ _ ⟨_, act_putD x hdef _ _, rfl, Below.refl _ _⟩
theorem drfA_s31 (H : drfA_H Fc gF oF n cF i jp P PQ pB B cB df w0 x w)
    (p25 : drfA_val gF oF n cF i jp P PQ pB B cB 25 (x.tmps.getD 35 undef) w)
    (p30 : drfA_val gF oF n cF i jp P PQ pB B cB 30 (x.tmps.getD 40 undef) w)
    (p19 : drfA_val gF oF n cF i jp P PQ pB B cB 19 (x.tmps.getD 29 undef) w)
    : Stp Fc nC Try.prog drf4_ops Q 31 41 (drfA_val gF oF n cF i jp P PQ pB B cB 31) x w := by
  obtain ⟨hF, hi, hn, f0, hp, hr, f1, h2, h3, hB, hdef, u0, u3⟩ := H
  have ho : drf4_ops[31]? = some drf4_o31 := rfl
  simp only [Array.getD_eq_getD_getElem?] at u0 u3
  have q25 : x.tmps.getD 35 undef = undef := p25
  have q30 : x.tmps.getD 40 undef = undef := p30
  have q19 : x.tmps.getD 29 undef = .bool false := p19
  simp only [Array.getD_eq_getD_getElem?] at q25 q30 q19
  have e19 : (drf4_ops[19]?.bind fun x => x.dst) = some 29 := rfl
  have g19 := get_someT q19 (fun h => by cases h)
  refine wpOpIn_stepT hF ho (fun K hK => ?_)
  clear ho
  rw [Oper.semAt_plain Fc _ _ (by intro c h; cases h)]
  simp only [drf4_o31]
  go_simp
  exact hK _ _ ⟨_, act_putD x hdef _ _, rfl, Below.refl _ _⟩
theorem drfA_s32 (H : drfA_H Fc gF oF n cF i jp P PQ pB B cB df w0 x w)
    (p19 : drfA_val gF oF n cF i jp P PQ pB B cB 19 (x.tmps.getD 29 undef) w)
    (p31 : drfA_val gF oF n cF i jp P PQ pB B cB 31 (x.tmps.getD 41 undef) w)
    (p16 : drfA_val gF oF n cF i jp P PQ pB B cB 16 (x.tmps.getD 26 undef) w)
    : Stp Fc nC Try.prog drf4_ops Q 32 42 (drfA_val gF oF n cF i jp P PQ pB B cB 32) x w := by
  obtain ⟨hF, hi, hn, f0, hp, hr, f1, h2, h3, hB, hdef, u0, u3⟩ := H
  have ho : drf4_ops[32]? = some drf4_o32 := rfl
  simp only [Array.getD_eq_getD_getElem?] at u0 u3
  have q19 : x.tmps.getD 29 undef = .bool false := p19
  have q31 : x.tmps.getD 41 undef = undef := p31
  have q16 : x.tmps.getD 26 undef = .bool false := p16
  simp only [Array.getD_eq_getD_getElem?] at q19 q31 q16
  have e16 : (drf4_ops[16]?.bind fun x => x.dst) = some 26 := rfl
  have g16 := get_someT q16 (fun h => by cases h)
  refine wpOpIn_stepT hF ho (fun K hK => ?_)
  clear ho
  rw [Oper.semAt_plain Fc _ _ (by intro c h; cases h)]
  simp only [drf4_o32]
  go_simp
  exact hK _ _ ⟨_, act_putD x hdef _ _, rfl, Below.refl _ _⟩
theorem drfA_s33 (H : drfA_H Fc gF oF n cF i jp P PQ pB B cB df w0 x w)
    (p16 : drfA_val gF oF n cF i jp P PQ pB B cB 16 (x.tmps.getD 26 undef) w)
    (p32 : drfA_val gF oF n cF i jp P PQ pB B cB 32 (x.tmps.getD 42 undef) w)
    : Stp Fc nC Try.prog drf4_ops Q 33 43 (drfA_val gF oF n cF i jp P PQ pB B cB 33) x w := by
  obtain ⟨hF, hi, hn, f0, hp, hr, f1, h2, h3, hB, hdef, u0, u3⟩ := H
  have ho : drf4_ops[33]? = some drf4_o33 := rfl
  simp only [Array.getD_eq_getD_getElem?] at u0 u3
  have q16 : x.tmps.getD 26 undef = .bool false := p16
  have q32 : x.tmps.getD 42 undef = .bool false := p32
  simp only [Array.getD_eq_getD_getElem?] at q16 q32
  refine wpOpIn_plain ho rfl (oper_inK hF.fn (fun K hK => ?_))
  clear ho
  rw [Oper.semAt_plain Fc _ _ (by intro c h; cases h)]
  simp only [drf4_o33]
  go_simp
  exact hK _ _ ⟨_, act_putD x hdef _ _, rfl, Below.refl _ _⟩
end

set_option maxRecDepth 100000 in
set_option maxHeartbeats 4000000 in
theorem drfA {Fc : Fence} (hF : Wide Fc) {nC : Nat} (gF oF n cF i jp : Nat) (P PQ : List UInt8) (pB : Option Addr) (B : List Nat) (cB : Nat) (Q : Exit → Act → World → Prop) (t0 : Array Value) (df : List Deferred) (w0 : World) (ht : t0.size = 47)
    (hs0 : t0.getD 0 undef = .slice (some ⟨gF, oF, none⟩) n cF) (hs3 : t0.getD 3 undef = .int .i64 (i : Nat))
    (hi : i < n) (hn : n ≤ 140737488351232) (f0 : w0.cell? ⟨gF, oF + i * 2, none⟩ = some (by8 P)) (hp : P.length ≤ 1000000) (hr : rightP P = true) (f1 : w0.cell? ⟨gF, oF + i * 2 + 1, none⟩ = some (.slice pB (B.length) cB)) (h2 : decide ((1048576 : Int) < (B.length : Nat)) = false) (h3 : decide (0 < i) = false)
    (hQ : ∀ (vs : Nat → Value) (w : World), Below w0.heap.size w0 w → (vs 43 = .bool false) → Q .normal { tmps := [10, 11, 12, 13, 14, 15, 16, 17, 18, 19, 20, 21, 22, 23, 24, 25, 26, 27, 28, 29, 30, 31, 32, 33, 34, 35, 36, 37, 38, 39, 40, 41, 42, 43].foldl (fun y d => y.setIfInBounds d (vs d)) t0, defers := df } w) :
    (Code.region 4 drf4_ops true).wpIn Fc nC Try.prog Q { tmps := t0, defers := df } w0 := by
  refine wpIn_region_tail 34 (by decide) (by kernel_rfl) (fun a b => Below a.heap.size a b) (drfA_val gF oF n cF i jp P PQ pB B cB) t0 df w0 (by rw [ht]; kernel_rfl) (by kernel_rfl) (by kernel_rfl) (by kernel_rfl) ((Below.refl _ _).drew) (fun _ _ _ h k => h.trans (k.mono h.size)) (drfA_below gF oF n cF i jp P PQ pB B cB) ?_ ?_
  · intro j o ho hj x w hB hdef hsz hs hdeps
    have hs' : ∀ s, ¬ drf4_mem s → x.tmps.getD s undef = t0.getD s undef := fun s hn => hs s (fun j hj e => hn (by rw [e]; exact drf4_slots j hj))
    have u0 := (hs' 0 (by decide)).trans hs0
    have u3 := (hs' 3 (by decide)).trans hs3
    have H : drfA_H Fc gF oF n cF i jp P PQ pB B cB df w0 x w := ⟨hF, hi, hn, f0, hp, hr, f1, h2, h3, hB, hdef, u0, u3⟩
    match j, ho, hj with
    | 0, ho, _ =>
      have e : o = drf4_o0 := (Option.some.inj ho).symm
      subst e
      exact drfA_s0 gF oF n cF i jp P PQ pB B cB Q df w0 x w H 
    | 1, ho, _ =>
      have e : o = drf4_o1 := (Option.some.inj ho).symm
      subst e
      exact drfA_s1 gF oF n cF i jp P PQ pB B cB Q df w0 x w H 
    | 2, ho, _ =>
      have e : o = drf4_o2 := (Option.some.inj ho).symm
      subst e
      exact drfA_s2 gF oF n cF i jp P PQ pB B cB Q df w0 x w H (hdeps { on := 0, ground := Ground.data } (by simp) rfl) (hdeps { on := 1, ground := Ground.data } (by simp) rfl)
    | 3, ho, _ =>
      have e : o = drf4_o3 := (Option.some.inj ho).symm
      subst e
      exact drfA_s3 gF oF n cF i jp P PQ pB B cB Q df w0 x w H (hdeps { on := 2, ground := Ground.data } (by simp) rfl)
    | 4, ho, _ =>
      have e : o = drf4_o4 := (Option.some.inj ho).symm
      subst e
      exact drfA_s4 gF oF n cF i jp P PQ pB B cB Q df w0 x w H (hdeps { on := 3, ground := Ground.data } (by simp) rfl)
    | 5, ho, _ =>
      have e : o = drf4_o5 := (Option.some.inj ho).symm
      subst e
      exact drfA_s5 gF oF n cF i jp P PQ pB B cB Q df w0 x w H (hdeps { on := 4, ground := Ground.data } (by simp) rfl)
    | 6, ho, _ =>
      have e : o = drf4_o6 := (Option.some.inj ho).symm
      subst e
      exact drfA_s6 gF oF n cF i jp P PQ pB B cB Q df w0 x w H (hdeps { on := 5, ground := Ground.data } (by simp) rfl)
    | 7, ho, _ =>
      have e : o = drf4_o7 := (Option.some.inj ho).symm
      subst e
      exact drfA_s7 gF oF n cF i jp P PQ pB B cB Q df w0 x w H (hdeps { on := 6, ground := Ground.data } (by simp) rfl)
    | 8, ho, _ =>
      have e : o = drf4_o8 := (Option.some.inj ho).symm
      subst e
      exact drfA_s8 gF oF n cF i jp P PQ pB B cB Q df w0 x w H (hdeps { on := 7, ground := Ground.guard } (by simp) rfl)
    | 9, ho, _ =>
      have e : o = drf4_o9 := (Option.some.inj ho).symm
      subst e
      exact drfA_s9 gF oF n cF i jp P PQ pB B cB Q df w0 x w H (hdeps { on := 7, ground := Ground.guard } (by simp) rfl)
    | 10, ho, _ =>
      have e : o = drf4_o10 := (Option.some.inj ho).symm
      subst e
      exact drfA_s10 gF oF n cF i jp P PQ pB B cB Q df w0 x w H (hdeps { on := 8, ground := Ground.data } (by simp) rfl) (hdeps { on := 9, ground := Ground.data } (by simp) rfl) (hdeps { on := 7, ground := Ground.guard } (by simp) rfl)
    | 11, ho, _ =>
      have e : o = drf4_o11 := (Option.some.inj ho).symm
      subst e
      exact drfA_s11 gF oF n cF i jp P PQ pB B cB Q df w0 x w H (hdeps { on := 10, ground := Ground.data } (by simp) rfl) (hdeps { on := 7, ground := Ground.guard } (by simp) rfl)
    | 12, ho, _ =>
      have e : o = drf4_o12 := (Option.some.inj ho).symm
      subst e
      exact drfA_s12 gF oF n cF i jp P PQ pB B cB Q df w0 x w H (hdeps { on := 11, ground := Ground.data } (by simp) rfl) (hdeps { on := 7, ground := Ground.guard } (by simp) rfl)
    | 13, ho, _ =>
      have e : o = drf4_o13 := (Option.some.inj ho).symm
      subst e
      exact drfA_s13 gF oF n cF i jp P PQ pB B cB Q df w0 x w H (hdeps { on := 12, ground := Ground.data } (by simp) rfl) (hdeps { on := 7, ground := Ground.guard } (by simp) rfl)
    | 14, ho, _ =>
      have e : o = drf4_o14 := (Option.some.inj ho).symm
      subst e
      exact drfA_s14 gF oF n cF i jp P PQ pB B cB Q df w0 x w H (hdeps { on := 13, ground := Ground.data } (by simp) rfl) (hdeps { on := 7, ground := Ground.guard } (by simp) rfl)
    | 15, ho, _ =>
      have e : o = drf4_o15 := (Option.some.inj ho).symm
      subst e
      exact drfA_s15 gF oF n cF i jp P PQ pB B cB Q df w0 x w H (hdeps { on := 7, ground := Ground.data } (by simp) rfl) (hdeps { on := 14, ground := Ground.data } (by simp) rfl)
    | 16, ho, _ =>
      have e : o = drf4_o16 := (Option.some.inj ho).symm
      subst e
      exact drfA_s16 gF oF n cF i jp P PQ pB B cB Q df w0 x w H (hdeps { on := 15, ground := Ground.data } (by simp) rfl)
    | 17, ho, _ =>
      have e : o = drf4_o17 := (Option.some.inj ho).symm
      subst e
      exact drfA_s17 gF oF n cF i jp P PQ pB B cB Q df w0 x w H (hdeps { on := 16, ground := Ground.guard } (by simp) rfl)
    | 18, ho, _ =>
      have e : o = drf4_o18 := (Option.some.inj ho).symm
      subst e
      exact drfA_s18 gF oF n cF i jp P PQ pB B cB Q df w0 x w H (hdeps { on := 17, ground := Ground.data } (by simp) rfl) (hdeps { on := 16, ground := Ground.guard } (by simp) rfl)
    | 19, ho, _ =>
      have e : o = drf4_o19 := (Option.some.inj ho).symm
      subst e
      exact drfA_s19 gF oF n cF i jp P PQ pB B cB Q df w0 x w H (hdeps { on := 18, ground := Ground.data } (by simp) rfl) (hdeps { on := 16, ground := Ground.guard } (by simp) rfl)
    | 20, ho, _ =>
      have e : o = drf4_o20 := (Option.some.inj ho).symm
      subst e
      exact drfA_s20 gF oF n cF i jp P PQ pB B cB Q df w0 x w H (hdeps { on := 19, ground := Ground.guard } (by simp) rfl)
    | 21, ho, _ =>
      have e : o = drf4_o21 := (Option.some.inj ho).symm
      subst e
      exact drfA_s21 gF oF n cF i jp P PQ pB B cB Q df w0 x w H (hdeps { on := 19, ground := Ground.guard } (by simp) rfl)
    | 22, ho, _ =>
      have e : o = drf4_o22 := (Option.some.inj ho).symm
      subst e
      exact drfA_s22 gF oF n cF i jp P PQ pB B cB Q df w0 x w H (hdeps { on := 21, ground := Ground.data } (by simp) rfl) (hdeps { on := 19, ground := Ground.guard } (by simp) rfl)
    | 23, ho, _ =>
      have e : o = drf4_o23 := (Option.some.inj ho).symm
      subst e
      exact drfA_s23 gF oF n cF i jp P PQ pB B cB Q df w0 x w H (hdeps { on := 20, ground := Ground.data } (by simp) rfl) (hdeps { on := 22, ground := Ground.data } (by simp) rfl) (hdeps { on := 19, ground := Ground.guard } (by simp) rfl)
    | 24, ho, _ =>
      have e : o = drf4_o24 := (Option.some.inj ho).symm
      subst e
      exact drfA_s24 gF oF n cF i jp P PQ pB B cB Q df w0 x w H (hdeps { on := 23, ground := Ground.data } (by simp) rfl) (hdeps { on := 19, ground := Ground.guard } (by simp) rfl)
    | 25, ho, _ =>
      have e : o = drf4_o25 := (Option.some.inj ho).symm
      subst e
      exact drfA_s25 gF oF n cF i jp P PQ pB B cB Q df w0 x w H (hdeps { on := 24, ground := Ground.data } (by simp) rfl) (hdeps { on := 19, ground := Ground.guard } (by simp) rfl)
    | 26, ho, _ =>
      have e : o = drf4_o26 := (Option.some.inj ho).symm
      subst e
      exact drfA_s26 gF oF n cF i jp P PQ pB B cB Q df w0 x w H (hdeps { on := 19, ground := Ground.guard } (by simp) rfl)
    | 27, ho, _ =>
      have e : o = drf4_o27 := (Option.some.inj ho).symm
      subst e
      exact drfA_s27 gF oF n cF i jp P PQ pB B cB Q df w0 x w H (hdeps { on := 19, ground := Ground.guard } (by simp) rfl)
    | 28, ho, _ =>
      have e : o = drf4_o28 := (Option.some.inj ho).symm
      subst e
      exact drfA_s28 gF oF n cF i jp P PQ pB B cB Q df w0 x w H (hdeps { on := 26, ground := Ground.data } (by simp) rfl) (hdeps { on := 27, ground := Ground.data } (by simp) rfl) (hdeps { on := 19, ground := Ground.guard } (by simp) rfl)
    | 29, ho, _ =>
      have e : o = drf4_o29 := (Option.some.inj ho).symm
      subst e
      exact drfA_s29 gF oF n cF i jp P PQ pB B cB Q df w0 x w H (hdeps { on := 28, ground := Ground.data } (by simp) rfl) (hdeps { on := 19, ground := Ground.guard } (by simp) rfl)
    | 30, ho, _ =>
      have e : o = drf4_o30 := (Option.some.inj ho).symm
      subst e
      exact drfA_s30 gF oF n cF i jp P PQ pB B cB Q df w0 x w H (hdeps { on := 29, ground := Ground.data } (by simp) rfl) (hdeps { on := 19, ground := Ground.guard } (by simp) rfl)
    | 31, ho, _ =>
      have e : o = drf4_o31 := (Option.some.inj ho).symm
      subst e
      exact drfA_s31 gF oF n cF i jp P PQ pB B cB Q df w0 x w H (hdeps { on := 25, ground := Ground.data } (by simp) rfl) (hdeps { on := 30, ground := Ground.data } (by simp) rfl) (hdeps { on := 19, ground := Ground.guard } (by simp) rfl)
    | 32, ho, _ =>
      have e : o = drf4_o32 := (Option.some.inj ho).symm
      subst e
      exact drfA_s32 gF oF n cF i jp P PQ pB B cB Q df w0 x w H (hdeps { on := 19, ground := Ground.data } (by simp) rfl) (hdeps { on := 31, ground := Ground.data } (by simp) rfl) (hdeps { on := 16, ground := Ground.guard } (by simp) rfl)
    | 33, ho, _ =>
      have e : o = drf4_o33 := (Option.some.inj ho).symm
      subst e
      exact drfA_s33 gF oF n cF i jp P PQ pB B cB Q df w0 x w H (hdeps { on := 16, ground := Ground.data } (by simp) rfl) (hdeps { on := 32, ground := Ground.data } (by simp) rfl)
    | k + 34, _, hj => omega
  · intro x w hB hdef hsz hs hv
    have hx := frame_sets x.tmps t0 hsz [10, 11, 12, 13, 14, 15, 16, 17, 18, 19, 20, 21, 22, 23, 24, 25, 26, 27, 28, 29, 30, 31, 32, 33, 34, 35, 36, 37, 38, 39, 40, 41, 42, 43] (fun s hn => hs s (fun j hj e => hn (by rw [e]; exact drf4_slots j hj)))
    have hq := hQ (fun d => x.tmps.getD d undef) w hB (hv 33 (by decide))
    obtain ⟨T, Df⟩ := x
    dsimp only at hx hdef hq
    subst hdef
    rw [← hx] at hq
    exact hq
def drfB_val (gF oF n cF i jp : Nat) (P PQ : List UInt8) (pB : Option Addr) (B : List Nat) (cB : Nat) : Nat → Value → World → Prop
  | 0, v, w => v = .slice (some ⟨gF, oF, none⟩) n cF
  | 1, v, w => v = .int .i64 (i : Nat)
  | 2, v, w => v = .pointer (some ⟨gF, oF + i * 2, none⟩)
  | 3, v, w => v = .pointer (some ⟨gF, oF + i * 2, none⟩)
  | 4, v, w => v = by8 P
  | 5, v, w => v = .bool true
  | 6, v, w => v = .bool false
  | 7, v, w => v = .bool false
  | 8, v, w => v = .slice (some ⟨gF, oF, none⟩) n cF
  | 9, v, w => v = .int .i64 (i : Nat)
  | 10, v, w => v = .pointer (some ⟨gF, oF + i * 2, none⟩)
  | 11, v, w => v = .pointer (some ⟨gF, oF + i * 2 + 1, none⟩)
  | 12, v, w => v = .slice pB (B.length) cB
  | 13, v, w => v = .int .i64 ((B.length) : Nat)
  | 14, v, w => v = .bool false
  | 15, v, w => v = .bool false
  | 16, v, w => v = .bool false
  | 17, v, w => v = .int .i64 (i : Nat)
  | 18, v, w => v = .bool true
  | 19, v, w => v = .bool true
  | 20, v, w => v = .slice (some ⟨gF, oF, none⟩) n cF
  | 21, v, w => v = .int .i64 (i : Nat)
  | 22, v, w => v = .int .i64 (jp : Nat)
  | 23, v, w => v = .pointer (some ⟨gF, oF + jp * 2, none⟩)
  | 24, v, w => v = .pointer (some ⟨gF, oF + jp * 2, none⟩)
  | 25, v, w => v = by8 PQ
  | 26, v, w => v = .slice (some ⟨gF, oF, none⟩) n cF
  | 27, v, w => v = .int .i64 (i : Nat)
  | 28, v, w => v = .pointer (some ⟨gF, oF + i * 2, none⟩)
  | 29, v, w => v = .pointer (some ⟨gF, oF + i * 2, none⟩)
  | 30, v, w => v = by8 P
  | 31, v, w => v = .bool false
  | 32, v, w => v = .bool false
  | 33, v, w => v = .bool false
  | _, _, _ => True
theorem drfB_below (gF oF n cF i jp : Nat) (P PQ : List UInt8) (pB : Option Addr) (B : List Nat) (cB : Nat) (w w' : World) (hb : Below w.heap.size w w') : ∀ j v, drfB_val gF oF n cF i jp P PQ pB B cB j v w → drfB_val gF oF n cF i jp P PQ pB B cB j v w' := by
  intro j v h
  match j, h with
  | 0, h => exact h
  | 1, h => exact h
  | 2, h => exact h
  | 3, h => exact h
  | 4, h => exact h
  | 5, h => exact h
  | 6, h => exact h
  | 7, h => exact h
  | 8, h => exact h
  | 9, h => exact h
  | 10, h => exact h
  | 11, h => exact h
  | 12, h => exact h
  | 13, h => exact h
  | 14, h => exact h
  | 15, h => exact h
  | 16, h => exact h
  | 17, h => exact h
  | 18, h => exact h
  | 19, h => exact h
  | 20, h => exact h
  | 21, h => exact h
  | 22, h => exact h
  | 23, h => exact h
  | 24, h => exact h
  | 25, h => exact h
  | 26, h => exact h
  | 27, h => exact h
  | 28, h => exact h
  | 29, h => exact h
  | 30, h => exact h
  | 31, h => exact h
  | 32, h => exact h
  | 33, h => exact h
  | _ + 34, h => exact h
def drfB_H (Fc : Fence) (gF oF n cF i jp : Nat) (P PQ : List UInt8) (pB : Option Addr) (B : List Nat) (cB : Nat) (df : List Deferred) (w0 : World) (x : Act) (w : World) : Prop :=
  (Wide Fc) ∧ (i < n) ∧ (n ≤ 140737488351232) ∧ (w0.cell? ⟨gF, oF + i * 2, none⟩ = some (by8 P)) ∧ (P.length ≤ 1000000) ∧ (rightP P = true) ∧ (w0.cell? ⟨gF, oF + i * 2 + 1, none⟩ = some (.slice pB (B.length) cB)) ∧ (decide ((1048576 : Int) < (B.length : Nat)) = false) ∧ (decide (0 < i) = true) ∧ (Hid (i = jp + 1)) ∧ (w0.cell? ⟨gF, oF + jp * 2, none⟩ = some (by8 PQ)) ∧ ((!Op.bytesLess PQ P) = false) ∧ (Below w0.heap.size w0 w) ∧ (x.defers = df) ∧ (x.tmps.getD 0 undef = .slice (some ⟨gF, oF, none⟩) n cF) ∧ (x.tmps.getD 3 undef = .int .i64 (i : Nat))
section
set_option maxRecDepth 100000
set_option maxHeartbeats 2000000
variable {Fc : Fence} {nC : Nat} (gF oF n cF i jp : Nat) (P PQ : List UInt8) (pB : Option Addr) (B : List Nat) (cB : Nat) (Q : Exit → Act → World → Prop) (df : List Deferred) (w0 : World) (x : Act) (w : World)
theorem drfB_s0 (H : drfB_H Fc gF oF n cF i jp P PQ pB B cB df w0 x w)
    : Stp Fc nC Try.prog drf4_ops Q 0 10 (drfB_val gF oF n cF i jp P PQ pB B cB 0) x w := by
  obtain ⟨hF, hi, hn, f0, hp, hr, f1, h2, h3, hjp, hqp, h4, hB, hdef, u0, u3⟩ := H
  have ho : drf4_ops[0]? = some drf4_o0 := rfl
  simp only [Array.getD_eq_getD_getElem?] at u0 u3
  refine wpOpIn_plain ho rfl (oper_inK hF.fn (fun K hK => ?_))
  clear ho
  rw [Oper.semAt_plain Fc _ _ (by intro c h; cases h)]
  simp only [drf4_o0]
  go_simp
  exact hK _ _ ⟨_, act_putD x hdef _ _, rfl, Below.refl _ _⟩
theorem drfB_s1 (H : drfB_H Fc gF oF n cF i jp P PQ pB B cB df w0 x w)
    : Stp Fc nC Try.prog drf4_ops Q 1 11 (drfB_val gF oF n cF i jp P PQ pB B cB 1) x w := by
  obtain ⟨hF, hi, hn, f0, hp, hr, f1, h2, h3, hjp, hqp, h4, hB, hdef, u0, u3⟩ := H
  have ho : drf4_ops[1]? = some drf4_o1 := rfl
  simp only [Array.getD_eq_getD_getElem?] at u0 u3
  refine wpOpIn_plain ho rfl (oper_inK hF.fn (fun K hK => ?_))
  clear ho
  rw [Oper.semAt_plain Fc _ _ (by intro c h; cases h)]
  simp only [drf4_o1]
  go_simp
  exact hK _ _ ⟨_, act_putD x hdef _ _, rfl, Below.refl _ _⟩
theorem drfB_s2 (H : drfB_H Fc gF oF n cF i jp P PQ pB B cB df w0 x w)
    (p0 : drfB_val gF oF n cF i jp P PQ pB B cB 0 (x.tmps.getD 10 undef) w)
    (p1 : drfB_val gF oF n cF i jp P PQ pB B cB 1 (x.tmps.getD 11 undef) w)
    : Stp Fc nC Try.prog drf4_ops Q 2 12 (drfB_val gF oF n cF i jp P PQ pB B cB 2) x w := by
  obtain ⟨hF, hi, hn, f0, hp, hr, f1, h2, h3, hjp, hqp, h4, hB, hdef, u0, u3⟩ := H
  have ho : drf4_ops[2]? = some drf4_o2 := rfl
  simp only [Array.getD_eq_getD_getElem?] at u0 u3
  have q0 : x.tmps.getD 10 undef = .slice (some ⟨gF, oF, none⟩) n cF := p0
  have q1 : x.tmps.getD 11 undef = .int .i64 (i : Nat) := p1
  simp only [Array.getD_eq_getD_getElem?] at q0 q1
  have i0 : (0 : Int) ≤ (i : Int) := by omega
  have i1 : (i : Int) < (n : Int) := by omega
  refine wpOpIn_plain ho rfl (oper_inK hF.fn (fun K hK => ?_))
  clear ho
  rw [Oper.semAt_plain Fc _ _ (by intro c h; cases h)]
  simp only [drf4_o2]
  go_simp
  exact hK _ _ ⟨_, act_putD x hdef _ _, rfl, Below.refl _ _⟩
theorem drfB_s3 (H : drfB_H Fc gF oF n cF i jp P PQ pB B cB df w0 x w)
    (p2 : drfB_val gF oF n cF i jp P PQ pB B cB 2 (x.tmps.getD 12 undef) w)
    : Stp Fc nC Try.prog drf4_ops Q 3 13 (drfB_val gF oF n cF i jp P PQ pB B cB 3) x w := by
  obtain ⟨hF, hi, hn, f0, hp, hr, f1, h2, h3, hjp, hqp, h4, hB, hdef, u0, u3⟩ := H
  have ho : drf4_ops[3]? = some drf4_o3 := rfl
  simp only [Array.getD_eq_getD_getElem?] at u0 u3
  have q2 : x.tmps.getD 12 undef = .pointer (some ⟨gF, oF + i * 2, none⟩) := p2
  simp only [Array.getD_eq_getD_getElem?] at q2
  refine wpOpIn_plain ho rfl (oper_inK hF.fn (fun K hK => ?_))
  clear ho
  rw [Oper.semAt_plain Fc _ _ (by intro c h; cases h)]
  simp only [drf4_o3]
  go_simp
  exact hK _ _ ⟨_, act_putD x hdef _ _, rfl, Below.refl _ _⟩
theorem drfB_s4 (H : drfB_H Fc gF oF n cF i jp P PQ pB B cB df w0 x w)
    (p3 : drfB_val gF oF n cF i jp P PQ pB B cB 3 (x.tmps.getD 13 undef) w)
    : Stp Fc nC Try.prog drf4_ops Q 4 14 (drfB_val gF oF n cF i jp P PQ pB B cB 4) x w := by
  obtain ⟨hF, hi, hn, f0, hp, hr, f1, h2, h3, hjp, hqp, h4, hB, hdef, u0, u3⟩ := H
  have ho : drf4_ops[4]? = some drf4_o4 := rfl
  simp only [Array.getD_eq_getD_getElem?] at u0 u3
  have q3 : x.tmps.getD 13 undef = .pointer (some ⟨gF, oF + i * 2, none⟩) := p3
  simp only [Array.getD_eq_getD_getElem?] at q3
  have m := cell_thru f0 hB
  refine wpOpIn_plain ho rfl (oper_inK hF.fn (fun K hK => ?_))
  clear ho
  rw [Oper.semAt_plain Fc _ _ (by intro c h; cases h)]
  simp only [drf4_o4]
  go_simp
  exact hK _ _ ⟨_, act_putD x hdef _ _, rfl, Below.refl _ _⟩
theorem drfB_s5 (H : drfB_H Fc gF oF n cF i jp P PQ pB B cB df w0 x w)
    (p4 : drfB_val gF oF n cF i jp P PQ pB B cB 4 (x.tmps.getD 14 undef) w)
    : Stp Fc nC Try.prog drf4_ops Q 5 15 (drfB_val gF oF n cF i jp P PQ pB B cB 5) x w := by
  obtain ⟨hF, hi, hn, f0, hp, hr, f1, h2, h3, hjp, hqp, h4, hB, hdef, u0, u3⟩ := H
  have ho : drf4_ops[5]? = some drf4_o5 := rfl
  simp only [Array.getD_eq_getD_getElem?] at u0 u3
  have q4 : x.tmps.getD 14 undef = by8 P := p4
  simp only [Array.getD_eq_getD_getElem?] at q4
  refine wpOpIn_plain ho rfl (oper_inK hF.fn (fun K hK => ?_))
  clear ho
  rw [Oper.semAt_plain Fc _ _ (by intro c h; cases h)]
  simp only [drf4_o5]
  go_simp
  refine ⟨hF.deep, (hF.call (refRight_any P w hp)).mono ?_⟩
  rintro e w' ⟨rfl, hb⟩
  exact hK _ _ ⟨_, act_putD x hdef _ _, by rw [hr]; exact rfl, hb⟩
theorem drfB_s6 (H : drfB_H Fc gF oF n cF i jp P PQ pB B cB df w0 x w)
    (p5 : drfB_val gF oF n cF i jp P PQ pB B cB 5 (x.tmps.getD 15 undef) w)
    : Stp Fc nC Try.prog drf4_ops Q 6 16 (drfB_val gF oF n cF i jp P PQ pB B cB 6) x w := by
  obtain ⟨hF, hi, hn, f0, hp, hr, f1, h2, h3, hjp, hqp, h4, hB, hdef, u0, u3⟩ := H
  have ho : drf4_ops[6]? = some drf4_o6 := rfl
  simp only [Array.getD_eq_getD_getElem?] at u0 u3
  have q5 : x.tmps.getD 15 undef = .bool true := p5
  simp only [Array.getD_eq_getD_getElem?] at q5
  refine wpOpIn_plain ho rfl (oper_inK hF.fn (fun K hK => ?_))
  clear ho
  rw [Oper.semAt_plain Fc _ _ (by intro c h; cases h)]
  simp only [drf4_o6]
  go_simp
  exact hK _ _ ⟨_, act_putD x hdef _ _, rfl, Below.refl _ _⟩
theorem drfB_s7 (H : drfB_H Fc gF oF n cF i jp P PQ pB B cB df w0 x w)
    (p6 : drfB_val gF oF n cF i jp P PQ pB B cB 6 (x.tmps.getD 16 undef) w)
    : Stp Fc nC Try.prog drf4_ops Q 7 17 (drfB_val gF oF n cF i jp P PQ pB B cB 7) x w := by
  obtain ⟨hF, hi, hn, f0, hp, hr, f1, h2, h3, hjp, hqp, h4, hB, hdef, u0, u3⟩ := H
  have ho : drf4_ops[7]? = some drf4_o7 := rfl
  simp only [Array.getD_eq_getD_getElem?] at u0 u3
  have q6 : x.tmps.getD 16 undef = .bool false := p6
  simp only [Array.getD_eq_getD_getElem?] at q6
  refine wpOpIn_plain ho rfl (oper_inK hF.fn (fun K hK => ?_))
  clear ho
  rw [Oper.semAt_plain Fc _ _ (by intro c h; cases h)]
  simp only [drf4_o7]
  go_simp
  exact hK _ _ ⟨_, act_putD x hdef _ _, rfl, Below.refl _ _⟩
theorem drfB_s8 (H : drfB_H Fc gF oF n cF i jp P PQ pB B cB df w0 x w)
    (p7 : drfB_val gF oF n cF i jp P PQ pB B cB 7 (x.tmps.getD 17 undef) w)
    : Stp Fc nC Try.prog drf4_ops Q 8 18 (drfB_val gF oF n cF i jp P PQ pB B cB 8) x w := by
  obtain ⟨hF, hi, hn, f0, hp, hr, f1, h2, h3, hjp, hqp, h4, hB, hdef, u0, u3⟩ := H
  have ho : drf4_ops[8]? = some drf4_o8 := rfl
  simp only [Array.getD_eq_getD_getElem?] at u0 u3
  have q7 : x.tmps.getD 17 undef = .bool false := p7
  simp only [Array.getD_eq_getD_getElem?] at q7
  have e7 : (drf4_ops[7]?.bind fun x => x.dst) = some 17 := rfl
  have g7 := get_someT q7 (fun h => by cases h)
  refine wpOpIn_stepT hF ho (fun K hK => ?_)
  clear ho
  rw [Oper.semAt_plain Fc _ _ (by intro c h; cases h)]
  simp only [drf4_o8]
  go_simp
  exact hK _ _ ⟨_, act_putD x hdef _ _, rfl, Below.refl _ _⟩
theorem drfB_s9 (H : drfB_H Fc gF oF n cF i jp P PQ pB B cB df w0 x w)
    (p7 : drfB_val gF oF n cF i jp P PQ pB B cB 7 (x.tmps.getD 17 undef) w)
    : Stp Fc nC Try.prog drf4_ops Q 9 19 (drfB_val gF oF n cF i jp P PQ pB B cB 9) x w := by
  obtain ⟨hF, hi, hn, f0, hp, hr, f1, h2, h3, hjp, hqp, h4, hB, hdef, u0, u3⟩ := H
  have ho : drf4_ops[9]? = some drf4_o9 := rfl
  simp only [Array.getD_eq_getD_getElem?] at u0 u3
  have q7 : x.tmps.getD 17 undef = .bool false := p7
  simp only [Array.getD_eq_getD_getElem?] at q7
  have e7 : (drf4_ops[7]?.bind fun x => x.dst) = some 17 := rfl
  have g7 := get_someT q7 (fun h => by cases h)
  refine wpOpIn_stepT hF ho (fun K hK => ?_)
  clear ho
  rw [Oper.semAt_plain Fc _ _ (by intro c h; cases h)]
  simp only [drf4_o9]
  go_simp
  exact hK _ _ ⟨_, act_putD x hdef _ _, rfl, Below.refl _ _⟩
theorem drfB_s10 (H : drfB_H Fc gF oF n cF i jp P PQ pB B cB df w0 x w)
    (p8 : drfB_val gF oF n cF i jp P PQ pB B cB 8 (x.tmps.getD 18 undef) w)
    (p9 : drfB_val gF oF n cF i jp P PQ pB B cB 9 (x.tmps.getD 19 undef) w)
    (p7 : drfB_val gF oF n cF i jp P PQ pB B cB 7 (x.tmps.getD 17 undef) w)
    : Stp Fc nC Try.prog drf4_ops Q 10 20 (drfB_val gF oF n cF i jp P PQ pB B cB 10) x w := by
  obtain ⟨hF, hi, hn, f0, hp, hr, f1, h2, h3, hjp, hqp, h4, hB, hdef, u0, u3⟩ := H
  have ho : drf4_ops[10]? = some drf4_o10 := rfl
  simp only [Array.getD_eq_getD_getElem?] at u0 u3
  have q8 : x.tmps.getD 18 undef = .slice (some ⟨gF, oF, none⟩) n cF := p8
  have q9 : x.tmps.getD 19 undef = .int .i64 (i : Nat) := p9
  have q7 : x.tmps.getD 17 undef = .bool false := p7
  simp only [Array.getD_eq_getD_getElem?] at q8 q9 q7
  have e7 : (drf4_ops[7]?.bind fun x => x.dst) = some 17 := rfl
  have g7 := get_someT q7 (fun h => by cases h)
  have i0 : (0 : Int) ≤ (i : Int) := by omega
  have i1 : (i : Int) < (n : Int) := by omega
  refine wpOpIn_stepT hF ho (fun K hK => ?_)
  clear ho
  rw [Oper.semAt_plain Fc _ _ (by intro c h; cases h)]
  simp only [drf4_o10]
  go_simp
  exact hK _ _ ⟨_, act_putD x hdef _ _, rfl, Below.refl _ _⟩
theorem drfB_s11 (H : drfB_H Fc gF oF n cF i jp P PQ pB B cB df w0 x w)
    (p10 : drfB_val gF oF n cF i jp P PQ pB B cB 10 (x.tmps.getD 20 undef) w)
    (p7 : drfB_val gF oF n cF i jp P PQ pB B cB 7 (x.tmps.getD 17 undef) w)
    : Stp Fc nC Try.prog drf4_ops Q 11 21 (drfB_val gF oF n cF i jp P PQ pB B cB 11) x w := by
  obtain ⟨hF, hi, hn, f0, hp, hr, f1, h2, h3, hjp, hqp, h4, hB, hdef, u0, u3⟩ := H
  have ho : drf4_ops[11]? = some drf4_o11 := rfl
  simp only [Array.getD_eq_getD_getElem?] at u0 u3
  have q10 : x.tmps.getD 20 undef = .pointer (some ⟨gF, oF + i * 2, none⟩) := p10
  have q7 : x.tmps.getD 17 undef = .bool false := p7
  simp only [Array.getD_eq_getD_getElem?] at q10 q7
  have e7 : (drf4_ops[7]?.bind fun x => x.dst) = some 17 := rfl
  have g7 := get_someT q7 (fun h => by cases h)
  refine wpOpIn_stepT hF ho (fun K hK => ?_)
  clear ho
  rw [Oper.semAt_plain Fc _ _ (by intro c h; cases h)]
  simp only [drf4_o11]
  go_simp
  exact hK _ _ ⟨_, act_putD x hdef _ _, rfl, Below.refl _ _⟩
theorem drfB_s12 (H : drfB_H Fc gF oF n cF i jp P PQ pB B cB df w0 x w)
    (p11 : drfB_val gF oF n cF i jp P PQ pB B cB 11 (x.tmps.getD 21 undef) w)
    (p7 : drfB_val gF oF n cF i jp P PQ pB B cB 7 (x.tmps.getD 17 undef) w)
    : Stp Fc nC Try.prog drf4_ops Q 12 22 (drfB_val gF oF n cF i jp P PQ pB B cB 12) x w := by
  obtain ⟨hF, hi, hn, f0, hp, hr, f1, h2, h3, hjp, hqp, h4, hB, hdef, u0, u3⟩ := H
  have ho : drf4_ops[12]? = some drf4_o12 := rfl
  simp only [Array.getD_eq_getD_getElem?] at u0 u3
  have q11 : x.tmps.getD 21 undef = .pointer (some ⟨gF, oF + i * 2 + 1, none⟩) := p11
  have q7 : x.tmps.getD 17 undef = .bool false := p7
  simp only [Array.getD_eq_getD_getElem?] at q11 q7
  have e7 : (drf4_ops[7]?.bind fun x => x.dst) = some 17 := rfl
  have g7 := get_someT q7 (fun h => by cases h)
  have m := cell_thru f1 hB
  refine wpOpIn_stepT hF ho (fun K hK => ?_)
  clear ho
  rw [Oper.semAt_plain Fc _ _ (by intro c h; cases h)]
  simp only [drf4_o12]
  go_simp
  exact hK _ _ ⟨_, act_putD x hdef _ _, rfl, Below.refl _ _⟩
theorem drfB_s13 (H : drfB_H Fc gF oF n cF i jp P PQ pB B cB df w0 x w)
    (p12 : drfB_val gF oF n cF i jp P PQ pB B cB 12 (x.tmps.getD 22 undef) w)
    (p7 : drfB_val gF oF n cF i jp P PQ pB B cB 7 (x.tmps.getD 17 undef) w)
    : Stp Fc nC Try.prog drf4_ops Q 13 23 (drfB_val gF oF n cF i jp P PQ pB B cB 13) x w := by
  obtain ⟨hF, hi, hn, f0, hp, hr, f1, h2, h3, hjp, hqp, h4, hB, hdef, u0, u3⟩ := H
  have ho : drf4_ops[13]? = some drf4_o13 := rfl
  simp only [Array.getD_eq_getD_getElem?] at u0 u3
  have q12 : x.tmps.getD 22 undef = .slice pB (B.length) cB := p12
  have q7 : x.tmps.getD 17 undef = .bool false := p7
  simp only [Array.getD_eq_getD_getElem?] at q12 q7
  have e7 : (drf4_ops[7]?.bind fun x => x.dst) = some 17 := rfl
  have g7 := get_someT q7 (fun h => by cases h)
  refine wpOpIn_stepT hF ho (fun K hK => ?_)
  clear ho
  rw [Oper.semAt_plain Fc _ _ (by intro c h; cases h)]
  simp only [drf4_o13]
  go_simp
  exact hK _ _ ⟨_, act_putD x hdef _ _, rfl, Below.refl _ _⟩
theorem drfB_s14 (H : drfB_H Fc gF oF n cF i jp P PQ pB B cB df w0 x w)
    (p13 : drfB_val gF oF n cF i jp P PQ pB B cB 13 (x.tmps.getD 23 undef) w)
    (p7 : drfB_val gF oF n cF i jp P PQ pB B cB 7 (x.tmps.getD 17 undef) w)
    : Stp Fc nC Try.prog drf4_ops Q 14 24 (drfB_val gF oF n cF i jp P PQ pB B cB 14) x w := by
  obtain ⟨hF, hi, hn, f0, hp, hr, f1, h2, h3, hjp, hqp, h4, hB, hdef, u0, u3⟩ := H
  have ho : drf4_ops[14]? = some drf4_o14 := rfl
  simp only [Array.getD_eq_getD_getElem?] at u0 u3
  have q13 : x.tmps.getD 23 undef = .int .i64 ((B.length) : Nat) := p13
  have q7 : x.tmps.getD 17 undef = .bool false := p7
  simp only [Array.getD_eq_getD_getElem?] at q13 q7
  have e7 : (drf4_ops[7]?.bind fun x => x.dst) = some 17 := rfl
  have g7 := get_someT q7 (fun h => by cases h)
  have m := h2
  refine wpOpIn_stepT hF ho (fun K hK => ?_)
  clear ho
  rw [Oper.semAt_plain Fc _ _ (by intro c h; cases h)]
  simp only [drf4_o14]
  go_simp
  exact hK _ _ ⟨_, act_putD x hdef _ _, rfl, Below.refl _ _⟩
theorem drfB_s15 (H : drfB_H Fc gF oF n cF i jp P PQ pB B cB df w0 x w)
    (p7 : drfB_val gF oF n cF i jp P PQ pB B cB 7 (x.tmps.getD 17 undef) w)
    (p14 : drfB_val gF oF n cF i jp P PQ pB B cB 14 (x.tmps.getD 24 undef) w)
    : Stp Fc nC Try.prog drf4_ops Q 15 25 (drfB_val gF oF n cF i jp P PQ pB B cB 15) x w := by
  obtain ⟨hF, hi, hn, f0, hp, hr, f1, h2, h3, hjp, hqp, h4, hB, hdef, u0, u3⟩ := H
  have ho : drf4_ops[15]? = some drf4_o15 := rfl
  simp only [Array.getD_eq_getD_getElem?] at u0 u3
  have q7 : x.tmps.getD 17 undef = .bool false := p7
  have q14 : x.tmps.getD 24 undef = .bool false := p14
  simp only [Array.getD_eq_getD_getElem?] at q7 q14
  refine wpOpIn_plain ho rfl (oper_inK hF.fn (fun K hK => ?_))
  clear ho
  rw [Oper.semAt_plain Fc _ _ (by intro c h; cases h)]
  simp only [drf4_o15]
  go_simp
  exact hK _ _ ⟨_, act_putD x hdef _ _, rfl, Below.refl _ _⟩
theorem drfB_s16 (H : drfB_H Fc gF oF n cF i jp P PQ pB B cB df w0 x w)
    (p15 : drfB_val gF oF n cF i jp P PQ pB B cB 15 (x.tmps.getD 25 undef) w)
    : Stp Fc nC Try.prog drf4_ops Q 16 26 (drfB_val gF oF n cF i jp P PQ pB B cB 16) x w := by
  obtain ⟨hF, hi, hn, f0, hp, hr, f1, h2, h3, hjp, hqp, h4, hB, hdef, u0, u3⟩ := H
  have ho : drf4_ops[16]? = some drf4_o16 := rfl
  simp only [Array.getD_eq_getD_getElem?] at u0 u3
  have q15 : x.tmps.getD 25 undef = .bool false := p15
  simp only [Array.getD_eq_getD_getElem?] at q15
  refine wpOpIn_plain ho rfl (oper_inK hF.fn (fun K hK => ?_))
  clear ho
  rw [Oper.semAt_plain Fc _ _ (by intro c h; cases h)]
  simp only [drf4_o16]
  go_simp
  exact hK _ _ ⟨_, act_putD x hdef _ _, rfl, Below.refl _ _⟩
theorem drfB_s17 (H : drfB_H Fc gF oF n cF i jp P PQ pB B cB df w0 x w)
    (p16 : drfB_val gF oF n cF i jp P PQ pB B cB 16 (x.tmps.getD 26 undef) w)
    : Stp Fc nC Try.prog drf4_ops Q 17 27 (drfB_val gF oF n cF i jp P PQ pB B cB 17) x w := by
  obtain ⟨hF, hi, hn, f0, hp, hr, f1, h2, h3, hjp, hqp, h4, hB, hdef, u0, u3⟩ := H
  have ho : drf4_ops[17]? = some drf4_o17 := rfl
  simp only [Array.getD_eq_getD_getElem?] at u0 u3
  have q16 : x.tmps.getD 26 undef = .bool false := p16
  simp only [Array.getD_eq_getD_getElem?] at q16
  have e16 : (drf4_ops[16]?.bind fun x => x.dst) = some 26 := rfl
  have g16 := get_someT q16 (fun h => by cases h)
  refine wpOpIn_stepT hF ho (fun K hK => ?_)
  clear ho
  rw [Oper.semAt_plain Fc _ _ (by intro c h; cases h)]
  simp only [drf4_o17]
  go_simp
  exact hK _ _ ⟨_, act_putD x hdef _ _, rfl, Below.refl _ _⟩
theorem drfB_s18 (H : drfB_H Fc gF oF n cF i jp P PQ pB B cB df w0 x w)
    (p17 : drfB_val gF oF n cF i jp P PQ pB B cB 17 (x.tmps.getD 27 undef) w)
    (p16 : drfB_val gF oF n cF i jp P PQ pB B cB 16 (x.tmps.getD 26 undef) w)
    : Stp Fc nC Try.prog drf4_ops Q 18 28 (drfB_val gF oF n cF i jp P PQ pB B cB 18) x w := by
  obtain ⟨hF, hi, hn, f0, hp, hr, f1, h2, h3, hjp, hqp, h4, hB, hdef, u0, u3⟩ := H
  have ho : drf4_ops[18]? = some drf4_o18 := rfl
  simp only [Array.getD_eq_getD_getElem?] at u0 u3
  have q17 : x.tmps.getD 27 undef = .int .i64 (i : Nat) := p17
  have q16 : x.tmps.getD 26 undef = .bool false := p16
  simp only [Array.getD_eq_getD_getElem?] at q17 q16
  have e16 : (drf4_ops[16]?.bind fun x => x.dst) = some 26 := rfl
  have g16 := get_someT q16 (fun h => by cases h)
  have m := h3
  refine wpOpIn_stepT hF ho (fun K hK => ?_)
  clear ho
  rw [Oper.semAt_plain Fc _ _ (by intro c h; cases h)]
  simp only [drf4_o18]
  go_simp
  exact hK _ _ ⟨_, act_putD x hdef _ _, rfl, Below.refl _ _⟩
theorem drfB_s19 (H : drfB_H Fc gF oF n cF i jp P PQ pB B cB df w0 x w)
    (p18 : drfB_val gF oF n cF i jp P PQ pB B cB 18 (x.tmps.getD 28 undef) w)
    (p16 : drfB_val gF oF n cF i jp P PQ pB B cB 16 (x.tmps.getD 26 undef) w)
    : Stp Fc nC Try.prog drf4_ops Q 19 29 (drfB_val gF oF n cF i jp P PQ pB B cB 19) x w := by
  obtain ⟨hF, hi, hn, f0, hp, hr, f1, h2, h3, hjp, hqp, h4, hB, hdef, u0, u3⟩ := H
  have ho : drf4_ops[19]? = some drf4_o19 := rfl
  simp only [Array.getD_eq_getD_getElem?] at u0 u3
  have q18 : x.tmps.getD 28 undef = .bool true := p18
  have q16 : x.tmps.getD 26 undef = .bool false := p16
  simp only [Array.getD_eq_getD_getElem?] at q18 q16
  have e16 : (drf4_ops[16]?.bind fun x => x.dst) = some 26 := rfl
  have g16 := get_someT q16 (fun h => by cases h)
  refine wpOpIn_stepT hF ho (fun K hK => ?_)
  clear ho
  rw [Oper.semAt_plain Fc _ _ (by intro c h; cases h)]
  simp only [drf4_o19]
  go_simp
  exact hK _ _ ⟨_, act_putD x hdef _ _, rfl, Below.refl _ _⟩
theorem drfB_s20 (H : drfB_H Fc gF oF n cF i jp P PQ pB B cB df w0 x w)
    (p19 : drfB_val gF oF n cF i jp P PQ pB B cB 19 (x.tmps.getD 29 undef) w)
    : Stp Fc nC Try.prog drf4_ops Q 20 30 (drfB_val gF oF n cF i jp P PQ pB B cB 20) x w := by
  obtain ⟨hF, hi, hn, f0, hp, hr, f1, h2, h3, hjp, hqp, h4, hB, hdef, u0, u3⟩ := H
  have ho : drf4_ops[20]? = some drf4_o20 := rfl
  simp only [Array.getD_eq_getD_getElem?] at u0 u3
  have q19 : x.tmps.getD 29 undef = .bool true := p19
  simp only [Array.getD_eq_getD_getElem?] at q19
  have e19 : (drf4_ops[19]?.bind fun x => x.dst) = some 29 := rfl
  have g19 := get_someT q19 (fun h => by cases h)
  refine wpOpIn_stepT hF ho (fun K hK => ?_)
  clear ho
  rw [Oper.semAt_plain Fc _ _ (by intro c h; cases h)]
  simp only [drf4_o20]
  go_simp
  exact hK _ _ ⟨_, act_putD x hdef _ _, rfl, Below.refl _ _⟩
theorem drfB_s21 (H : drfB_H Fc gF oF n cF i jp P PQ pB B cB df w0 x w)
    (p19 : drfB_val gF oF n cF i jp P PQ pB B cB 19 (x.tmps.getD 29 undef) w)
    : Stp Fc nC Try.prog drf4_ops Q 21 31 (drfB_val gF oF n cF i jp P PQ pB B cB 21) x w := by
  obtain ⟨hF, hi, hn, f0, hp, hr, f1, h2, h3, hjp, hqp, h4, hB, hdef, u0, u3⟩ := H
  have ho : drf4_ops[21]? = some drf4_o21 := rfl
  simp only [Array.getD_eq_getD_getElem?] at u0 u3
  have q19 : x.tmps.getD 29 undef = .bool true := p19
  simp only [Array.getD_eq_getD_getElem?] at q19
  have e19 : (drf4_ops[19]?.bind fun x => x.dst) = some 29 := rfl
  have g19 := get_someT q19 (fun h => by cases h)
  refine wpOpIn_stepT hF ho (fun K hK => ?_)
  clear ho
  rw [Oper.semAt_plain Fc _ _ (by intro c h; cases h)]
  simp only [drf4_o21]
  go_simp
  exact hK _ _ ⟨_, act_putD x hdef _ _, rfl, Below.refl _ _⟩
theorem drfB_s22 (H : drfB_H Fc gF oF n cF i jp P PQ pB B cB df w0 x w)
    (p21 : drfB_val gF oF n cF i jp P PQ pB B cB 21 (x.tmps.getD 31 undef) w)
    (p19 : drfB_val gF oF n cF i jp P PQ pB B cB 19 (x.tmps.getD 29 undef) w)
    : Stp Fc nC Try.prog drf4_ops Q 22 32 (drfB_val gF oF n cF i jp P PQ pB B cB 22) x w := by
  obtain ⟨hF, hi, hn, f0, hp, hr, f1, h2, h3, hjp, hqp, h4, hB, hdef, u0, u3⟩ := H
  have ho : drf4_ops[22]? = some drf4_o22 := rfl
  simp only [Array.getD_eq_getD_getElem?] at u0 u3
  have q21 : x.tmps.getD 31 undef = .int .i64 (i : Nat) := p21
  have q19 : x.tmps.getD 29 undef = .bool true := p19
  simp only [Array.getD_eq_getD_getElem?] at q21 q19
  have e19 : (drf4_ops[19]?.bind fun x => x.dst) = some 29 := rfl
  have g19 := get_someT q19 (fun h => by cases h)
  have e1 : (i : Int) - 1 = (jp : Int) := by have := hjp.out; omega
  have e2 := IntWalk.i64_in (jp : Int) (by have := hjp.out; omega)
  refine wpOpIn_stepT hF ho (fun K hK => ?_)
  clear ho
  rw [Oper.semAt_plain Fc _ _ (by intro c h; cases h)]
  simp only [drf4_o22]
  go_simp
  exact hK _ _ ⟨_, act_putD x hdef _ _, rfl, Below.refl _ _⟩
theorem drfB_s23 (H : drfB_H Fc gF oF n cF i jp P PQ pB B cB df w0 x w)
    (p20 : drfB_val gF oF n cF i jp P PQ pB B cB 20 (x.tmps.getD 30 undef) w)
    (p22 : drfB_val gF oF n cF i jp P PQ pB B cB 22 (x.tmps.getD 32 undef) w)
    (p19 : drfB_val gF oF n cF i jp P PQ pB B cB 19 (x.tmps.getD 29 undef) w)
    : Stp Fc nC Try.prog drf4_ops Q 23 33 (drfB_val gF oF n cF i jp P PQ pB B cB 23) x w := by
  obtain ⟨hF, hi, hn, f0, hp, hr, f1, h2, h3, hjp, hqp, h4, hB, hdef, u0, u3⟩ := H
  have ho : drf4_ops[23]? = some drf4_o23 := rfl
  simp only [Array.getD_eq_getD_getElem?] at u0 u3
  have q20 : x.tmps.getD 30 undef = .slice (some ⟨gF, oF, none⟩) n cF := p20
  have q22 : x.tmps.getD 32 undef = .int .i64 (jp : Nat) := p22
  have q19 : x.tmps.getD 29 undef = .bool true := p19
  simp only [Array.getD_eq_getD_getElem?] at q20 q22 q19
  have e19 : (drf4_ops[19]?.bind fun x => x.dst) = some 29 := rfl
  have g19 := get_someT q19 (fun h => by cases h)
  have j0 : (0 : Int) ≤ (jp : Int) := by omega
  have j1 : (jp : Int) < (n : Int) := by have := hjp.out; omega
  refine wpOpIn_stepT hF ho (fun K hK => ?_)
  clear ho
  rw [Oper.semAt_plain Fc _ _ (by intro c h; cases h)]
  simp only [drf4_o23]
  go_simp
  exact hK _ _ ⟨_, act_putD x hdef _ _, rfl, Below.refl _ _⟩
theorem drfB_s24 (H : drfB_H Fc gF oF n cF i jp P PQ pB B cB df w0 x w)
    (p23 : drfB_val gF oF n cF i jp P PQ pB B cB 23 (x.tmps.getD 33 undef) w)
    (p19 : drfB_val gF oF n cF i jp P PQ pB B cB 19 (x.tmps.getD 29 undef) w)
    : Stp Fc nC Try.prog drf4_ops Q 24 34 (drfB_val gF oF n cF i jp P PQ pB B cB 24) x w := by
  obtain ⟨hF, hi, hn, f0, hp, hr, f1, h2, h3, hjp, hqp, h4, hB, hdef, u0, u3⟩ := H
  have ho : drf4_ops[24]? = some drf4_o24 := rfl
  simp only [Array.getD_eq_getD_getElem?] at u0 u3
  have q23 : x.tmps.getD 33 undef = .pointer (some ⟨gF, oF + jp * 2, none⟩) := p23
  have q19 : x.tmps.getD 29 undef = .bool true := p19
  simp only [Array.getD_eq_getD_getElem?] at q23 q19
  have e19 : (drf4_ops[19]?.bind fun x => x.dst) = some 29 := rfl
  have g19 := get_someT q19 (fun h => by cases h)
  refine wpOpIn_stepT hF ho (fun K hK => ?_)
  clear ho
  rw [Oper.semAt_plain Fc _ _ (by intro c h; cases h)]
  simp only [drf4_o24]
  go_simp
  exact hK _ _ ⟨_, act_putD x hdef _ _, rfl, Below.refl _ _⟩
theorem drfB_s25 (H : drfB_H Fc gF oF n cF i jp P PQ pB B cB df w0 x w)
    (p24 : drfB_val gF oF n cF i jp P PQ pB B cB 24 (x.tmps.getD 34 undef) w)
    (p19 : drfB_val gF oF n cF i jp P PQ pB B cB 19 (x.tmps.getD 29 undef) w)
    : Stp Fc nC Try.prog drf4_ops Q 25 35 (drfB_val gF oF n cF i jp P PQ pB B cB 25) x w := by
  obtain ⟨hF, hi, hn, f0, hp, hr, f1, h2, h3, hjp, hqp, h4, hB, hdef, u0, u3⟩ := H
  have ho : drf4_ops[25]? = some drf4_o25 := rfl
  simp only [Array.getD_eq_getD_getElem?] at u0 u3
  have q24 : x.tmps.getD 34 undef = .pointer (some ⟨gF, oF + jp * 2, none⟩) := p24
  have q19 : x.tmps.getD 29 undef = .bool true := p19
  simp only [Array.getD_eq_getD_getElem?] at q24 q19
  have e19 : (drf4_ops[19]?.bind fun x => x.dst) = some 29 := rfl
  have g19 := get_someT q19 (fun h => by cases h)
  have m := cell_thru hqp hB
  refine wpOpIn_stepT hF ho (fun K hK => ?_)
  clear ho
  rw [Oper.semAt_plain Fc _ _ (by intro c h; cases h)]
  simp only [drf4_o25]
  go_simp
  exact hK _ _ ⟨_, act_putD x hdef _ _, rfl, Below.refl _ _⟩
theorem drfB_s26 (H : drfB_H Fc gF oF n cF i jp P PQ pB B cB df w0 x w)
    (p19 : drfB_val gF oF n cF i jp P PQ pB B cB 19 (x.tmps.getD 29 undef) w)
    : Stp Fc nC Try.prog drf4_ops Q 26 36 (drfB_val gF oF n cF i jp P PQ pB B cB 26) x w := by
  obtain ⟨hF, hi, hn, f0, hp, hr, f1, h2, h3, hjp, hqp, h4, hB, hdef, u0, u3⟩ := H
  have ho : drf4_ops[26]? = some drf4_o26 := rfl
  simp only [Array.getD_eq_getD_getElem?] at u0 u3
  have q19 : x.tmps.getD 29 undef = .bool true := p19
  simp only [Array.getD_eq_getD_getElem?] at q19
  have e19 : (drf4_ops[19]?.bind fun x => x.dst) = some 29 := rfl
  have g19 := get_someT q19 (fun h => by cases h)
  refine wpOpIn_stepT hF ho (fun K hK => ?_)
  clear ho
  rw [Oper.semAt_plain Fc _ _ (by intro c h; cases h)]
  simp only [drf4_o26]
  go_simp
  exact hK _ _ ⟨_, act_putD x hdef _ _, rfl, Below.refl _ _⟩
theorem drfB_s27 (H : drfB_H Fc gF oF n cF i jp P PQ pB B cB df w0 x w)
    (p19 : drfB_val gF oF n cF i jp P PQ pB B cB 19 (x.tmps.getD 29 undef) w)
    : Stp Fc nC Try.prog drf4_ops Q 27 37 (drfB_val gF oF n cF i jp P PQ pB B cB 27) x w := by
  obtain ⟨hF, hi, hn, f0, hp, hr, f1, h2, h3, hjp, hqp, h4, hB, hdef, u0, u3⟩ := H
  have ho : drf4_ops[27]? = some drf4_o27 := rfl
  simp only [Array.getD_eq_getD_getElem?] at u0 u3
  have q19 : x.tmps.getD 29 undef = .bool true := p19
  simp only [Array.getD_eq_getD_getElem?] at q19
  have e19 : (drf4_ops[19]?.bind fun x => x.dst) = some 29 := rfl
  have g19 := get_someT q19 (fun h => by cases h)
  refine wpOpIn_stepT hF ho (fun K hK => ?_)
  clear ho
  rw [Oper.semAt_plain Fc _ _ (by intro c h; cases h)]
  simp only [drf4_o27]
  go_simp
  exact hK _ _ ⟨_, act_putD x hdef _ _, rfl, Below.refl _ _⟩
theorem drfB_s28 (H : drfB_H Fc gF oF n cF i jp P PQ pB B cB df w0 x w)
    (p26 : drfB_val gF oF n cF i jp P PQ pB B cB 26 (x.tmps.getD 36 undef) w)
    (p27 : drfB_val gF oF n cF i jp P PQ pB B cB 27 (x.tmps.getD 37 undef) w)
    (p19 : drfB_val gF oF n cF i jp P PQ pB B cB 19 (x.tmps.getD 29 undef) w)
    : Stp Fc nC Try.prog drf4_ops Q 28 38 (drfB_val gF oF n cF i jp P PQ pB B cB 28) x w := by
  obtain ⟨hF, hi, hn, f0, hp, hr, f1, h2, h3, hjp, hqp, h4, hB, hdef, u0, u3⟩ := H
  have ho : drf4_ops[28]? = some drf4_o28 := rfl
  simp only [Array.getD_eq_getD_getElem?] at u0 u3
  have q26 : x.tmps.getD 36 undef = .slice (some ⟨gF, oF, none⟩) n cF := p26
  have q27 : x.tmps.getD 37 undef = .int .i64 (i : Nat) := p27
  have q19 : x.tmps.getD 29 undef = .bool true := p19
  simp only [Array.getD_eq_getD_getElem?] at q26 q27 q19
  have e19 : (drf4_ops[19]?.bind fun x => x.dst) = some 29 := rfl
  have g19 := get_someT q19 (fun h => by cases h)
  have i0 : (0 : Int) ≤ (i : Int) := by omega
  have i1 : (i : Int) < (n : Int) := by omega
  refine wpOpIn_stepT hF ho (fun K hK => ?_)
  clear ho
  rw [Oper.semAt_plain Fc _ _ (by intro c h; cases h)]
  simp only [drf4_o28]
  go_simp
  exact hK _ _ ⟨_, act_putD x hdef _ _, rfl, Below.refl _ _⟩
theorem drfB_s29 (H : drfB_H Fc gF oF n cF i jp P PQ pB B cB df w0 x w)
    (p28 : drfB_val gF oF n cF i jp P PQ pB B cB 28 (x.tmps.getD 38 undef) w)
    (p19 : drfB_val gF oF n cF i jp P PQ pB B cB 19 (x.tmps.getD 29 undef) w)
    : Stp Fc nC Try.prog drf4_ops Q 29 39 (drfB_val gF oF n cF i jp P PQ pB B cB 29) x w := by
  obtain ⟨hF, hi, hn, f0, hp, hr, f1, h2, h3, hjp, hqp, h4, hB, hdef, u0, u3⟩ := H
  have ho : drf4_ops[29]? = some drf4_o29 := rfl
  simp only [Array.getD_eq_getD_getElem?] at u0 u3
  have q28 : x.tmps.getD 38 undef = .pointer (some ⟨gF, oF + i * 2, none⟩) := p28
  have q19 : x.tmps.getD 29 undef = .bool true := p19
  simp only [Array.getD_eq_getD_getElem?] at q28 q19
  have e19 : (drf4_ops[19]?.bind fun x => x.dst) = some 29 := rfl
  have g19 := get_someT q19 (fun h => by cases h)
  refine wpOpIn_stepT hF ho (fun K hK => ?_)
  clear ho
  rw [Oper.semAt_plain Fc _ _ (by intro c h; cases h)]
  simp only [drf4_o29]
  go_simp
  exact hK _ _ ⟨_, act_putD x hdef _ _, rfl, Below.refl _ _⟩
theorem drfB_s30 (H : drfB_H Fc gF oF n cF i jp P PQ pB B cB df w0 x w)
    (p29 : drfB_val gF oF n cF i jp P PQ pB B cB 29 (x.tmps.getD 39 undef) w)
    (p19 : drfB_val gF oF n cF i jp P PQ pB B cB 19 (x.tmps.getD 29 undef) w)
    : Stp Fc nC Try.prog drf4_ops Q 30 40 (drfB_val gF oF n cF i jp P PQ pB B cB 30) x w := by
  obtain ⟨hF, hi, hn, f0, hp, hr, f1, h2, h3, hjp, hqp, h4, hB, hdef, u0, u3⟩ := H
  have ho : drf4_ops[30]? = some drf4_o30 := rfl
  simp only [Array.getD_eq_getD_getElem?] at u0 u3
  have q29 : x.tmps.getD 39 undef = .pointer (some ⟨gF, oF + i * 2, none⟩) := p29
  have q19 : x.tmps.getD 29 undef = .bool true := p19
  simp only [Array.getD_eq_getD_getElem?] at q29 q19
  have e19 : (drf4_ops[19]?.bind fun x => x.dst) = some 29 := rfl
  have g19 := get_someT q19 (fun h => by cases h)
  have m := cell_thru f0 hB
  refine wpOpIn_stepT hF ho (fun K hK => ?_)
  clear ho
  rw [Oper.semAt_plain Fc _ _ (by intro c h; cases h)]
  simp only [drf4_o30]
  go_simp
  exact hK _ _ ⟨_, act_putD x hdef _ _, rfl, Below.refl _ _⟩
theorem drfB_s31 (H : drfB_H Fc gF oF n cF i jp P PQ pB B cB df w0 x w)
    (p25 : drfB_val gF oF n cF i jp P PQ pB B cB 25 (x.tmps.getD 35 undef) w)
    (p30 : drfB_val gF oF n cF i jp P PQ pB B cB 30 (x.tmps.getD 40 undef) w)
    (p19 : drfB_val gF oF n cF i jp P PQ pB B cB 19 (x.tmps.getD 29 undef) w)
    : Stp Fc nC Try.prog drf4_ops Q 31 41 (drfB_val gF oF n cF i jp P PQ pB B cB 31) x w := by
  obtain ⟨hF, hi, hn, f0, hp, hr, f1, h2, h3, hjp, hqp, h4, hB, hdef, u0, u3⟩ := H
  have ho : drf4_ops[31]? = some drf4_o31 := rfl
  simp only [Array.getD_eq_getD_getElem?] at u0 u3
  have q25 : x.tmps.getD 35 undef = by8 PQ := p25
  have q30 : x.tmps.getD 40 undef = by8 P := p30
  have q19 : x.tmps.getD 29 undef = .bool true := p19
  simp only [Array.getD_eq_getD_getElem?] at q25 q30 q19
  have e19 : (drf4_ops[19]?.bind fun x => x.dst) = some 29 := rfl
  have g19 := get_someT q19 (fun h => by cases h)
  have m := h4
  unfold by8 at q25 q30
  refine wpOpIn_stepT hF ho (fun K hK => ?_)
  clear ho
  rw [Oper.semAt_plain Fc _ _ (by intro c h; cases h)]
  simp only [drf4_o31]
  go_simp
  exact hK _ _ ⟨_, act_putD x hdef _ _, rfl, Below.refl _ _⟩
theorem drfB_s32 (H : drfB_H Fc gF oF n cF i jp P PQ pB B cB df w0 x w)
    (p19 : drfB_val gF oF n cF i jp P PQ pB B cB 19 (x.tmps.getD 29 undef) w)
    (p31 : drfB_val gF oF n cF i jp P PQ pB B cB 31 (x.tmps.getD 41 undef) w)
    (p16 : drfB_val gF oF n cF i jp P PQ pB B cB 16 (x.tmps.getD 26 undef) w)
    : Stp Fc nC Try.prog drf4_ops Q 32 42 (drfB_val gF oF n cF i jp P PQ pB B cB 32) x w := by
  obtain ⟨hF, hi, hn, f0, hp, hr, f1, h2, h3, hjp, hqp, h4, hB, hdef, u0, u3⟩ := H
  have ho : drf4_ops[32]? = some drf4_o32 := rfl
  simp only [Array.getD_eq_getD_getElem?] at u0 u3
  have q19 : x.tmps.getD 29 undef = .bool true := p19
  have q31 : x.tmps.getD 41 undef = .bool false := p31
  have q16 : x.tmps.getD 26 undef = .bool false := p16
  simp only [Array.getD_eq_getD_getElem?] at q19 q31 q16
  have e16 : (drf4_ops[16]?.bind fun x => x.dst) = some 26 := rfl
  have g16 := get_someT q16 (fun h => by cases h)
  refine wpOpIn_stepT hF ho (fun K hK => ?_)
  clear ho
  rw [Oper.semAt_plain Fc _ _ (by intro c h; cases h)]
  simp only [drf4_o32]
  go_simp
  exact hK _ _ ⟨_, act_putD x hdef _ _, rfl, Below.refl _ _⟩
theorem drfB_s33 (H : drfB_H Fc gF oF n cF i jp P PQ pB B cB df w0 x w)
    (p16 : drfB_val gF oF n cF i jp P PQ pB B cB 16 (x.tmps.getD 26 undef) w)
    (p32 : drfB_val gF oF n cF i jp P PQ pB B cB 32 (x.tmps.getD 42 undef) w)
    : Stp Fc nC Try.prog drf4_ops Q 33 43 (drfB_val gF oF n cF i jp P PQ pB B cB 33) x w := by
  obtain ⟨hF, hi, hn, f0, hp, hr, f1, h2, h3, hjp, hqp, h4, hB, hdef, u0, u3⟩ := H
  have ho : drf4_ops[33]? = some drf4_o33 := rfl
  simp only [Array.getD_eq_getD_getElem?] at u0 u3
  have q16 : x.tmps.getD 26 undef = .bool false := p16
  have q32 : x.tmps.getD 42 undef = .bool false := p32
  simp only [Array.getD_eq_getD_getElem?] at q16 q32
  refine wpOpIn_plain ho rfl (oper_inK hF.fn (fun K hK => ?_))
  clear ho
  rw [Oper.semAt_plain Fc _ _ (by intro c h; cases h)]
  simp only [drf4_o33]
  go_simp
  exact hK _ _ ⟨_, act_putD x hdef _ _, rfl, Below.refl _ _⟩
end

set_option maxRecDepth 100000 in
set_option maxHeartbeats 4000000 in
theorem drfB {Fc : Fence} (hF : Wide Fc) {nC : Nat} (gF oF n cF i jp : Nat) (P PQ : List UInt8) (pB : Option Addr) (B : List Nat) (cB : Nat) (Q : Exit → Act → World → Prop) (t0 : Array Value) (df : List Deferred) (w0 : World) (ht : t0.size = 47)
    (hs0 : t0.getD 0 undef = .slice (some ⟨gF, oF, none⟩) n cF) (hs3 : t0.getD 3 undef = .int .i64 (i : Nat))
    (hi : i < n) (hn : n ≤ 140737488351232) (f0 : w0.cell? ⟨gF, oF + i * 2, none⟩ = some (by8 P)) (hp : P.length ≤ 1000000) (hr : rightP P = true) (f1 : w0.cell? ⟨gF, oF + i * 2 + 1, none⟩ = some (.slice pB (B.length) cB)) (h2 : decide ((1048576 : Int) < (B.length : Nat)) = false) (h3 : decide (0 < i) = true) (hjp : Hid (i = jp + 1)) (hqp : w0.cell? ⟨gF, oF + jp * 2, none⟩ = some (by8 PQ)) (h4 : (!Op.bytesLess PQ P) = false)
    (hQ : ∀ (vs : Nat → Value) (w : World), Below w0.heap.size w0 w → (vs 43 = .bool false) → Q .normal { tmps := [10, 11, 12, 13, 14, 15, 16, 17, 18, 19, 20, 21, 22, 23, 24, 25, 26, 27, 28, 29, 30, 31, 32, 33, 34, 35, 36, 37, 38, 39, 40, 41, 42, 43].foldl (fun y d => y.setIfInBounds d (vs d)) t0, defers := df } w) :
    (Code.region 4 drf4_ops true).wpIn Fc nC Try.prog Q { tmps := t0, defers := df } w0 := by
  refine wpIn_region_tail 34 (by decide) (by kernel_rfl) (fun a b => Below a.heap.size a b) (drfB_val gF oF n cF i jp P PQ pB B cB) t0 df w0 (by rw [ht]; kernel_rfl) (by kernel_rfl) (by kernel_rfl) (by kernel_rfl) ((Below.refl _ _).drew) (fun _ _ _ h k => h.trans (k.mono h.size)) (drfB_below gF oF n cF i jp P PQ pB B cB) ?_ ?_
  · intro j o ho hj x w hB hdef hsz hs hdeps
    have hs' : ∀ s, ¬ drf4_mem s → x.tmps.getD s undef = t0.getD s undef := fun s hn => hs s (fun j hj e => hn (by rw [e]; exact drf4_slots j hj))
    have u0 := (hs' 0 (by decide)).trans hs0
    have u3 := (hs' 3 (by decide)).trans hs3
    have H : drfB_H Fc gF oF n cF i jp P PQ pB B cB df w0 x w := ⟨hF, hi, hn, f0, hp, hr, f1, h2, h3, hjp, hqp, h4, hB, hdef, u0, u3⟩
    match j, ho, hj with
    | 0, ho, _ =>
      have e : o = drf4_o0 := (Option.some.inj ho).symm
      subst e
      exact drfB_s0 gF oF n cF i jp P PQ pB B cB Q df w0 x w H 
    | 1, ho, _ =>
      have e : o = drf4_o1 := (Option.some.inj ho).symm
      subst e
      exact drfB_s1 gF oF n cF i jp P PQ pB B cB Q df w0 x w H 
    | 2, ho, _ =>
      have e : o = drf4_o2 := (Option.some.inj ho).symm
      subst e
      exact drfB_s2 gF oF n cF i jp P PQ pB B cB Q df w0 x w H (hdeps { on := 0, ground := Ground.data } (by simp) rfl) (hdeps { on := 1, ground := Ground.data } (by simp) rfl)
    | 3, ho, _ =>
      have e : o = drf4_o3 := (Option.some.inj ho).symm
      subst e
      exact drfB_s3 gF oF n cF i jp P PQ pB B cB Q df w0 x w H (hdeps { on := 2, ground := Ground.data } (by simp) rfl)
    | 4, ho, _ =>
      have e : o = drf4_o4 := (Option.some.inj ho).symm
      subst e
      exact drfB_s4 gF oF n cF i jp P PQ pB B cB Q df w0 x w H (hdeps { on := 3, ground := Ground.data } (by simp) rfl)
    | 5, ho, _ =>
      have e : o = drf4_o5 := (Option.some.inj ho).symm
      subst e
      exact drfB_s5 gF oF n cF i jp P PQ pB B cB Q df w0 x w H (hdeps { on := 4, ground := Ground.data } (by simp) rfl)
    | 6, ho, _ =>
      have e : o = drf4_o6 := (Option.some.inj ho).symm
      subst e
      exact drfB_s6 gF oF n cF i jp P PQ pB B cB Q df w0 x w H (hdeps { on := 5, ground := Ground.data } (by simp) rfl)
    | 7, ho, _ =>
      have e : o = drf4_o7 := (Option.some.inj ho).symm
      subst e
      exact drfB_s7 gF oF n cF i jp P PQ pB B cB Q df w0 x w H (hdeps { on := 6, ground := Ground.data } (by simp) rfl)
    | 8, ho, _ =>
      have e : o = drf4_o8 := (Option.some.inj ho).symm
      subst e
      exact drfB_s8 gF oF n cF i jp P PQ pB B cB Q df w0 x w H (hdeps { on := 7, ground := Ground.guard } (by simp) rfl)
    | 9, ho, _ =>
      have e : o = drf4_o9 := (Option.some.inj ho).symm
      subst e
      exact drfB_s9 gF oF n cF i jp P PQ pB B cB Q df w0 x w H (hdeps { on := 7, ground := Ground.guard } (by simp) rfl)
    | 10, ho, _ =>
      have e : o = drf4_o10 := (Option.some.inj ho).symm
      subst e
      exact drfB_s10 gF oF n cF i jp P PQ pB B cB Q df w0 x w H (hdeps { on := 8, ground := Ground.data } (by simp) rfl) (hdeps { on := 9, ground := Ground.data } (by simp) rfl) (hdeps { on := 7, ground := Ground.guard } (by simp) rfl)
    | 11, ho, _ =>
      have e : o = drf4_o11 := (Option.some.inj ho).symm
      subst e
      exact drfB_s11 gF oF n cF i jp P PQ pB B cB Q df w0 x w H (hdeps { on := 10, ground := Ground.data } (by simp) rfl) (hdeps { on := 7, ground := Ground.guard } (by simp) rfl)
    | 12, ho, _ =>
      have e : o = drf4_o12 := (Option.some.inj ho).symm
      subst e
      exact drfB_s12 gF oF n cF i jp P PQ pB B cB Q df w0 x w H (hdeps { on := 11, ground := Ground.data } (by simp) rfl) (hdeps { on := 7, ground := Ground.guard } (by simp) rfl)
    | 13, ho, _ =>
      have e : o = drf4_o13 := (Option.some.inj ho).symm
      subst e
      exact drfB_s13 gF oF n cF i jp P PQ pB B cB Q df w0 x w H (hdeps { on := 12, ground := Ground.data } (by simp) rfl) (hdeps { on := 7, ground := Ground.guard } (by simp) rfl)
    | 14, ho, _ =>
      have e : o = drf4_o14 := (Option.some.inj ho).symm
      subst e
      exact drfB_s14 gF oF n cF i jp P PQ pB B cB Q df w0 x w H (hdeps { on := 13, ground := Ground.data } (by simp) rfl) (hdeps { on := 7, ground := Ground.guard } (by simp) rfl)
    | 15, ho, _ =>
      have e : o = drf4_o15 := (Option.some.inj ho).symm
      subst e
      exact drfB_s15 gF oF n cF i jp P PQ pB B cB Q df w0 x w H (hdeps { on := 7, ground := Ground.data } (by simp) rfl) (hdeps { on := 14, ground := Ground.data } (by simp) rfl)
    | 16, ho, _ =>
      have e : o = drf4_o16 := (Option.some.inj ho).symm
      subst e
      exact drfB_s16 gF oF n cF i jp P PQ pB B cB Q df w0 x w H (hdeps { on := 15, ground := Ground.data } (by simp) rfl)
    | 17, ho, _ =>
      have e : o = drf4_o17 := (Option.some.inj ho).symm
      subst e
      exact drfB_s17 gF oF n cF i jp P PQ pB B cB Q df w0 x w H (hdeps { on := 16, ground := Ground.guard } (by simp) rfl)
    | 18, ho, _ =>
      have e : o = drf4_o18 := (Option.some.inj ho).symm
      subst e
      exact drfB_s18 gF oF n cF i jp P PQ pB B cB Q df w0 x w H (hdeps { on := 17, ground := Ground.data } (by simp) rfl) (hdeps { on := 16, ground := Ground.guard } (by simp) rfl)
    | 19, ho, _ =>
      have e : o = drf4_o19 := (Option.some.inj ho).symm
      subst e
      exact drfB_s19 gF oF n cF i jp P PQ pB B cB Q df w0 x w H (hdeps { on := 18, ground := Ground.data } (by simp) rfl) (hdeps { on := 16, ground := Ground.guard } (by simp) rfl)
    | 20, ho, _ =>
      have e : o = drf4_o20 := (Option.some.inj ho).symm
      subst e
      exact drfB_s20 gF oF n cF i jp P PQ pB B cB Q df w0 x w H (hdeps { on := 19, ground := Ground.guard } (by simp) rfl)
    | 21, ho, _ =>
      have e : o = drf4_o21 := (Option.some.inj ho).symm
      subst e
      exact drfB_s21 gF oF n cF i jp P PQ pB B cB Q df w0 x w H (hdeps { on := 19, ground := Ground.guard } (by simp) rfl)
    | 22, ho, _ =>
      have e : o = drf4_o22 := (Option.some.inj ho).symm
      subst e
      exact drfB_s22 gF oF n cF i jp P PQ pB B cB Q df w0 x w H (hdeps { on := 21, ground := Ground.data } (by simp) rfl) (hdeps { on := 19, ground := Ground.guard } (by simp) rfl)
    | 23, ho, _ =>
      have e : o = drf4_o23 := (Option.some.inj ho).symm
      subst e
      exact drfB_s23 gF oF n cF i jp P PQ pB B cB Q df w0 x w H (hdeps { on := 20, ground := Ground.data } (by simp) rfl) (hdeps { on := 22, ground := Ground.data } (by simp) rfl) (hdeps { on := 19, ground := Ground.guard } (by simp) rfl)
    | 24, ho, _ =>
      have e : o = drf4_o24 := (Option.some.inj ho).symm
      subst e
      exact drfB_s24 gF oF n cF i jp P PQ pB B cB Q df w0 x w H (hdeps { on := 23, ground := Ground.data } (by simp) rfl) (hdeps { on := 19, ground := Ground.guard } (by simp) rfl)
    | 25, ho, _ =>
      have e : o = drf4_o25 := (Option.some.inj ho).symm
      subst e
      exact drfB_s25 gF oF n cF i jp P PQ pB B cB Q df w0 x w H (hdeps { on := 24, ground := Ground.data } (by simp) rfl) (hdeps { on := 19, ground := Ground.guard } (by simp) rfl)
    | 26, ho, _ =>
      have e : o = drf4_o26 := (Option.some.inj ho).symm
      subst e
      exact drfB_s26 gF oF n cF i jp P PQ pB B cB Q df w0 x w H (hdeps { on := 19, ground := Ground.guard } (by simp) rfl)
    | 27, ho, _ =>
      have e : o = drf4_o27 := (Option.some.inj ho).symm
      subst e
      exact drfB_s27 gF oF n cF i jp P PQ pB B cB Q df w0 x w H (hdeps { on := 19, ground := Ground.guard } (by simp) rfl)
    | 28, ho, _ =>
      have e : o = drf4_o28 := (Option.some.inj ho).symm
      subst e
      exact drfB_s28 gF oF n cF i jp P PQ pB B cB Q df w0 x w H (hdeps { on := 26, ground := Ground.data } (by simp) rfl) (hdeps { on := 27, ground := Ground.data } (by simp) rfl) (hdeps { on := 19, ground := Ground.guard } (by simp) rfl)
    | 29, ho, _ =>
      have e : o = drf4_o29 := (Option.some.inj ho).symm
      subst e
      exact drfB_s29 gF oF n cF i jp P PQ pB B cB Q df w0 x w H (hdeps { on := 28, ground := Ground.data } (by simp) rfl) (hdeps { on := 19, ground := Ground.guard } (by simp) rfl)
    | 30, ho, _ =>
      have e : o = drf4_o30 := (Option.some.inj ho).symm
      subst e
      exact drfB_s30 gF oF n cF i jp P PQ pB B cB Q df w0 x w H (hdeps { on := 29, ground := Ground.data } (by simp) rfl) (hdeps { on := 19, ground := Ground.guard } (by simp) rfl)
    | 31, ho, _ =>
      have e : o = drf4_o31 := (Option.some.inj ho).symm
      subst e
      exact drfB_s31 gF oF n cF i jp P PQ pB B cB Q df w0 x w H (hdeps { on := 25, ground := Ground.data } (by simp) rfl) (hdeps { on := 30, ground := Ground.data } (by simp) rfl) (hdeps { on := 19, ground := Ground.guard } (by simp) rfl)
    | 32, ho, _ =>
      have e : o = drf4_o32 := (Option.some.inj ho).symm
      subst e
      exact drfB_s32 gF oF n cF i jp P PQ pB B cB Q df w0 x w H (hdeps { on := 19, ground := Ground.data } (by simp) rfl) (hdeps { on := 31, ground := Ground.data } (by simp) rfl) (hdeps { on := 16, ground := Ground.guard } (by simp) rfl)
    | 33, ho, _ =>
      have e : o = drf4_o33 := (Option.some.inj ho).symm
      subst e
      exact drfB_s33 gF oF n cF i jp P PQ pB B cB Q df w0 x w H (hdeps { on := 16, ground := Ground.data } (by simp) rfl) (hdeps { on := 32, ground := Ground.data } (by simp) rfl)
    | k + 34, _, hj => omega
  · intro x w hB hdef hsz hs hv
    have hx := frame_sets x.tmps t0 hsz [10, 11, 12, 13, 14, 15, 16, 17, 18, 19, 20, 21, 22, 23, 24, 25, 26, 27, 28, 29, 30, 31, 32, 33, 34, 35, 36, 37, 38, 39, 40, 41, 42, 43] (fun s hn => hs s (fun j hj e => hn (by rw [e]; exact drf4_slots j hj)))
    have hq := hQ (fun d => x.tmps.getD d undef) w hB (hv 33 (by decide))
    obtain ⟨T, Df⟩ := x
    dsimp only at hx hdef hq
    subst hdef
    rw [← hx] at hq
    exact hq
def drfC_val (gF oF n cF i jp : Nat) (P PQ : List UInt8) (pB : Option Addr) (B : List Nat) (cB : Nat) : Nat → Value → World → Prop
  | 0, v, w => v = .slice (some ⟨gF, oF, none⟩) n cF
  | 1, v, w => v = .int .i64 (i : Nat)
  | 2, v, w => v = .pointer (some ⟨gF, oF + i * 2, none⟩)
  | 3, v, w => v = .pointer (some ⟨gF, oF + i * 2, none⟩)
  | 4, v, w => v = by8 P
  | 5, v, w => v = .bool false
  | 6, v, w => v = .bool true
  | 7, v, w => v = .bool true
  | 8, v, w => v = undef
  | 9, v, w => v = undef
  | 10, v, w => v = undef
  | 11, v, w => v = undef
  | 12, v, w => v = undef
  | 13, v, w => v = undef
  | 14, v, w => v = undef
  | 15, v, w => v = .bool true
  | 16, v, w => v = .bool true
  | 17, v, w => v = undef
  | 18, v, w => v = undef
  | 19, v, w => v = undef
  | 20, v, w => v = undef
  | 21, v, w => v = undef
  | 22, v, w => v = undef
  | 23, v, w => v = undef
  | 24, v, w => v = undef
  | 25, v, w => v = undef
  | 26, v, w => v = undef
  | 27, v, w => v = undef
  | 28, v, w => v = undef
  | 29, v, w => v = undef
  | 30, v, w => v = undef
  | 31, v, w => v = undef
  | 32, v, w => v = undef
  | 33, v, w => v = .bool true
  | _, _, _ => True
theorem drfC_below (gF oF n cF i jp : Nat) (P PQ : List UInt8) (pB : Option Addr) (B : List Nat) (cB : Nat) (w w' : World) (hb : Below w.heap.size w w') : ∀ j v, drfC_val gF oF n cF i jp P PQ pB B cB j v w → drfC_val gF oF n cF i jp P PQ pB B cB j v w' := by
  intro j v h
  match j, h with
  | 0, h => exact h
  | 1, h => exact h
  | 2, h => exact h
  | 3, h => exact h
  | 4, h => exact h
  | 5, h => exact h
  | 6, h => exact h
  | 7, h => exact h
  | 8, h => exact h
  | 9, h => exact h
  | 10, h => exact h
  | 11, h => exact h
  | 12, h => exact h
  | 13, h => exact h
  | 14, h => exact h
  | 15, h => exact h
  | 16, h => exact h
  | 17, h => exact h
  | 18, h => exact h
  | 19, h => exact h
  | 20, h => exact h
  | 21, h => exact h
  | 22, h => exact h
  | 23, h => exact h
  | 24, h => exact h
  | 25, h => exact h
  | 26, h => exact h
  | 27, h => exact h
  | 28, h => exact h
  | 29, h => exact h
  | 30, h => exact h
  | 31, h => exact h
  | 32, h => exact h
  | 33, h => exact h
  | _ + 34, h => exact h
def drfC_H (Fc : Fence) (gF oF n cF i jp : Nat) (P PQ : List UInt8) (pB : Option Addr) (B : List Nat) (cB : Nat) (df : List Deferred) (w0 : World) (x : Act) (w : World) : Prop :=
  (Wide Fc) ∧ (i < n) ∧ (n ≤ 140737488351232) ∧ (w0.cell? ⟨gF, oF + i * 2, none⟩ = some (by8 P)) ∧ (P.length ≤ 1000000) ∧ (rightP P = false) ∧ (Below w0.heap.size w0 w) ∧ (x.defers = df) ∧ (x.tmps.getD 0 undef = .slice (some ⟨gF, oF, none⟩) n cF) ∧ (x.tmps.getD 3 undef = .int .i64 (i : Nat))
section
set_option maxRecDepth 100000
set_option maxHeartbeats 2000000
variable {Fc : Fence} {nC : Nat} (gF oF n cF i jp : Nat) (P PQ : List UInt8) (pB : Option Addr) (B : List Nat) (cB : Nat) (Q : Exit → Act → World → Prop) (df : List Deferred) (w0 : World) (x : Act) (w : World)
theorem drfC_s0 (H : drfC_H Fc gF oF n cF i jp P PQ pB B cB df w0 x w)
    : Stp Fc nC Try.prog drf4_ops Q 0 10 (drfC_val gF oF n cF i jp P PQ pB B cB 0) x w := by
  obtain ⟨hF, hi, hn, f0, hp, hr, hB, hdef, u0, u3⟩ := H
  have ho : drf4_ops[0]? = some drf4_o0 := rfl
  simp only [Array.getD_eq_getD_getElem?] at u0 u3
  refine wpOpIn_plain ho rfl (oper_inK hF.fn (fun K hK => ?_))
  clear ho
  rw [Oper.semAt_plain Fc _ _ (by intro c h; cases h)]
  simp only [drf4_o0]
  go_simp
  exact hK _ _ ⟨_, act_putD x hdef _ _, rfl, Below.refl _ _⟩
theorem drfC_s1 (H : drfC_H Fc gF oF n cF i jp P PQ pB B cB df w0 x w)
    : Stp Fc nC Try.prog drf4_ops Q 1 11 (drfC_val gF oF n cF i jp P PQ pB B cB 1) x w := by
  obtain ⟨hF, hi, hn, f0, hp, hr, hB, hdef, u0, u3⟩ := H
  have ho : drf4_ops[1]? = some drf4_o1 := rfl
  simp only [Array.getD_eq_getD_getElem?] at u0 u3
  refine wpOpIn_plain ho rfl (oper_inK hF.fn (fun K hK => ?_))
  clear ho
  rw [Oper.semAt_plain Fc _ _ (by intro c h; cases h)]
  simp only [drf4_o1]
  go_simp
  exact hK _ _ ⟨_, act_putD x hdef _ _, rfl, Below.refl _ _⟩
theorem drfC_s2 (H : drfC_H Fc gF oF n cF i jp P PQ pB B cB df w0 x w)
    (p0 : drfC_val gF oF n cF i jp P PQ pB B cB 0 (x.tmps.getD 10 undef) w)
    (p1 : drfC_val gF oF n cF i jp P PQ pB B cB 1 (x.tmps.getD 11 undef) w)
    : Stp Fc nC Try.prog drf4_ops Q 2 12 (drfC_val gF oF n cF i jp P PQ pB B cB 2) x w := by
  obtain ⟨hF, hi, hn, f0, hp, hr, hB, hdef, u0, u3⟩ := H
  have ho : drf4_ops[2]? = some drf4_o2 := rfl
  simp only [Array.getD_eq_getD_getElem?] at u0 u3
  have q0 : x.tmps.getD 10 undef = .slice (some ⟨gF, oF, none⟩) n cF := p0
  have q1 : x.tmps.getD 11 undef = .int .i64 (i : Nat) := p1
  simp only [Array.getD_eq_getD_getElem?] at q0 q1
  have i0 : (0 : Int) ≤ (i : Int) := by omega
  have i1 : (i : Int) < (n : Int) := by omega
  refine wpOpIn_plain ho rfl (oper_inK hF.fn (fun K hK => ?_))
  clear ho
  rw [Oper.semAt_plain Fc _ _ (by intro c h; cases h)]
  simp only [drf4_o2]
  go_simp
  exact hK _ _ ⟨_, act_putD x hdef _ _, rfl, Below.refl _ _⟩
theorem drfC_s3 (H : drfC_H Fc gF oF n cF i jp P PQ pB B cB df w0 x w)
    (p2 : drfC_val gF oF n cF i jp P PQ pB B cB 2 (x.tmps.getD 12 undef) w)
    : Stp Fc nC Try.prog drf4_ops Q 3 13 (drfC_val gF oF n cF i jp P PQ pB B cB 3) x w := by
  obtain ⟨hF, hi, hn, f0, hp, hr, hB, hdef, u0, u3⟩ := H
  have ho : drf4_ops[3]? = some drf4_o3 := rfl
  simp only [Array.getD_eq_getD_getElem?] at u0 u3
  have q2 : x.tmps.getD 12 undef = .pointer (some ⟨gF, oF + i * 2, none⟩) := p2
  simp only [Array.getD_eq_getD_getElem?] at q2
  refine wpOpIn_plain ho rfl (oper_inK hF.fn (fun K hK => ?_))
  clear ho
  rw [Oper.semAt_plain Fc _ _ (by intro c h; cases h)]
  simp only [drf4_o3]
  go_simp
  exact hK _ _ ⟨_, act_putD x hdef _ _, rfl, Below.refl _ _⟩
theorem drfC_s4 (H : drfC_H Fc gF oF n cF i jp P PQ pB B cB df w0 x w)
    (p3 : drfC_val gF oF n cF i jp P PQ pB B cB 3 (x.tmps.getD 13 undef) w)
    : Stp Fc nC Try.prog drf4_ops Q 4 14 (drfC_val gF oF n cF i jp P PQ pB B cB 4) x w := by
  obtain ⟨hF, hi, hn, f0, hp, hr, hB, hdef, u0, u3⟩ := H
  have ho : drf4_ops[4]? = some drf4_o4 := rfl
  simp only [Array.getD_eq_getD_getElem?] at u0 u3
  have q3 : x.tmps.getD 13 undef = .pointer (some ⟨gF, oF + i * 2, none⟩) := p3
  simp only [Array.getD_eq_getD_getElem?] at q3
  have m := cell_thru f0 hB
  refine wpOpIn_plain ho rfl (oper_inK hF.fn (fun K hK => ?_))
  clear ho
  rw [Oper.semAt_plain Fc _ _ (by intro c h; cases h)]
  simp only [drf4_o4]
  go_simp
  exact hK _ _ ⟨_, act_putD x hdef _ _, rfl, Below.refl _ _⟩
theorem drfC_s5 (H : drfC_H Fc gF oF n cF i jp P PQ pB B cB df w0 x w)
    (p4 : drfC_val gF oF n cF i jp P PQ pB B cB 4 (x.tmps.getD 14 undef) w)
    : Stp Fc nC Try.prog drf4_ops Q 5 15 (drfC_val gF oF n cF i jp P PQ pB B cB 5) x w := by
  obtain ⟨hF, hi, hn, f0, hp, hr, hB, hdef, u0, u3⟩ := H
  have ho : drf4_ops[5]? = some drf4_o5 := rfl
  simp only [Array.getD_eq_getD_getElem?] at u0 u3
  have q4 : x.tmps.getD 14 undef = by8 P := p4
  simp only [Array.getD_eq_getD_getElem?] at q4
  refine wpOpIn_plain ho rfl (oper_inK hF.fn (fun K hK => ?_))
  clear ho
  rw [Oper.semAt_plain Fc _ _ (by intro c h; cases h)]
  simp only [drf4_o5]
  go_simp
  refine ⟨hF.deep, (hF.call (refRight_any P w hp)).mono ?_⟩
  rintro e w' ⟨rfl, hb⟩
  exact hK _ _ ⟨_, act_putD x hdef _ _, by rw [hr]; exact rfl, hb⟩
theorem drfC_s6 (H : drfC_H Fc gF oF n cF i jp P PQ pB B cB df w0 x w)
    (p5 : drfC_val gF oF n cF i jp P PQ pB B cB 5 (x.tmps.getD 15 undef) w)
    : Stp Fc nC Try.prog drf4_ops Q 6 16 (drfC_val gF oF n cF i jp P PQ pB B cB 6) x w := by
  obtain ⟨hF, hi, hn, f0, hp, hr, hB, hdef, u0, u3⟩ := H
  have ho : drf4_ops[6]? = some drf4_o6 := rfl
  simp only [Array.getD_eq_getD_getElem?] at u0 u3
  have q5 : x.tmps.getD 15 undef = .bool false := p5
  simp only [Array.getD_eq_getD_getElem?] at q5
  refine wpOpIn_plain ho rfl (oper_inK hF.fn (fun K hK => ?_))
  clear ho
  rw [Oper.semAt_plain Fc _ _ (by intro c h; cases h)]
  simp only [drf4_o6]
  go_simp
  exact hK _ _ ⟨_, act_putD x hdef _ _, rfl, Below.refl _ _⟩
theorem drfC_s7 (H : drfC_H Fc gF oF n cF i jp P PQ pB B cB df w0 x w)
    (p6 : drfC_val gF oF n cF i jp P PQ pB B cB 6 (x.tmps.getD 16 undef) w)
    : Stp Fc nC Try.prog drf4_ops Q 7 17 (drfC_val gF oF n cF i jp P PQ pB B cB 7) x w := by
  obtain ⟨hF, hi, hn, f0, hp, hr, hB, hdef, u0, u3⟩ := H
  have ho : drf4_ops[7]? = some drf4_o7 := rfl
  simp only [Array.getD_eq_getD_getElem?] at u0 u3
  have q6 : x.tmps.getD 16 undef = .bool true := p6
  simp only [Array.getD_eq_getD_getElem?] at q6
  refine wpOpIn_plain ho rfl (oper_inK hF.fn (fun K hK => ?_))
  clear ho
  rw [Oper.semAt_plain Fc _ _ (by intro c h; cases h)]
  simp only [drf4_o7]
  go_simp
  exact hK _ _ ⟨_, act_putD x hdef _ _, rfl, Below.refl _ _⟩
theorem drfC_s8 (H : drfC_H Fc gF oF n cF i jp P PQ pB B cB df w0 x w)
    (p7 : drfC_val gF oF n cF i jp P PQ pB B cB 7 (x.tmps.getD 17 undef) w)
    : Stp Fc nC Try.prog drf4_ops Q 8 18 (drfC_val gF oF n cF i jp P PQ pB B cB 8) x w := by
  obtain ⟨hF, hi, hn, f0, hp, hr, hB, hdef, u0, u3⟩ := H
  have ho : drf4_ops[8]? = some drf4_o8 := rfl
  simp only [Array.getD_eq_getD_getElem?] at u0 u3
  have q7 : x.tmps.getD 17 undef = .bool true := p7
  simp only [Array.getD_eq_getD_getElem?] at q7
  have e7 : (drf4_ops[7]?.bind fun x => x.dst) = some 17 := rfl
  have g7 := get_someT q7 (fun h => by cases h)
  refine wpOpIn_stepT hF ho (fun K hK => ?_)
  clear ho
  rw [Oper.semAt_plain Fc _ _ (by intro c h; cases h)]
  simp only [drf4_o8]
  go_simp
  exact hK _ _ ⟨_, act_putD x hdef _ _, rfl, Below.refl _ _⟩
theorem drfC_s9 (H : drfC_H Fc gF oF n cF i jp P PQ pB B cB df w0 x w)
    (p7 : drfC_val gF oF n cF i jp P PQ pB B cB 7 (x.tmps.getD 17 undef) w)
    : Stp Fc nC Try.prog drf4_ops Q 9 19 (drfC_val gF oF n cF i jp P PQ pB B cB 9) x w := by
  obtain ⟨hF, hi, hn, f0, hp, hr, hB, hdef, u0, u3⟩ := H
  have ho : drf4_ops[9]? = some drf4_o9 := rfl
  simp only [Array.getD_eq_getD_getElem?] at u0 u3
  have q7 : x.tmps.getD 17 undef = .bool true := p7
  simp only [Array.getD_eq_getD_getElem?] at q7
  have e7 : (drf4_ops[7]?.bind fun x => x.dst) = some 17 := rfl
  have g7 := get_someT q7 (fun h => by cases h)
  refine wpOpIn_stepT hF ho (fun K hK => ?_)
  clear ho
  rw [Oper.semAt_plain Fc _ _ (by intro c h; cases h)]
  simp only [drf4_o9]
  go_simp
  exact hK _ _ ⟨_, act_putD x hdef _ _, rfl, Below.refl _ _⟩
theorem drfC_s10 (H : drfC_H Fc gF oF n cF i jp P PQ pB B cB df w0 x w)
    (p8 : drfC_val gF oF n cF i jp P PQ pB B cB 8 (x.tmps.getD 18 undef) w)
    (p9 : drfC_val gF oF n cF i jp P PQ pB B cB 9 (x.tmps.getD 19 undef) w)
    (p7 : drfC_val gF oF n cF i jp P PQ pB B cB 7 (x.tmps.getD 17 undef) w)
    : Stp Fc nC Try.prog drf4_ops Q 10 20 (drfC_val gF oF n cF i jp P PQ pB B cB 10) x w := by
  obtain ⟨hF, hi, hn, f0, hp, hr, hB, hdef, u0, u3⟩ := H
  have ho : drf4_ops[10]? = some drf4_o10 := rfl
  simp only [Array.getD_eq_getD_getElem?] at u0 u3
  have q8 : x.tmps.getD 18 undef = undef := p8
  have q9 : x.tmps.getD 19 undef = undef := p9
  have q7 : x.tmps.getD 17 undef = .bool true := p7
  simp only [Array.getD_eq_getD_getElem?] at q8 q9 q7
  have e7 : (drf4_ops[7]?.bind fun x => x.dst) = some 17 := rfl
  have g7 := get_someT q7 (fun h => by cases h)
  refine wpOpIn_stepT hF ho (fun K hK => ?_)
  clear ho
  rw [Oper.semAt_plain Fc _ _ (by intro c h; cases h)]
  simp only [drf4_o10]
  go_simp
  exact hK _ _ ⟨_, act_putD x hdef _ _, rfl, Below.refl _ _⟩
theorem drfC_s11 (H : drfC_H Fc gF oF n cF i jp P PQ pB B cB df w0 x w)
    (p10 : drfC_val gF oF n cF i jp P PQ pB B cB 10 (x.tmps.getD 20 undef) w)
    (p7 : drfC_val gF oF n cF i jp P PQ pB B cB 7 (x.tmps.getD 17 undef) w)
    : Stp Fc nC Try.prog drf4_ops Q 11 21 (drfC_val gF oF n cF i jp P PQ pB B cB 11) x w := by
  obtain ⟨hF, hi, hn, f0, hp, hr, hB, hdef, u0, u3⟩ := H
  have ho : drf4_ops[11]? = some drf4_o11 := rfl
  simp only [Array.getD_eq_getD_getElem?] at u0 u3
  have q10 : x.tmps.getD 20 undef = undef := p10
  have q7 : x.tmps.getD 17 undef = .bool true := p7
  simp only [Array.getD_eq_getD_getElem?] at q10 q7
  have e7 : (drf4_ops[7]?.bind fun x => x.dst) = some 17 := rfl
  have g7 := get_someT q7 (fun h => by cases h)
  refine wpOpIn_stepT hF ho (fun K hK => ?_)
  clear ho
  rw [Oper.semAt_plain Fc _ _ (by intro c h; cases h)]
  simp only [drf4_o11]
  go_simp
  exact hK _ _ ⟨_, act_putD x hdef _ _, rfl, Below.refl _ _⟩
theorem drfC_s12 (H : drfC_H Fc gF oF n cF i jp P PQ pB B cB df w0 x w)
    (p11 : drfC_val gF oF n cF i jp P PQ pB B cB 11 (x.tmps.getD 21 undef) w)
    (p7 : drfC_val gF oF n cF i jp P PQ pB B cB 7 (x.tmps.getD 17 undef) w)
    : Stp Fc nC Try.prog drf4_ops Q 12 22 (drfC_val gF oF n cF i jp P PQ pB B cB 12) x w := by
  obtain ⟨hF, hi, hn, f0, hp, hr, hB, hdef, u0, u3⟩ := H
  have ho : drf4_ops[12]? = some drf4_o12 := rfl
  simp only [Array.getD_eq_getD_getElem?] at u0 u3
  have q11 : x.tmps.getD 21 undef = undef := p11
  have q7 : x.tmps.getD 17 undef = .bool true := p7
  simp only [Array.getD_eq_getD_getElem?] at q11 q7
  have e7 : (drf4_ops[7]?.bind fun x => x.dst) = some 17 := rfl
  have g7 := get_someT q7 (fun h => by cases h)
  refine wpOpIn_stepT hF ho (fun K hK => ?_)
  clear ho
  rw [Oper.semAt_plain Fc _ _ (by intro c h; cases h)]
  simp only [drf4_o12]
  go_simp
  exact hK _ _ ⟨_, act_putD x hdef _ _, rfl, Below.refl _ _⟩
theorem drfC_s13 (H : drfC_H Fc gF oF n cF i jp P PQ pB B cB df w0 x w)
    (p12 : drfC_val gF oF n cF i jp P PQ pB B cB 12 (x.tmps.getD 22 undef) w)
    (p7 : drfC_val gF oF n cF i jp P PQ pB B cB 7 (x.tmps.getD 17 undef) w)
    : Stp Fc nC Try.prog drf4_ops Q 13 23 (drfC_val gF oF n cF i jp P PQ pB B cB 13) x w := by
  obtain ⟨hF, hi, hn, f0, hp, hr, hB, hdef, u0, u3⟩ := H
  have ho : drf4_ops[13]? = some drf4_o13 := rfl
  simp only [Array.getD_eq_getD_getElem?] at u0 u3
  have q12 : x.tmps.getD 22 undef = undef := p12
  have q7 : x.tmps.getD 17 undef = .bool true := p7
  simp only [Array.getD_eq_getD_getElem?] at q12 q7
  have e7 : (drf4_ops[7]?.bind fun x => x.dst) = some 17 := rfl
  have g7 := get_someT q7 (fun h => by cases h)
  refine wpOpIn_stepT hF ho (fun K hK => ?_)
  clear ho
  rw [Oper.semAt_plain Fc _ _ (by intro c h; cases h)]
  simp only [drf4_o13]
  go_simp
  exact hK _ _ ⟨_, act_putD x hdef _ _, rfl, Below.refl _ _⟩
theorem drfC_s14 (H : drfC_H Fc gF oF n cF i jp P PQ pB B cB df w0 x w)
    (p13 : drfC_val gF oF n cF i jp P PQ pB B cB 13 (x.tmps.getD 23 undef) w)
    (p7 : drfC_val gF oF n cF i jp P PQ pB B cB 7 (x.tmps.getD 17 undef) w)
    : Stp Fc nC Try.prog drf4_ops Q 14 24 (drfC_val gF oF n cF i jp P PQ pB B cB 14) x w := by
  obtain ⟨hF, hi, hn, f0, hp, hr, hB, hdef, u0, u3⟩ := H
  have ho : drf4_ops[14]? = some drf4_o14 := rfl
  simp only [Array.getD_eq_getD_getElem?] at u0 u3
  have q13 : x.tmps.getD 23 undef = undef := p13
  have q7 : x.tmps.getD 17 undef = .bool true := p7
  simp only [Array.getD_eq_getD_getElem?] at q13 q7
  have e7 : (drf4_ops[7]?.bind fun x => x.dst) = some 17 := rfl
  have g7 := get_someT q7 (fun h => by cases h)
  refine wpOpIn_stepT hF ho (fun K hK => ?_)
  clear ho
  rw [Oper.semAt_plain Fc _ _ (by intro c h; cases h)]
  simp only [drf4_o14]
  go_simp
  exact hK _ _ ⟨_, act_putD x hdef _ _, rfl, Below.refl _ _⟩
theorem drfC_s15 (H : drfC_H Fc gF oF n cF i jp P PQ pB B cB df w0 x w)
    (p7 : drfC_val gF oF n cF i jp P PQ pB B cB 7 (x.tmps.getD 17 undef) w)
    (p14 : drfC_val gF oF n cF i jp P PQ pB B cB 14 (x.tmps.getD 24 undef) w)
    : Stp Fc nC Try.prog drf4_ops Q 15 25 (drfC_val gF oF n cF i jp P PQ pB B cB 15) x w := by
  obtain ⟨hF, hi, hn, f0, hp, hr, hB, hdef, u0, u3⟩ := H
  have ho : drf4_ops[15]? = some drf4_o15 := rfl
  simp only [Array.getD_eq_getD_getElem?] at u0 u3
  have q7 : x.tmps.getD 17 undef = .bool true := p7
  have q14 : x.tmps.getD 24 undef = undef := p14
  simp only [Array.getD_eq_getD_getElem?] at q7 q14
  refine wpOpIn_plain ho rfl (oper_inK hF.fn (fun K hK => ?_))
  clear ho
  rw [Oper.semAt_plain Fc _ _ (by intro c h; cases h)]
  simp only [drf4_o15]
  go_simp
  exact hK _ _ ⟨_, act_putD x hdef _ _, rfl, Below.refl _ _⟩
theorem drfC_s16 (H : drfC_H Fc gF oF n cF i jp P PQ pB B cB df w0 x w)
    (p15 : drfC_val gF oF n cF i jp P PQ pB B cB 15 (x.tmps.getD 25 undef) w)
    : Stp Fc nC Try.prog drf4_ops Q 16 26 (drfC_val gF oF n cF i jp P PQ pB B cB 16) x w := by
  obtain ⟨hF, hi, hn, f0, hp, hr, hB, hdef, u0, u3⟩ := H
  have ho : drf4_ops[16]? = some drf4_o16 := rfl
  simp only [Array.getD_eq_getD_getElem?] at u0 u3
  have q15 : x.tmps.getD 25 undef = .bool true := p15
  simp only [Array.getD_eq_getD_getElem?] at q15
  refine wpOpIn_plain ho rfl (oper_inK hF.fn (fun K hK => ?_))
  clear ho
  rw [Oper.semAt_plain Fc _ _ (by intro c h; cases h)]
  simp only [drf4_o16]
  go_simp
  exact hK _ _ ⟨_, act_putD x hdef _ _, rfl, Below.refl _ _⟩
theorem drfC_s17 (H : drfC_H Fc gF oF n cF i jp P PQ pB B cB df w0 x w)
    (p16 : drfC_val gF oF n cF i jp P PQ pB B cB 16 (x.tmps.getD 26 undef) w)
    : Stp Fc nC Try.prog drf4_ops Q 17 27 (drfC_val gF oF n cF i jp P PQ pB B cB 17) x w := by
  obtain ⟨hF, hi, hn, f0, hp, hr, hB, hdef, u0, u3⟩ := H
  have ho : drf4_ops[17]? = some drf4_o17 := rfl
  simp only [Array.getD_eq_getD_getElem?] at u0 u3
  have q16 : x.tmps.getD 26 undef = .bool true := p16
  simp only [Array.getD_eq_getD_getElem?] at q16
  have e16 : (drf4_ops[16]?.bind fun x => x.dst) = some 26 := rfl
  have g16 := get_someT q16 (fun h => by cases h)
  refine wpOpIn_stepT hF ho (fun K hK => ?_)
  clear ho
  rw [Oper.semAt_plain Fc _ _ (by intro c h; cases h)]
  simp only [drf4_o17]
  go_simp
  exact hK _ _ ⟨_, act_putD x hdef _ _, rfl, Below.refl _ _⟩
theorem drfC_s18 (H : drfC_H Fc gF oF n cF i jp P PQ pB B cB df w0 x w)
    (p17 : drfC_val gF oF n cF i jp P PQ pB B cB 17 (x.tmps.getD 27 undef) w)
    (p16 : drfC_val gF oF n cF i jp P PQ pB B cB 16 (x.tmps.getD 26 undef) w)
    : Stp Fc nC Try.prog drf4_ops Q 18 28 (drfC_val gF oF n cF i jp P PQ pB B cB 18) x w := by
  obtain ⟨hF, hi, hn, f0, hp, hr, hB, hdef, u0, u3⟩ := H
  have ho : drf4_ops[18]? = some drf4_o18 := rfl
  simp only [Array.getD_eq_getD_getElem?] at u0 u3
  have q17 : x.tmps.getD 27 undef = undef := p17
  have q16 : x.tmps.getD 26 undef = .bool true := p16
  simp only [Array.getD_eq_getD_getElem?] at q17 q16
  have e16 : (drf4_ops[16]?.bind fun x => x.dst) = some 26 := rfl
  have g16 := get_someT q16 (fun h => by cases h)
  refine wpOpIn_stepT hF ho (fun K hK => ?_)
  clear ho
  rw [Oper.semAt_plain Fc _ _ (by intro c h; cases h)]
  simp only [drf4_o18]
  go_simp
  exact hK _ _ ⟨_, act_putD x hdef _ _, rfl, Below.refl _ _⟩
theorem drfC_s19 (H : drfC_H Fc gF oF n cF i jp P PQ pB B cB df w0 x w)
    (p18 : drfC_val gF oF n cF i jp P PQ pB B cB 18 (x.tmps.getD 28 undef) w)
    (p16 : drfC_val gF oF n cF i jp P PQ pB B cB 16 (x.tmps.getD 26 undef) w)
    : Stp Fc nC Try.prog drf4_ops Q 19 29 (drfC_val gF oF n cF i jp P PQ pB B cB 19) x w := by
  obtain ⟨hF, hi, hn, f0, hp, hr, hB, hdef, u0, u3⟩ := H
  have ho : drf4_ops[19]? = some drf4_o19 := rfl
  simp only [Array.getD_eq_getD_getElem?] at u0 u3
  have q18 : x.tmps.getD 28 undef = undef := p18
  have q16 : x.tmps.getD 26 undef = .bool true := p16
  simp only [Array.getD_eq_getD_getElem?] at q18 q16
  have e16 : (drf4_ops[16]?.bind fun x => x.dst) = some 26 := rfl
  have g16 := get_someT q16 (fun h => by cases h)
  refine wpOpIn_stepT hF ho (fun K hK => ?_)
  clear ho
  rw [Oper.semAt_plain Fc _ _ (by intro c h; cases h)]
  simp only [drf4_o19]
  go_simp
  exact hK _ _ ⟨_, act_putD x hdef _ _, rfl, Below.refl _ _⟩
theorem drfC_s20 (H : drfC_H Fc gF oF n cF i jp P PQ pB B cB df w0 x w)
    (p19 : drfC_val gF oF n cF i jp P PQ pB B cB 19 (x.tmps.getD 29 undef) w)
    : Stp Fc nC Try.prog drf4_ops Q 20 30 (drfC_val gF oF n cF i jp P PQ pB B cB 20) x w := by
  obtain ⟨hF, hi, hn, f0, hp, hr, hB, hdef, u0, u3⟩ := H
  have ho : drf4_ops[20]? = some drf4_o20 := rfl
  simp only [Array.getD_eq_getD_getElem?] at u0 u3
  have q19 : x.tmps.getD 29 undef = undef := p19
  simp only [Array.getD_eq_getD_getElem?] at q19
  have e19 : (drf4_ops[19]?.bind fun x => x.dst) = some 29 := rfl
  exact op_skipped hF ho rfl e19 q19 ⟨_, rfl, rfl, Below.refl _ _⟩
theorem drfC_s21 (H : drfC_H Fc gF oF n cF i jp P PQ pB B cB df w0 x w)
    (p19 : drfC_val gF oF n cF i jp P PQ pB B cB 19 (x.tmps.getD 29 undef) w)
    : Stp Fc nC Try.prog drf4_ops Q 21 31 (drfC_val gF oF n cF i jp P PQ pB B cB 21) x w := by
  obtain ⟨hF, hi, hn, f0, hp, hr, hB, hdef, u0, u3⟩ := H
  have ho : drf4_ops[21]? = some drf4_o21 := rfl
  simp only [Array.getD_eq_getD_getElem?] at u0 u3
  have q19 : x.tmps.getD 29 undef = undef := p19
  simp only [Array.getD_eq_getD_getElem?] at q19
  have e19 : (drf4_ops[19]?.bind fun x => x.dst) = some 29 := rfl
  exact op_skipped hF ho rfl e19 q19 ⟨_, rfl, rfl, Below.refl _ _⟩
theorem drfC_s22 (H : drfC_H Fc gF oF n cF i jp P PQ pB B cB df w0 x w)
    (p21 : drfC_val gF oF n cF i jp P PQ pB B cB 21 (x.tmps.getD 31 undef) w)
    (p19 : drfC_val gF oF n cF i jp P PQ pB B cB 19 (x.tmps.getD 29 undef) w)
    : Stp Fc nC Try.prog drf4_ops Q 22 32 (drfC_val gF oF n cF i jp P PQ pB B cB 22) x w := by
  obtain ⟨hF, hi, hn, f0, hp, hr, hB, hdef, u0, u3⟩ := H
  have ho : drf4_ops[22]? = some drf4_o22 := rfl
  simp only [Array.getD_eq_getD_getElem?] at u0 u3
  have q21 : x.tmps.getD 31 undef = undef := p21
  have q19 : x.tmps.getD 29 undef = undef := p19
  simp only [Array.getD_eq_getD_getElem?] at q21 q19
  have e19 : (drf4_ops[19]?.bind fun x => x.dst) = some 29 := rfl
  exact op_skipped hF ho rfl e19 q19 ⟨_, rfl, rfl, Below.refl _ _⟩
theorem drfC_s23 (H : drfC_H Fc gF oF n cF i jp P PQ pB B cB df w0 x w)
    (p20 : drfC_val gF oF n cF i jp P PQ pB B cB 20 (x.tmps.getD 30 undef) w)
    (p22 : drfC_val gF oF n cF i jp P PQ pB B cB 22 (x.tmps.getD 32 undef) w)
    (p19 : drfC_val gF oF n cF i jp P PQ pB B cB 19 (x.tmps.getD 29 undef) w)
    : Stp Fc nC Try.prog drf4_ops Q 23 33 (drfC_val gF oF n cF i jp P PQ pB B cB 23) x w := by
  obtain ⟨hF, hi, hn, f0, hp, hr, hB, hdef, u0, u3⟩ := H
  have ho : drf4_ops[23]? = some drf4_o23 := rfl
  simp only [Array.getD_eq_getD_getElem?] at u0 u3
  have q20 : x.tmps.getD 30 undef = undef := p20
  have q22 : x.tmps.getD 32 undef = undef := p22
  have q19 : x.tmps.getD 29 undef = undef := p19
  simp only [Array.getD_eq_getD_getElem?] at q20 q22 q19
  have e19 : (drf4_ops[19]?.bind fun x => x.dst) = some 29 := rfl
  exact op_skipped hF ho rfl e19 q19 ⟨_, rfl, rfl, Below.refl _ _⟩
theorem drfC_s24 (H : drfC_H Fc gF oF n cF i jp P PQ pB B cB df w0 x w)
    (p23 : drfC_val gF oF n cF i jp P PQ pB B cB 23 (x.tmps.getD 33 undef) w)
    (p19 : drfC_val gF oF n cF i jp P PQ pB B cB 19 (x.tmps.getD 29 undef) w)
    : Stp Fc nC Try.prog drf4_ops Q 24 34 (drfC_val gF oF n cF i jp P PQ pB B cB 24) x w := by
  obtain ⟨hF, hi, hn, f0, hp, hr, hB, hdef, u0, u3⟩ := H
  have ho : drf4_ops[24]? = some drf4_o24 := rfl
  simp only [Array.getD_eq_getD_getElem?] at u0 u3
  have q23 : x.tmps.getD 33 undef = undef := p23
  have q19 : x.tmps.getD 29 undef = undef := p19
  simp only [Array.getD_eq_getD_getElem?] at q23 q19
  have e19 : (drf4_ops[19]?.bind fun x => x.dst) = some 29 := rfl
  exact op_skipped hF ho rfl e19 q19 ⟨_, rfl, rfl, Below.refl _ _⟩
theorem drfC_s25 (H : drfC_H Fc gF oF n cF i jp P PQ pB B cB df w0 x w)
    (p24 : drfC_val gF oF n cF i jp P PQ pB B cB 24 (x.tmps.getD 34 undef) w)
    (p19 : drfC_val gF oF n cF i jp P PQ pB B cB 19 (x.tmps.getD 29 undef) w)
    : Stp Fc nC Try.prog drf4_ops Q 25 35 (drfC_val gF oF n cF i jp P PQ pB B cB 25) x w := by
  obtain ⟨hF, hi, hn, f0, hp, hr, hB, hdef, u0, u3⟩ := H
  have ho : drf4_ops[25]? = some drf4_o25 := rfl
  simp only [Array.getD_eq_getD_getElem?] at u0 u3
  have q24 : x.tmps.getD 34 undef = undef := p24
  have q19 : x.tmps.getD 29 undef = undef := p19
  simp only [Array.getD_eq_getD_getElem?] at q24 q19
  have e19 : (drf4_ops[19]?.bind fun x => x.dst) = some 29 := rfl
  exact op_skipped hF ho rfl e19 q19 ⟨_, rfl, rfl, Below.refl _ _⟩
theorem drfC_s26 (H : drfC_H Fc gF oF n cF i jp P PQ pB B cB df w0 x w)
    (p19 : drfC_val gF oF n cF i jp P PQ pB B cB 19 (x.tmps.getD 29 undef) w)
    : Stp Fc nC Try.prog drf4_ops Q 26 36 (drfC_val gF oF n cF i jp P PQ pB B cB 26) x w := by
  obtain ⟨hF, hi, hn, f0, hp, hr, hB, hdef, u0, u3⟩ := H
  have ho : drf4_ops[26]? = some drf4_o26 := rfl
  simp only [Array.getD_eq_getD_getElem?] at u0 u3
  have q19 : x.tmps.getD 29 undef = undef := p19
  simp only [Array.getD_eq_getD_getElem?] at q19
  have e19 : (drf4_ops[19]?.bind fun x => x.dst) = some 29 := rfl
  exact op_skipped hF ho rfl e19 q19 ⟨_, rfl, rfl, Below.refl _ _⟩
theorem drfC_s27 (H : drfC_H Fc gF oF n cF i jp P PQ pB B cB df w0 x w)
    (p19 : drfC_val gF oF n cF i jp P PQ pB B cB 19 (x.tmps.getD 29 undef) w)
    : Stp Fc nC Try.prog drf4_ops Q 27 37 (drfC_val gF oF n cF i jp P PQ pB B cB 27) x w := by
  obtain ⟨hF, hi, hn, f0, hp, hr, hB, hdef, u0, u3⟩ := H
  have ho : drf4_ops[27]? = some drf4_o27 := rfl
  simp only [Array.getD_eq_getD_getElem?] at u0 u3
  have q19 : x.tmps.getD 29 undef = undef := p19
  simp only [Array.getD_eq_getD_getElem?] at q19
  have e19 : (drf4_ops[19]?.bind fun x => x.dst) = some 29 := rfl
  exact op_skipped hF ho rfl e19 q19 ⟨_, rfl, rfl, Below.refl _ _⟩
theorem drfC_s28 (H : drfC_H Fc gF oF n cF i jp P PQ pB B cB df w0 x w)
    (p26 : drfC_val gF oF n cF i jp P PQ pB B cB 26 (x.tmps.getD 36 undef) w)
    (p27 : drfC_val gF oF n cF i jp P PQ pB B cB 27 (x.tmps.getD 37 undef) w)
    (p19 : drfC_val gF oF n cF i jp P PQ pB B cB 19 (x.tmps.getD 29 undef) w)
    : Stp Fc nC Try.prog drf4_ops Q 28 38 (drfC_val gF oF n cF i jp P PQ pB B cB 28) x w := by
  obtain ⟨hF, hi, hn, f0, hp, hr, hB, hdef, u0, u3⟩ := H
  have ho : drf4_ops[28]? = some drf4_o28 := rfl
  simp only [Array.getD_eq_getD_getElem?] at u0 u3
  have q26 : x.tmps.getD 36 undef = undef := p26
  have q27 : x.tmps.getD 37 undef = undef := p27
  have q19 : x.tmps.getD 29 undef = undef := p19
  simp only [Array.getD_eq_getD_getElem?] at q26 q27 q19
  have e19 : (drf4_ops[19]?.bind fun x => x.dst) = some 29 := rfl
  exact op_skipped hF ho rfl e19 q19 ⟨_, rfl, rfl, Below.refl _ _⟩
theorem drfC_s29 (H : drfC_H Fc gF oF n cF i jp P PQ pB B cB df w0 x w)
    (p28 : drfC_val gF oF n cF i jp P PQ pB B cB 28 (x.tmps.getD 38 undef) w)
    (p19 : drfC_val gF oF n cF i jp P PQ pB B cB 19 (x.tmps.getD 29 undef) w)
    : Stp Fc nC Try.prog drf4_ops Q 29 39 (drfC_val gF oF n cF i jp P PQ pB B cB 29) x w := by
  obtain ⟨hF, hi, hn, f0, hp, hr, hB, hdef, u0, u3⟩ := H
  have ho : drf4_ops[29]? = some drf4_o29 := rfl
  simp only [Array.getD_eq_getD_getElem?] at u0 u3
  have q28 : x.tmps.getD 38 undef = undef := p28
  have q19 : x.tmps.getD 29 undef = undef := p19
  simp only [Array.getD_eq_getD_getElem?] at q28 q19
  have e19 : (drf4_ops[19]?.bind fun x => x.dst) = some 29 := rfl
  exact op_skipped hF ho rfl e19 q19 ⟨_, rfl, rfl, Below.refl _ _⟩
theorem drfC_s30 (H : drfC_H Fc gF oF n cF i jp P PQ pB B cB df w0 x w)
    (p29 : drfC_val gF oF n cF i jp P PQ pB B cB 29 (x.tmps.getD 39 undef) w)
    (p19 : drfC_val gF oF n cF i jp P PQ pB B cB 19 (x.tmps.getD 29 undef) w)
    : Stp Fc nC Try.prog drf4_ops Q 30 40 (drfC_val gF oF n cF i jp P PQ pB B cB 30) x w := by
  obtain ⟨hF, hi, hn, f0, hp, hr, hB, hdef, u0, u3⟩ := H
  have ho : drf4_ops[30]? = some drf4_o30 := rfl
  simp only [Array.getD_eq_getD_getElem?] at u0 u3
  have q29 : x.tmps.getD 39 undef = undef := p29
  have q19 : x.tmps.getD 29 undef = undef := p19
  simp only [Array.getD_eq_getD_getElem?] at q29 q19
  have e19 : (drf4_ops[19]?.bind fun x => x.dst) = some 29 := rfl
  exact op_skipped hF ho rfl e19 q19 ⟨_, rfl, rfl, Below.refl _ _⟩
theorem drfC_s31 (H : drfC_H Fc gF oF n cF i jp P PQ pB B cB df w0 x w)
    (p25 : drfC_val gF oF n cF i jp P PQ pB B cB 25 (x.tmps.getD 35 undef) w)
    (p30 : drfC_val gF oF n cF i jp P PQ pB B cB 30 (x.tmps.getD 40 undef) w)
    (p19 : drfC_val gF oF n cF i jp P PQ pB B cB 19 (x.tmps.getD 29 undef) w)
    : Stp Fc nC Try.prog drf4_ops Q 31 41 (drfC_val gF oF n cF i jp P PQ pB B cB 31) x w := by
  obtain ⟨hF, hi, hn, f0, hp, hr, hB, hdef, u0, u3⟩ := H
  have ho : drf4_ops[31]? = some drf4_o31 := rfl
  simp only [Array.getD_eq_getD_getElem?] at u0 u3
  have q25 : x.tmps.getD 35 undef = undef := p25
  have q30 : x.tmps.getD 40 undef = undef := p30
  have q19 : x.tmps.getD 29 undef = undef := p19
  simp only [Array.getD_eq_getD_getElem?] at q25 q30 q19
  have e19 : (drf4_ops[19]?.bind fun x => x.dst) = some 29 := rfl
  exact op_skipped hF ho rfl e19 q19 ⟨_, rfl, rfl, Below.refl _ _⟩
theorem drfC_s32 (H : drfC_H Fc gF oF n cF i jp P PQ pB B cB df w0 x w)
    (p19 : drfC_val gF oF n cF i jp P PQ pB B cB 19 (x.tmps.getD 29 undef) w)
    (p31 : drfC_val gF oF n cF i jp P PQ pB B cB 31 (x.tmps.getD 41 undef) w)
    (p16 : drfC_val gF oF n cF i jp P PQ pB B cB 16 (x.tmps.getD 26 undef) w)
    : Stp Fc nC Try.prog drf4_ops Q 32 42 (drfC_val gF oF n cF i jp P PQ pB B cB 32) x w := by
  obtain ⟨hF, hi, hn, f0, hp, hr, hB, hdef, u0, u3⟩ := H
  have ho : drf4_ops[32]? = some drf4_o32 := rfl
  simp only [Array.getD_eq_getD_getElem?] at u0 u3
  have q19 : x.tmps.getD 29 undef = undef := p19
  have q31 : x.tmps.getD 41 undef = undef := p31
  have q16 : x.tmps.getD 26 undef = .bool true := p16
  simp only [Array.getD_eq_getD_getElem?] at q19 q31 q16
  have e16 : (drf4_ops[16]?.bind fun x => x.dst) = some 26 := rfl
  have g16 := get_someT q16 (fun h => by cases h)
  refine wpOpIn_stepT hF ho (fun K hK => ?_)
  clear ho
  rw [Oper.semAt_plain Fc _ _ (by intro c h; cases h)]
  simp only [drf4_o32]
  go_simp
  exact hK _ _ ⟨_, act_putD x hdef _ _, rfl, Below.refl _ _⟩
theorem drfC_s33 (H : drfC_H Fc gF oF n cF i jp P PQ pB B cB df w0 x w)
    (p16 : drfC_val gF oF n cF i jp P PQ pB B cB 16 (x.tmps.getD 26 undef) w)
    (p32 : drfC_val gF oF n cF i jp P PQ pB B cB 32 (x.tmps.getD 42 undef) w)
    : Stp Fc nC Try.prog drf4_ops Q 33 43 (drfC_val gF oF n cF i jp P PQ pB B cB 33) x w := by
  obtain ⟨hF, hi, hn, f0, hp, hr, hB, hdef, u0, u3⟩ := H
  have ho : drf4_ops[33]? = some drf4_o33 := rfl
  simp only [Array.getD_eq_getD_getElem?] at u0 u3
  have q16 : x.tmps.getD 26 undef = .bool true := p16
  have q32 : x.tmps.getD 42 undef = undef := p32
  simp only [Array.getD_eq_getD_getElem?] at q16 q32
  refine wpOpIn_plain ho rfl (oper_inK hF.fn (fun K hK => ?_))
  clear ho
  rw [Oper.semAt_plain Fc _ _ (by intro c h; cases h)]
  simp only [drf4_o33]
  go_simp
  exact hK _ _ ⟨_, act_putD x hdef _ _, rfl, Below.refl _ _⟩
end

set_option maxRecDepth 100000 in
set_option maxHeartbeats 4000000 in
theorem drfC {Fc : Fence} (hF : Wide Fc) {nC : Nat} (gF oF n cF i jp : Nat) (P PQ : List UInt8) (pB : Option Addr) (B : List Nat) (cB : Nat) (Q : Exit → Act → World → Prop) (t0 : Array Value) (df : List Deferred) (w0 : World) (ht : t0.size = 47)
    (hs0 : t0.getD 0 undef = .slice (some ⟨gF, oF, none⟩) n cF) (hs3 : t0.getD 3 undef = .int .i64 (i : Nat))
    (hi : i < n) (hn : n ≤ 140737488351232) (f0 : w0.cell? ⟨gF, oF + i * 2, none⟩ = some (by8 P)) (hp : P.length ≤ 1000000) (hr : rightP P = false)
    (hQ : ∀ (vs : Nat → Value) (w : World), Below w0.heap.size w0 w → (vs 43 = .bool true) → Q .normal { tmps := [10, 11, 12, 13, 14, 15, 16, 17, 18, 19, 20, 21, 22, 23, 24, 25, 26, 27, 28, 29, 30, 31, 32, 33, 34, 35, 36, 37, 38, 39, 40, 41, 42, 43].foldl (fun y d => y.setIfInBounds d (vs d)) t0, defers := df } w) :
    (Code.region 4 drf4_ops true).wpIn Fc nC Try.prog Q { tmps := t0, defers := df } w0 := by
  refine wpIn_region_tail 34 (by decide) (by kernel_rfl) (fun a b => Below a.heap.size a b) (drfC_val gF oF n cF i jp P PQ pB B cB) t0 df w0 (by rw [ht]; kernel_rfl) (by kernel_rfl) (by kernel_rfl) (by kernel_rfl) ((Below.refl _ _).drew) (fun _ _ _ h k => h.trans (k.mono h.size)) (drfC_below gF oF n cF i jp P PQ pB B cB) ?_ ?_
  · intro j o ho hj x w hB hdef hsz hs hdeps
    have hs' : ∀ s, ¬ drf4_mem s → x.tmps.getD s undef = t0.getD s undef := fun s hn => hs s (fun j hj e => hn (by rw [e]; exact drf4_slots j hj))
    have u0 := (hs' 0 (by decide)).trans hs0
    have u3 := (hs' 3 (by decide)).trans hs3
    have H : drfC_H Fc gF oF n cF i jp P PQ pB B cB df w0 x w := ⟨hF, hi, hn, f0, hp, hr, hB, hdef, u0, u3⟩
    match j, ho, hj with
    | 0, ho, _ =>
      have e : o = drf4_o0 := (Option.some.inj ho).symm
      subst e
      exact drfC_s0 gF oF n cF i jp P PQ pB B cB Q df w0 x w H 
    | 1, ho, _ =>
      have e : o = drf4_o1 := (Option.some.inj ho).symm
      subst e
      exact drfC_s1 gF oF n cF i jp P PQ pB B cB Q df w0 x w H 
    | 2, ho, _ =>
      have e : o = drf4_o2 := (Option.some.inj ho).symm
      subst e
      exact drfC_s2 gF oF n cF i jp P PQ pB B cB Q df w0 x w H (hdeps { on := 0, ground := Ground.data } (by simp) rfl) (hdeps { on := 1, ground := Ground.data } (by simp) rfl)
    | 3, ho, _ =>
      have e : o = drf4_o3 := (Option.some.inj ho).symm
      subst e
      exact drfC_s3 gF oF n cF i jp P PQ pB B cB Q df w0 x w H (hdeps { on := 2, ground := Ground.data } (by simp) rfl)
    | 4, ho, _ =>
      have e : o = drf4_o4 := (Option.some.inj ho).symm
      subst e
      exact drfC_s4 gF oF n cF i jp P PQ pB B cB Q df w0 x w H (hdeps { on := 3, ground := Ground.data } (by simp) rfl)
    | 5, ho, _ =>
      have e : o = drf4_o5 := (Option.some.inj ho).symm
      subst e
      exact drfC_s5 gF oF n cF i jp P PQ pB B cB Q df w0 x w H (hdeps { on := 4, ground := Ground.data } (by simp) rfl)
    | 6, ho, _ =>
      have e : o = drf4_o6 := (Option.some.inj ho).symm
      subst e
      exact drfC_s6 gF oF n cF i jp P PQ pB B cB Q df w0 x w H (hdeps { on := 5, ground := Ground.data } (by simp) rfl)
    | 7, ho, _ =>
      have e : o = drf4_o7 := (Option.some.inj ho).symm
      subst e
      exact drfC_s7 gF oF n cF i jp P PQ pB B cB Q df w0 x w H (hdeps { on := 6, ground := Ground.data } (by simp) rfl)
    | 8, ho, _ =>
      have e : o = drf4_o8 := (Option.some.inj ho).symm
      subst e
      exact drfC_s8 gF oF n cF i jp P PQ pB B cB Q df w0 x w H (hdeps { on := 7, ground := Ground.guard } (by simp) rfl)
    | 9, ho, _ =>
      have e : o = drf4_o9 := (Option.some.inj ho).symm
      subst e
      exact drfC_s9 gF oF n cF i jp P PQ pB B cB Q df w0 x w H (hdeps { on := 7, ground := Ground.guard } (by simp) rfl)
    | 10, ho, _ =>
      have e : o = drf4_o10 := (Option.some.inj ho).symm
      subst e
      exact drfC_s10 gF oF n cF i jp P PQ pB B cB Q df w0 x w H (hdeps { on := 8, ground := Ground.data } (by simp) rfl) (hdeps { on := 9, ground := Ground.data } (by simp) rfl) (hdeps { on := 7, ground := Ground.guard } (by simp) rfl)
    | 11, ho, _ =>
      have e : o = drf4_o11 := (Option.some.inj ho).symm
      subst e
      exact drfC_s11 gF oF n cF i jp P PQ pB B cB Q df w0 x w H (hdeps { on := 10, ground := Ground.data } (by simp) rfl) (hdeps { on := 7, ground := Ground.guard } (by simp) rfl)
    | 12, ho, _ =>
      have e : o = drf4_o12 := (Option.some.inj ho).symm
      subst e
      exact drfC_s12 gF oF n cF i jp P PQ pB B cB Q df w0 x w H (hdeps { on := 11, ground := Ground.data } (by simp) rfl) (hdeps { on := 7, ground := Ground.guard } (by simp) rfl)
    | 13, ho, _ =>
      have e : o = drf4_o13 := (Option.some.inj ho).symm
      subst e
      exact drfC_s13 gF oF n cF i jp P PQ pB B cB Q df w0 x w H (hdeps { on := 12, ground := Ground.data } (by simp) rfl) (hdeps { on := 7, ground := Ground.guard } (by simp) rfl)
    | 14, ho, _ =>
      have e : o = drf4_o14 := (Option.some.inj ho).symm
      subst e
      exact drfC_s14 gF oF n cF i jp P PQ pB B cB Q df w0 x w H (hdeps { on := 13, ground := Ground.data } (by simp) rfl) (hdeps { on := 7, ground := Ground.guard } (by simp) rfl)
    | 15, ho, _ =>
      have e : o = drf4_o15 := (Option.some.inj ho).symm
      subst e
      exact drfC_s15 gF oF n cF i jp P PQ pB B cB Q df w0 x w H (hdeps { on := 7, ground := Ground.data } (by simp) rfl) (hdeps { on := 14, ground := Ground.data } (by simp) rfl)
    | 16, ho, _ =>
      have e : o = drf4_o16 := (Option.some.inj ho).symm
      subst e
      exact drfC_s16 gF oF n cF i jp P PQ pB B cB Q df w0 x w H (hdeps { on := 15, ground := Ground.data } (by simp) rfl)
    | 17, ho, _ =>
      have e : o = drf4_o17 := (Option.some.inj ho).symm
      subst e
      exact drfC_s17 gF oF n cF i jp P PQ pB B cB Q df w0 x w H (hdeps { on := 16, ground := Ground.guard } (by simp) rfl)
    | 18, ho, _ =>
      have e : o = drf4_o18 := (Option.some.inj ho).symm
      subst e
      exact drfC_s18 gF oF n cF i jp P PQ pB B cB Q df w0 x w H (hdeps { on := 17, ground := Ground.data } (by simp) rfl) (hdeps { on := 16, ground := Ground.guard } (by simp) rfl)
    | 19, ho, _ =>
      have e : o = drf4_o19 := (Option.some.inj ho).symm
      subst e
      exact drfC_s19 gF oF n cF i jp P PQ pB B cB Q df w0 x w H (hdeps { on := 18, ground := Ground.data } (by simp) rfl) (hdeps { on := 16, ground := Ground.guard } (by simp) rfl)
    | 20, ho, _ =>
      have e : o = drf4_o20 := (Option.some.inj ho).symm
      subst e
      exact drfC_s20 gF oF n cF i jp P PQ pB B cB Q df w0 x w H (hdeps { on := 19, ground := Ground.guard } (by simp) rfl)
    | 21, ho, _ =>
      have e : o = drf4_o21 := (Option.some.inj ho).symm
      subst e
      exact drfC_s21 gF oF n cF i jp P PQ pB B cB Q df w0 x w H (hdeps { on := 19, ground := Ground.guard } (by simp) rfl)
    | 22, ho, _ =>
      have e : o = drf4_o22 := (Option.some.inj ho).symm
      subst e
      exact drfC_s22 gF oF n cF i jp P PQ pB B cB Q df w0 x w H (hdeps { on := 21, ground := Ground.data } (by simp) rfl) (hdeps { on := 19, ground := Ground.guard } (by simp) rfl)
    | 23, ho, _ =>
      have e : o = drf4_o23 := (Option.some.inj ho).symm
      subst e
      exact drfC_s23 gF oF n cF i jp P PQ pB B cB Q df w0 x w H (hdeps { on := 20, ground := Ground.data } (by simp) rfl) (hdeps { on := 22, ground := Ground.data } (by simp) rfl) (hdeps { on := 19, ground := Ground.guard } (by simp) rfl)
    | 24, ho, _ =>
      have e : o = drf4_o24 := (Option.some.inj ho).symm
      subst e
      exact drfC_s24 gF oF n cF i jp P PQ pB B cB Q df w0 x w H (hdeps { on := 23, ground := Ground.data } (by simp) rfl) (hdeps { on := 19, ground := Ground.guard } (by simp) rfl)
    | 25, ho, _ =>
      have e : o = drf4_o25 := (Option.some.inj ho).symm
      subst e
      exact drfC_s25 gF oF n cF i jp P PQ pB B cB Q df w0 x w H (hdeps { on := 24, ground := Ground.data } (by simp) rfl) (hdeps { on := 19, ground := Ground.guard } (by simp) rfl)
    | 26, ho, _ =>
      have e : o = drf4_o26 := (Option.some.inj ho).symm
      subst e
      exact drfC_s26 gF oF n cF i jp P PQ pB B cB Q df w0 x w H (hdeps { on := 19, ground := Ground.guard } (by simp) rfl)
    | 27, ho, _ =>
      have e : o = drf4_o27 := (Option.some.inj ho).symm
      subst e
      exact drfC_s27 gF oF n cF i jp P PQ pB B cB Q df w0 x w H (hdeps { on := 19, ground := Ground.guard } (by simp) rfl)
    | 28, ho, _ =>
      have e : o = drf4_o28 := (Option.some.inj ho).symm
      subst e
      exact drfC_s28 gF oF n cF i jp P PQ pB B cB Q df w0 x w H (hdeps { on := 26, ground := Ground.data } (by simp) rfl) (hdeps { on := 27, ground := Ground.data } (by simp) rfl) (hdeps { on := 19, ground := Ground.guard } (by simp) rfl)
    | 29, ho, _ =>
      have e : o = drf4_o29 := (Option.some.inj ho).symm
      subst e
      exact drfC_s29 gF oF n cF i jp P PQ pB B cB Q df w0 x w H (hdeps { on := 28, ground := Ground.data } (by simp) rfl) (hdeps { on := 19, ground := Ground.guard } (by simp) rfl)
    | 30, ho, _ =>
      have e : o = drf4_o30 := (Option.some.inj ho).symm
      subst e
      exact drfC_s30 gF oF n cF i jp P PQ pB B cB Q df w0 x w H (hdeps { on := 29, ground := Ground.data } (by simp) rfl) (hdeps { on := 19, ground := Ground.guard } (by simp) rfl)
    | 31, ho, _ =>
      have e : o = drf4_o31 := (Option.some.inj ho).symm
      subst e
      exact drfC_s31 gF oF n cF i jp P PQ pB B cB Q df w0 x w H (hdeps { on := 25, ground := Ground.data } (by simp) rfl) (hdeps { on := 30, ground := Ground.data } (by simp) rfl) (hdeps { on := 19, ground := Ground.guard } (by simp) rfl)
    | 32, ho, _ =>
      have e : o = drf4_o32 := (Option.some.inj ho).symm
      subst e
      exact drfC_s32 gF oF n cF i jp P PQ pB B cB Q df w0 x w H (hdeps { on := 19, ground := Ground.data } (by simp) rfl) (hdeps { on := 31, ground := Ground.data } (by simp) rfl) (hdeps { on := 16, ground := Ground.guard } (by simp) rfl)
    | 33, ho, _ =>
      have e : o = drf4_o33 := (Option.some.inj ho).symm
      subst e
      exact drfC_s33 gF oF n cF i jp P PQ pB B cB Q df w0 x w H (hdeps { on := 16, ground := Ground.data } (by simp) rfl) (hdeps { on := 32, ground := Ground.data } (by simp) rfl)
    | k + 34, _, hj => omega
  · intro x w hB hdef hsz hs hv
    have hx := frame_sets x.tmps t0 hsz [10, 11, 12, 13, 14, 15, 16, 17, 18, 19, 20, 21, 22, 23, 24, 25, 26, 27, 28, 29, 30, 31, 32, 33, 34, 35, 36, 37, 38, 39, 40, 41, 42, 43] (fun s hn => hs s (fun j hj e => hn (by rw [e]; exact drf4_slots j hj)))
    have hq := hQ (fun d => x.tmps.getD d undef) w hB (hv 33 (by decide))
    obtain ⟨T, Df⟩ := x
    dsimp only at hx hdef hq
    subst hdef
    rw [← hx] at hq
    exact hq
def drfD_val (gF oF n cF i jp : Nat) (P PQ : List UInt8) (pB : Option Addr) (B : List Nat) (cB : Nat) : Nat → Value → World → Prop
  | 0, v, w => v = .slice (some ⟨gF, oF, none⟩) n cF
  | 1, v, w => v = .int .i64 (i : Nat)
  | 2, v, w => v = .pointer (some ⟨gF, oF + i * 2, none⟩)
  | 3, v, w => v = .pointer (some ⟨gF, oF + i * 2, none⟩)
  | 4, v, w => v = by8 P
  | 5, v, w => v = .bool true
  | 6, v, w => v = .bool false
  | 7, v, w => v = .bool false
  | 8, v, w => v = .slice (some ⟨gF, oF, none⟩) n cF
  | 9, v, w => v = .int .i64 (i : Nat)
  | 10, v, w => v = .pointer (some ⟨gF, oF + i * 2, none⟩)
  | 11, v, w => v = .pointer (some ⟨gF, oF + i * 2 + 1, none⟩)
  | 12, v, w => v = .slice pB (B.length) cB
  | 13, v, w => v = .int .i64 ((B.length) : Nat)
  | 14, v, w => v = .bool true
  | 15, v, w => v = .bool true
  | 16, v, w => v = .bool true
  | 17, v, w => v = undef
  | 18, v, w => v = undef
  | 19, v, w => v = undef
  | 20, v, w => v = undef
  | 21, v, w => v = undef
  | 22, v, w => v = undef
  | 23, v, w => v = undef
  | 24, v, w => v = undef
  | 25, v, w => v = undef
  | 26, v, w => v = undef
  | 27, v, w => v = undef
  | 28, v, w => v = undef
  | 29, v, w => v = undef
  | 30, v, w => v = undef
  | 31, v, w => v = undef
  | 32, v, w => v = undef
  | 33, v, w => v = .bool true
  | _, _, _ => True
theorem drfD_below (gF oF n cF i jp : Nat) (P PQ : List UInt8) (pB : Option Addr) (B : List Nat) (cB : Nat) (w w' : World) (hb : Below w.heap.size w w') : ∀ j v, drfD_val gF oF n cF i jp P PQ pB B cB j v w → drfD_val gF oF n cF i jp P PQ pB B cB j v w' := by
  intro j v h
  match j, h with
  | 0, h => exact h
  | 1, h => exact h
  | 2, h => exact h
  | 3, h => exact h
  | 4, h => exact h
  | 5, h => exact h
  | 6, h => exact h
  | 7, h => exact h
  | 8, h => exact h
  | 9, h => exact h
  | 10, h => exact h
  | 11, h => exact h
  | 12, h => exact h
  | 13, h => exact h
  | 14, h => exact h
  | 15, h => exact h
  | 16, h => exact h
  | 17, h => exact h
  | 18, h => exact h
  | 19, h => exact h
  | 20, h => exact h
  | 21, h => exact h
  | 22, h => exact h
  | 23, h => exact h
  | 24, h => exact h
  | 25, h => exact h
  | 26, h => exact h
  | 27, h => exact h
  | 28, h => exact h
  | 29, h => exact h
  | 30, h => exact h
  | 31, h => exact h
  | 32, h => exact h
  | 33, h => exact h
  | _ + 34, h => exact h
def drfD_H (Fc : Fence) (gF oF n cF i jp : Nat) (P PQ : List UInt8) (pB : Option Addr) (B : List Nat) (cB : Nat) (df : List Deferred) (w0 : World) (x : Act) (w : World) : Prop :=
  (Wide Fc) ∧ (i < n) ∧ (n ≤ 140737488351232) ∧ (w0.cell? ⟨gF, oF + i * 2, none⟩ = some (by8 P)) ∧ (P.length ≤ 1000000) ∧ (rightP P = true) ∧ (w0.cell? ⟨gF, oF + i * 2 + 1, none⟩ = some (.slice pB (B.length) cB)) ∧ (decide ((1048576 : Int) < (B.length : Nat)) = true) ∧ (Below w0.heap.size w0 w) ∧ (x.defers = df) ∧ (x.tmps.getD 0 undef = .slice (some ⟨gF, oF, none⟩) n cF) ∧ (x.tmps.getD 3 undef = .int .i64 (i : Nat))
section
set_option maxRecDepth 100000
set_option maxHeartbeats 2000000
variable {Fc : Fence} {nC : Nat} (gF oF n cF i jp : Nat) (P PQ : List UInt8) (pB : Option Addr) (B : List Nat) (cB : Nat) (Q : Exit → Act → World → Prop) (df : List Deferred) (w0 : World) (x : Act) (w : World)
theorem drfD_s0 (H : drfD_H Fc gF oF n cF i jp P PQ pB B cB df w0 x w)
    : Stp Fc nC Try.prog drf4_ops Q 0 10 (drfD_val gF oF n cF i jp P PQ pB B cB 0) x w := by
  obtain ⟨hF, hi, hn, f0, hp, hr, f1, h2, hB, hdef, u0, u3⟩ := H
  have ho : drf4_ops[0]? = some drf4_o0 := rfl
  simp only [Array.getD_eq_getD_getElem?] at u0 u3
  refine wpOpIn_plain ho rfl (oper_inK hF.fn (fun K hK => ?_))
  clear ho
  rw [Oper.semAt_plain Fc _ _ (by intro c h; cases h)]
  simp only [drf4_o0]
  go_simp
  exact hK _ _ ⟨_, act_putD x hdef _ _, rfl, Below.refl _ _⟩
theorem drfD_s1 (H : drfD_H Fc gF oF n cF i jp P PQ pB B cB df w0 x w)
    : Stp Fc nC Try.prog drf4_ops Q 1 11 (drfD_val gF oF n cF i jp P PQ pB B cB 1) x w := by
  obtain ⟨hF, hi, hn, f0, hp, hr, f1, h2, hB, hdef, u0, u3⟩ := H
  have ho : drf4_ops[1]? = some drf4_o1 := rfl
  simp only [Array.getD_eq_getD_getElem?] at u0 u3
  refine wpOpIn_plain ho rfl (oper_inK hF.fn (fun K hK => ?_))
  clear ho
  rw [Oper.semAt_plain Fc _ _ (by intro c h; cases h)]
  simp only [drf4_o1]
  go_simp
  exact hK _ _ ⟨_, act_putD x hdef _ _, rfl, Below.refl _ _⟩
theorem drfD_s2 (H : drfD_H Fc gF oF n cF i jp P PQ pB B cB df w0 x w)
    (p0 : drfD_val gF oF n cF i jp P PQ pB B cB 0 (x.tmps.getD 10 undef) w)
    (p1 : drfD_val gF oF n cF i jp P PQ pB B cB 1 (x.tmps.getD 11 undef) w)
    : Stp Fc nC Try.prog drf4_ops Q 2 12 (drfD_val gF oF n cF i jp P PQ pB B cB 2) x w := by
  obtain ⟨hF, hi, hn, f0, hp, hr, f1, h2, hB, hdef, u0, u3⟩ := H
  have ho : drf4_ops[2]? = some drf4_o2 := rfl
  simp only [Array.getD_eq_getD_getElem?] at u0 u3
  have q0 : x.tmps.getD 10 undef = .slice (some ⟨gF, oF, none⟩) n cF := p0
  have q1 : x.tmps.getD 11 undef = .int .i64 (i : Nat) := p1
  simp only [Array.getD_eq_getD_getElem?] at q0 q1
  have i0 : (0 : Int) ≤ (i : Int) := by omega
  have i1 : (i : Int) < (n : Int) := by omega
  refine wpOpIn_plain ho rfl (oper_inK hF.fn (fun K hK => ?_))
  clear ho
  rw [Oper.semAt_plain Fc _ _ (by intro c h; cases h)]
  simp only [drf4_o2]
  go_simp
  exact hK _ _ ⟨_, act_putD x hdef _ _, rfl, Below.refl _ _⟩
theorem drfD_s3 (H : drfD_H Fc gF oF n cF i jp P PQ pB B cB df w0 x w)
    (p2 : drfD_val gF oF n cF i jp P PQ pB B cB 2 (x.tmps.getD 12 undef) w)
    : Stp Fc nC Try.prog drf4_ops Q 3 13 (drfD_val gF oF n cF i jp P PQ pB B cB 3) x w := by
  obtain ⟨hF, hi, hn, f0, hp, hr, f1, h2, hB, hdef, u0, u3⟩ := H
  have ho : drf4_ops[3]? = some drf4_o3 := rfl
  simp only [Array.getD_eq_getD_getElem?] at u0 u3
  have q2 : x.tmps.getD 12 undef = .pointer (some ⟨gF, oF + i * 2, none⟩) := p2
  simp only [Array.getD_eq_getD_getElem?] at q2
  refine wpOpIn_plain ho rfl (oper_inK hF.fn (fun K hK => ?_))
  clear ho
  rw [Oper.semAt_plain Fc _ _ (by intro c h; cases h)]
  simp only [drf4_o3]
  go_simp
  exact hK _ _ ⟨_, act_putD x hdef _ _, rfl, Below.refl _ _⟩
theorem drfD_s4 (H : drfD_H Fc gF oF n cF i jp P PQ pB B cB df w0 x w)
    (p3 : drfD_val gF oF n cF i jp P PQ pB B cB 3 (x.tmps.getD 13 undef) w)
    : Stp Fc nC Try.prog drf4_ops Q 4 14 (drfD_val gF oF n cF i jp P PQ pB B cB 4) x w := by
  obtain ⟨hF, hi, hn, f0, hp, hr, f1, h2, hB, hdef, u0, u3⟩ := H
  have ho : drf4_ops[4]? = some drf4_o4 := rfl
  simp only [Array.getD_eq_getD_getElem?] at u0 u3
  have q3 : x.tmps.getD 13 undef = .pointer (some ⟨gF, oF + i * 2, none⟩) := p3
  simp only [Array.getD_eq_getD_getElem?] at q3
  have m := cell_thru f0 hB
  refine wpOpIn_plain ho rfl (oper_inK hF.fn (fun K hK => ?_))
  clear ho
  rw [Oper.semAt_plain Fc _ _ (by intro c h; cases h)]
  simp only [drf4_o4]
  go_simp
  exact hK _ _ ⟨_, act_putD x hdef _ _, rfl, Below.refl _ _⟩
theorem drfD_s5 (H : drfD_H Fc gF oF n cF i jp P PQ pB B cB df w0 x w)
    (p4 : drfD_val gF oF n cF i jp P PQ pB B cB 4 (x.tmps.getD 14 undef) w)
    : Stp Fc nC Try.prog drf4_ops Q 5 15 (drfD_val gF oF n cF i jp P PQ pB B cB 5) x w := by
  obtain ⟨hF, hi, hn, f0, hp, hr, f1, h2, hB, hdef, u0, u3⟩ := H
  have ho : drf4_ops[5]? = some drf4_o5 := rfl
  simp only [Array.getD_eq_getD_getElem?] at u0 u3
  have q4 : x.tmps.getD 14 undef = by8 P := p4
  simp only [Array.getD_eq_getD_getElem?] at q4
  refine wpOpIn_plain ho rfl (oper_inK hF.fn (fun K hK => ?_))
  clear ho
  rw [Oper.semAt_plain Fc _ _ (by intro c h; cases h)]
  simp only [drf4_o5]
  go_simp
  refine ⟨hF.deep, (hF.call (refRight_any P w hp)).mono ?_⟩
  rintro e w' ⟨rfl, hb⟩
  exact hK _ _ ⟨_, act_putD x hdef _ _, by rw [hr]; exact rfl, hb⟩
theorem drfD_s6 (H : drfD_H Fc gF oF n cF i jp P PQ pB B cB df w0 x w)
    (p5 : drfD_val gF oF n cF i jp P PQ pB B cB 5 (x.tmps.getD 15 undef) w)
    : Stp Fc nC Try.prog drf4_ops Q 6 16 (drfD_val gF oF n cF i jp P PQ pB B cB 6) x w := by
  obtain ⟨hF, hi, hn, f0, hp, hr, f1, h2, hB, hdef, u0, u3⟩ := H
  have ho : drf4_ops[6]? = some drf4_o6 := rfl
  simp only [Array.getD_eq_getD_getElem?] at u0 u3
  have q5 : x.tmps.getD 15 undef = .bool true := p5
  simp only [Array.getD_eq_getD_getElem?] at q5
  refine wpOpIn_plain ho rfl (oper_inK hF.fn (fun K hK => ?_))
  clear ho
  rw [Oper.semAt_plain Fc _ _ (by intro c h; cases h)]
  simp only [drf4_o6]
  go_simp
  exact hK _ _ ⟨_, act_putD x hdef _ _, rfl, Below.refl _ _⟩
theorem drfD_s7 (H : drfD_H Fc gF oF n cF i jp P PQ pB B cB df w0 x w)
    (p6 : drfD_val gF oF n cF i jp P PQ pB B cB 6 (x.tmps.getD 16 undef) w)
    : Stp Fc nC Try.prog drf4_ops Q 7 17 (drfD_val gF oF n cF i jp P PQ pB B cB 7) x w := by
  obtain ⟨hF, hi, hn, f0, hp, hr, f1, h2, hB, hdef, u0, u3⟩ := H
  have ho : drf4_ops[7]? = some drf4_o7 := rfl
  simp only [Array.getD_eq_getD_getElem?] at u0 u3
  have q6 : x.tmps.getD 16 undef = .bool false := p6
  simp only [Array.getD_eq_getD_getElem?] at q6
  refine wpOpIn_plain ho rfl (oper_inK hF.fn (fun K hK => ?_))
  clear ho
  rw [Oper.semAt_plain Fc _ _ (by intro c h; cases h)]
  simp only [drf4_o7]
  go_simp
  exact hK _ _ ⟨_, act_putD x hdef _ _, rfl, Below.refl _ _⟩
theorem drfD_s8 (H : drfD_H Fc gF oF n cF i jp P PQ pB B cB df w0 x w)
    (p7 : drfD_val gF oF n cF i jp P PQ pB B cB 7 (x.tmps.getD 17 undef) w)
    : Stp Fc nC Try.prog drf4_ops Q 8 18 (drfD_val gF oF n cF i jp P PQ pB B cB 8) x w := by
  obtain ⟨hF, hi, hn, f0, hp, hr, f1, h2, hB, hdef, u0, u3⟩ := H
  have ho : drf4_ops[8]? = some drf4_o8 := rfl
  simp only [Array.getD_eq_getD_getElem?] at u0 u3
  have q7 : x.tmps.getD 17 undef = .bool false := p7
  simp only [Array.getD_eq_getD_getElem?] at q7
  have e7 : (drf4_ops[7]?.bind fun x => x.dst) = some 17 := rfl
  have g7 := get_someT q7 (fun h => by cases h)
  refine wpOpIn_stepT hF ho (fun K hK => ?_)
  clear ho
  rw [Oper.semAt_plain Fc _ _ (by intro c h; cases h)]
  simp only [drf4_o8]
  go_simp
  exact hK _ _ ⟨_, act_putD x hdef _ _, rfl, Below.refl _ _⟩
theorem drfD_s9 (H : drfD_H Fc gF oF n cF i jp P PQ pB B cB df w0 x w)
    (p7 : drfD_val gF oF n cF i jp P PQ pB B cB 7 (x.tmps.getD 17 undef) w)
    : Stp Fc nC Try.prog drf4_ops Q 9 19 (drfD_val gF oF n cF i jp P PQ pB B cB 9) x w := by
  obtain ⟨hF, hi, hn, f0, hp, hr, f1, h2, hB, hdef, u0, u3⟩ := H
  have ho : drf4_ops[9]? = some drf4_o9 := rfl
  simp only [Array.getD_eq_getD_getElem?] at u0 u3
  have q7 : x.tmps.getD 17 undef = .bool false := p7
  simp only [Array.getD_eq_getD_getElem?] at q7
  have e7 : (drf4_ops[7]?.bind fun x => x.dst) = some 17 := rfl
  have g7 := get_someT q7 (fun h => by cases h)
  refine wpOpIn_stepT hF ho (fun K hK => ?_)
  clear ho
  rw [Oper.semAt_plain Fc _ _ (by intro c h; cases h)]
  simp only [drf4_o9]
  go_simp
  exact hK _ _ ⟨_, act_putD x hdef _ _, rfl, Below.refl _ _⟩
theorem drfD_s10 (H : drfD_H Fc gF oF n cF i jp P PQ pB B cB df w0 x w)
    (p8 : drfD_val gF oF n cF i jp P PQ pB B cB 8 (x.tmps.getD 18 undef) w)
    (p9 : drfD_val gF oF n cF i jp P PQ pB B cB 9 (x.tmps.getD 19 undef) w)
    (p7 : drfD_val gF oF n cF i jp P PQ pB B cB 7 (x.tmps.getD 17 undef) w)
    : Stp Fc nC Try.prog drf4_ops Q 10 20 (drfD_val gF oF n cF i jp P PQ pB B cB 10) x w := by
  obtain ⟨hF, hi, hn, f0, hp, hr, f1, h2, hB, hdef, u0, u3⟩ := H
  have ho : drf4_ops[10]? = some drf4_o10 := rfl
  simp only [Array.getD_eq_getD_getElem?] at u0 u3
  have q8 : x.tmps.getD 18 undef = .slice (some ⟨gF, oF, none⟩) n cF := p8
  have q9 : x.tmps.getD 19 undef = .int .i64 (i : Nat) := p9
  have q7 : x.tmps.getD 17 undef = .bool false := p7
  simp only [Array.getD_eq_getD_getElem?] at q8 q9 q7
  have e7 : (drf4_ops[7]?.bind fun x => x.dst) = some 17 := rfl
  have g7 := get_someT q7 (fun h => by cases h)
  have i0 : (0 : Int) ≤ (i : Int) := by omega
  have i1 : (i : Int) < (n : Int) := by omega
  refine wpOpIn_stepT hF ho (fun K hK => ?_)
  clear ho
  rw [Oper.semAt_plain Fc _ _ (by intro c h; cases h)]
  simp only [drf4_o10]
  go_simp
  exact hK _ _ ⟨_, act_putD x hdef _ _, rfl, Below.refl _ _⟩
theorem drfD_s11 (H : drfD_H Fc gF oF n cF i jp P PQ pB B cB df w0 x w)
    (p10 : drfD_val gF oF n cF i jp P PQ pB B cB 10 (x.tmps.getD 20 undef) w)
    (p7 : drfD_val gF oF n cF i jp P PQ pB B cB 7 (x.tmps.getD 17 undef) w)
    : Stp Fc nC Try.prog drf4_ops Q 11 21 (drfD_val gF oF n cF i jp P PQ pB B cB 11) x w := by
  obtain ⟨hF, hi, hn, f0, hp, hr, f1, h2, hB, hdef, u0, u3⟩ := H
  have ho : drf4_ops[11]? = some drf4_o11 := rfl
  simp only [Array.getD_eq_getD_getElem?] at u0 u3
  have q10 : x.tmps.getD 20 undef = .pointer (some ⟨gF, oF + i * 2, none⟩) := p10
  have q7 : x.tmps.getD 17 undef = .bool false := p7
  simp only [Array.getD_eq_getD_getElem?] at q10 q7
  have e7 : (drf4_ops[7]?.bind fun x => x.dst) = some 17 := rfl
  have g7 := get_someT q7 (fun h => by cases h)
  refine wpOpIn_stepT hF ho (fun K hK => ?_)
  clear ho
  rw [Oper.semAt_plain Fc _ _ (by intro c h; cases h)]
  simp only [drf4_o11]
  go_simp
  exact hK _ _ ⟨_, act_putD x hdef _ _, rfl, Below.refl _ _⟩
theorem drfD_s12 (H : drfD_H Fc gF oF n cF i jp P PQ pB B cB df w0 x w)
    (p11 : drfD_val gF oF n cF i jp P PQ pB B cB 11 (x.tmps.getD 21 undef) w)
    (p7 : drfD_val gF oF n cF i jp P PQ pB B cB 7 (x.tmps.getD 17 undef) w)
    : Stp Fc nC Try.prog drf4_ops Q 12 22 (drfD_val gF oF n cF i jp P PQ pB B cB 12) x w := by
  obtain ⟨hF, hi, hn, f0, hp, hr, f1, h2, hB, hdef, u0, u3⟩ := H
  have ho : drf4_ops[12]? = some drf4_o12 := rfl
  simp only [Array.getD_eq_getD_getElem?] at u0 u3
  have q11 : x.tmps.getD 21 undef = .pointer (some ⟨gF, oF + i * 2 + 1, none⟩) := p11
  have q7 : x.tmps.getD 17 undef = .bool false := p7
  simp only [Array.getD_eq_getD_getElem?] at q11 q7
  have e7 : (drf4_ops[7]?.bind fun x => x.dst) = some 17 := rfl
  have g7 := get_someT q7 (fun h => by cases h)
  have m := cell_thru f1 hB
  refine wpOpIn_stepT hF ho (fun K hK => ?_)
  clear ho
  rw [Oper.semAt_plain Fc _ _ (by intro c h; cases h)]
  simp only [drf4_o12]
  go_simp
  exact hK _ _ ⟨_, act_putD x hdef _ _, rfl, Below.refl _ _⟩
theorem drfD_s13 (H : drfD_H Fc gF oF n cF i jp P PQ pB B cB df w0 x w)
    (p12 : drfD_val gF oF n cF i jp P PQ pB B cB 12 (x.tmps.getD 22 undef) w)
    (p7 : drfD_val gF oF n cF i jp P PQ pB B cB 7 (x.tmps.getD 17 undef) w)
    : Stp Fc nC Try.prog drf4_ops Q 13 23 (drfD_val gF oF n cF i jp P PQ pB B cB 13) x w := by
  obtain ⟨hF, hi, hn, f0, hp, hr, f1, h2, hB, hdef, u0, u3⟩ := H
  have ho : drf4_ops[13]? = some drf4_o13 := rfl
  simp only [Array.getD_eq_getD_getElem?] at u0 u3
  have q12 : x.tmps.getD 22 undef = .slice pB (B.length) cB := p12
  have q7 : x.tmps.getD 17 undef = .bool false := p7
  simp only [Array.getD_eq_getD_getElem?] at q12 q7
  have e7 : (drf4_ops[7]?.bind fun x => x.dst) = some 17 := rfl
  have g7 := get_someT q7 (fun h => by cases h)
  refine wpOpIn_stepT hF ho (fun K hK => ?_)
  clear ho
  rw [Oper.semAt_plain Fc _ _ (by intro c h; cases h)]
  simp only [drf4_o13]
  go_simp
  exact hK _ _ ⟨_, act_putD x hdef _ _, rfl, Below.refl _ _⟩
theorem drfD_s14 (H : drfD_H Fc gF oF n cF i jp P PQ pB B cB df w0 x w)
    (p13 : drfD_val gF oF n cF i jp P PQ pB B cB 13 (x.tmps.getD 23 undef) w)
    (p7 : drfD_val gF oF n cF i jp P PQ pB B cB 7 (x.tmps.getD 17 undef) w)
    : Stp Fc nC Try.prog drf4_ops Q 14 24 (drfD_val gF oF n cF i jp P PQ pB B cB 14) x w := by
  obtain ⟨hF, hi, hn, f0, hp, hr, f1, h2, hB, hdef, u0, u3⟩ := H
  have ho : drf4_ops[14]? = some drf4_o14 := rfl
  simp only [Array.getD_eq_getD_getElem?] at u0 u3
  have q13 : x.tmps.getD 23 undef = .int .i64 ((B.length) : Nat) := p13
  have q7 : x.tmps.getD 17 undef = .bool false := p7
  simp only [Array.getD_eq_getD_getElem?] at q13 q7
  have e7 : (drf4_ops[7]?.bind fun x => x.dst) = some 17 := rfl
  have g7 := get_someT q7 (fun h => by cases h)
  have m := h2
  refine wpOpIn_stepT hF ho (fun K hK => ?_)
  clear ho
  rw [Oper.semAt_plain Fc _ _ (by intro c h; cases h)]
  simp only [drf4_o14]
  go_simp
  exact hK _ _ ⟨_, act_putD x hdef _ _, rfl, Below.refl _ _⟩
theorem drfD_s15 (H : drfD_H Fc gF oF n cF i jp P PQ pB B cB df w0 x w)
    (p7 : drfD_val gF oF n cF i jp P PQ pB B cB 7 (x.tmps.getD 17 undef) w)
    (p14 : drfD_val gF oF n cF i jp P PQ pB B cB 14 (x.tmps.getD 24 undef) w)
    : Stp Fc nC Try.prog drf4_ops Q 15 25 (drfD_val gF oF n cF i jp P PQ pB B cB 15) x w := by
  obtain ⟨hF, hi, hn, f0, hp, hr, f1, h2, hB, hdef, u0, u3⟩ := H
  have ho : drf4_ops[15]? = some drf4_o15 := rfl
  simp only [Array.getD_eq_getD_getElem?] at u0 u3
  have q7 : x.tmps.getD 17 undef = .bool false := p7
  have q14 : x.tmps.getD 24 undef = .bool true := p14
  simp only [Array.getD_eq_getD_getElem?] at q7 q14
  refine wpOpIn_plain ho rfl (oper_inK hF.fn (fun K hK => ?_))
  clear ho
  rw [Oper.semAt_plain Fc _ _ (by intro c h; cases h)]
  simp only [drf4_o15]
  go_simp
  exact hK _ _ ⟨_, act_putD x hdef _ _, rfl, Below.refl _ _⟩
theorem drfD_s16 (H : drfD_H Fc gF oF n cF i jp P PQ pB B cB df w0 x w)
    (p15 : drfD_val gF oF n cF i jp P PQ pB B cB 15 (x.tmps.getD 25 undef) w)
    : Stp Fc nC Try.prog drf4_ops Q 16 26 (drfD_val gF oF n cF i jp P PQ pB B cB 16) x w := by
  obtain ⟨hF, hi, hn, f0, hp, hr, f1, h2, hB, hdef, u0, u3⟩ := H
  have ho : drf4_ops[16]? = some drf4_o16 := rfl
  simp only [Array.getD_eq_getD_getElem?] at u0 u3
  have q15 : x.tmps.getD 25 undef = .bool true := p15
  simp only [Array.getD_eq_getD_getElem?] at q15
  refine wpOpIn_plain ho rfl (oper_inK hF.fn (fun K hK => ?_))
  clear ho
  rw [Oper.semAt_plain Fc _ _ (by intro c h; cases h)]
  simp only [drf4_o16]
  go_simp
  exact hK _ _ ⟨_, act_putD x hdef _ _, rfl, Below.refl _ _⟩
theorem drfD_s17 (H : drfD_H Fc gF oF n cF i jp P PQ pB B cB df w0 x w)
    (p16 : drfD_val gF oF n cF i jp P PQ pB B cB 16 (x.tmps.getD 26 undef) w)
    : Stp Fc nC Try.prog drf4_ops Q 17 27 (drfD_val gF oF n cF i jp P PQ pB B cB 17) x w := by
  obtain ⟨hF, hi, hn, f0, hp, hr, f1, h2, hB, hdef, u0, u3⟩ := H
  have ho : drf4_ops[17]? = some drf4_o17 := rfl
  simp only [Array.getD_eq_getD_getElem?] at u0 u3
  have q16 : x.tmps.getD 26 undef = .bool true := p16
  simp only [Array.getD_eq_getD_getElem?] at q16
  have e16 : (drf4_ops[16]?.bind fun x => x.dst) = some 26 := rfl
  have g16 := get_someT q16 (fun h => by cases h)
  refine wpOpIn_stepT hF ho (fun K hK => ?_)
  clear ho
  rw [Oper.semAt_plain Fc _ _ (by intro c h; cases h)]
  simp only [drf4_o17]
  go_simp
  exact hK _ _ ⟨_, act_putD x hdef _ _, rfl, Below.refl _ _⟩
theorem drfD_s18 (H : drfD_H Fc gF oF n cF i jp P PQ pB B cB df w0 x w)
    (p17 : drfD_val gF oF n cF i jp P PQ pB B cB 17 (x.tmps.getD 27 undef) w)
    (p16 : drfD_val gF oF n cF i jp P PQ pB B cB 16 (x.tmps.getD 26 undef) w)
    : Stp Fc nC Try.prog drf4_ops Q 18 28 (drfD_val gF oF n cF i jp P PQ pB B cB 18) x w := by
  obtain ⟨hF, hi, hn, f0, hp, hr, f1, h2, hB, hdef, u0, u3⟩ := H
  have ho : drf4_ops[18]? = some drf4_o18 := rfl
  simp only [Array.getD_eq_getD_getElem?] at u0 u3
  have q17 : x.tmps.getD 27 undef = undef := p17
  have q16 : x.tmps.getD 26 undef = .bool true := p16
  simp only [Array.getD_eq_getD_getElem?] at q17 q16
  have e16 : (drf4_ops[16]?.bind fun x => x.dst) = some 26 := rfl
  have g16 := get_someT q16 (fun h => by cases h)
  refine wpOpIn_stepT hF ho (fun K hK => ?_)
  clear ho
  rw [Oper.semAt_plain Fc _ _ (by intro c h; cases h)]
  simp only [drf4_o18]
  go_simp
  exact hK _ _ ⟨_, act_putD x hdef _ _, rfl, Below.refl _ _⟩
theorem drfD_s19 (H : drfD_H Fc gF oF n cF i jp P PQ pB B cB df w0 x w)
    (p18 : drfD_val gF oF n cF i jp P PQ pB B cB 18 (x.tmps.getD 28 undef) w)
    (p16 : drfD_val gF oF n cF i jp P PQ pB B cB 16 (x.tmps.getD 26 undef) w)
    : Stp Fc nC Try.prog drf4_ops Q 19 29 (drfD_val gF oF n cF i jp P PQ pB B cB 19) x w := by
  obtain ⟨hF, hi, hn, f0, hp, hr, f1, h2, hB, hdef, u0, u3⟩ := H
  have ho : drf4_ops[19]? = some drf4_o19 := rfl
  simp only [Array.getD_eq_getD_getElem?] at u0 u3
  have q18 : x.tmps.getD 28 undef = undef := p18
  have q16 : x.tmps.getD 26 undef = .bool true := p16
  simp only [Array.getD_eq_getD_getElem?] at q18 q16
  have e16 : (drf4_ops[16]?.bind fun x => x.dst) = some 26 := rfl
  have g16 := get_someT q16 (fun h => by cases h)
  refine wpOpIn_stepT hF ho (fun K hK => ?_)
  clear ho
  rw [Oper.semAt_plain Fc _ _ (by intro c h; cases h)]
  simp only [drf4_o19]
  go_simp
  exact hK _ _ ⟨_, act_putD x hdef _ _, rfl, Below.refl _ _⟩
theorem drfD_s20 (H : drfD_H Fc gF oF n cF i jp P PQ pB B cB df w0 x w)
    (p19 : drfD_val gF oF n cF i jp P PQ pB B cB 19 (x.tmps.getD 29 undef) w)
    : Stp Fc nC Try.prog drf4_ops Q 20 30 (drfD_val gF oF n cF i jp P PQ pB B cB 20) x w := by
  obtain ⟨hF, hi, hn, f0, hp, hr, f1, h2, hB, hdef, u0, u3⟩ := H
  have ho : drf4_ops[20]? = some drf4_o20 := rfl
  simp only [Array.getD_eq_getD_getElem?] at u0 u3
  have q19 : x.tmps.getD 29 undef = undef := p19
  simp only [Array.getD_eq_getD_getElem?] at q19
  have e19 : (drf4_ops[19]?.bind fun x => x.dst) = some 29 := rfl
  exact op_skipped hF ho rfl e19 q19 ⟨_, rfl, rfl, Below.refl _ _⟩
theorem drfD_s21 (H : drfD_H Fc gF oF n cF i jp P PQ pB B cB df w0 x w)
    (p19 : drfD_val gF oF n cF i jp P PQ pB B cB 19 (x.tmps.getD 29 undef) w)
    : Stp Fc nC Try.prog drf4_ops Q 21 31 (drfD_val gF oF n cF i jp P PQ pB B cB 21) x w := by
  obtain ⟨hF, hi, hn, f0, hp, hr, f1, h2, hB, hdef, u0, u3⟩ := H
  have ho : drf4_ops[21]? = some drf4_o21 := rfl
  simp only [Array.getD_eq_getD_getElem?] at u0 u3
  have q19 : x.tmps.getD 29 undef = undef := p19
  simp only [Array.getD_eq_getD_getElem?] at q19
  have e19 : (drf4_ops[19]?.bind fun x => x.dst) = some 29 := rfl
  exact op_skipped hF ho rfl e19 q19 ⟨_, rfl, rfl, Below.refl _ _⟩
theorem drfD_s22 (H : drfD_H Fc gF oF n cF i jp P PQ pB B cB df w0 x w)
    (p21 : drfD_val gF oF n cF i jp P PQ pB B cB 21 (x.tmps.getD 31 undef) w)
    (p19 : drfD_val gF oF n cF i jp P PQ pB B cB 19 (x.tmps.getD 29 undef) w)
    : Stp Fc nC Try.prog drf4_ops Q 22 32 (drfD_val gF oF n cF i jp P PQ pB B cB 22) x w := by
  obtain ⟨hF, hi, hn, f0, hp, hr, f1, h2, hB, hdef, u0, u3⟩ := H
  have ho : drf4_ops[22]? = some drf4_o22 := rfl
  simp only [Array.getD_eq_getD_getElem?] at u0 u3
  have q21 : x.tmps.getD 31 undef = undef := p21
  have q19 : x.tmps.getD 29 undef = undef := p19
  simp only [Array.getD_eq_getD_getElem?] at q21 q19
  have e19 : (drf4_ops[19]?.bind fun x => x.dst) = some 29 := rfl
  exact op_skipped hF ho rfl e19 q19 ⟨_, rfl, rfl, Below.refl _ _⟩
theorem drfD_s23 (H : drfD_H Fc gF oF n cF i jp P PQ pB B cB df w0 x w)
    (p20 : drfD_val gF oF n cF i jp P PQ pB B cB 20 (x.tmps.getD 30 undef) w)
    (p22 : drfD_val gF oF n cF i jp P PQ pB B cB 22 (x.tmps.getD 32 undef) w)
    (p19 : drfD_val gF oF n cF i jp P PQ pB B cB 19 (x.tmps.getD 29 undef) w)
    : Stp Fc nC Try.prog drf4_ops Q 23 33 (drfD_val gF oF n cF i jp P PQ pB B cB 23) x w := by
  obtain ⟨hF, hi, hn, f0, hp, hr, f1, h2, hB, hdef, u0, u3⟩ := H
  have ho : drf4_ops[23]? = some drf4_o23 := rfl
  simp only [Array.getD_eq_getD_getElem?] at u0 u3
  have q20 : x.tmps.getD 30 undef = undef := p20
  have q22 : x.tmps.getD 32 undef = undef := p22
  have q19 : x.tmps.getD 29 undef = undef := p19
  simp only [Array.getD_eq_getD_getElem?] at q20 q22 q19
  have e19 : (drf4_ops[19]?.bind fun x => x.dst) = some 29 := rfl
  exact op_skipped hF ho rfl e19 q19 ⟨_, rfl, rfl, Below.refl _ _⟩
theorem drfD_s24 (H : drfD_H Fc gF oF n cF i jp P PQ pB B cB df w0 x w)
    (p23 : drfD_val gF oF n cF i jp P PQ pB B cB 23 (x.tmps.getD 33 undef) w)
    (p19 : drfD_val gF oF n cF i jp P PQ pB B cB 19 (x.tmps.getD 29 undef) w)
    : Stp Fc nC Try.prog drf4_ops Q 24 34 (drfD_val gF oF n cF i jp P PQ pB B cB 24) x w := by
  obtain ⟨hF, hi, hn, f0, hp, hr, f1, h2, hB, hdef, u0, u3⟩ := H
  have ho : drf4_ops[24]? = some drf4_o24 := rfl
  simp only [Array.getD_eq_getD_getElem?] at u0 u3
  have q23 : x.tmps.getD 33 undef = undef := p23
  have q19 : x.tmps.getD 29 undef = undef := p19
  simp only [Array.getD_eq_getD_getElem?] at q23 q19
  have e19 : (drf4_ops[19]?.bind fun x => x.dst) = some 29 := rfl
  exact op_skipped hF ho rfl e19 q19 ⟨_, rfl, rfl, Below.refl _ _⟩
theorem drfD_s25 (H : drfD_H Fc gF oF n cF i jp P PQ pB B cB df w0 x w)
    (p24 : drfD_val gF oF n cF i jp P PQ pB B cB 24 (x.tmps.getD 34 undef) w)
    (p19 : drfD_val gF oF n cF i jp P PQ pB B cB 19 (x.tmps.getD 29 undef) w)
    : Stp Fc nC Try.prog drf4_ops Q 25 35 (drfD_val gF oF n cF i jp P PQ pB B cB 25) x w := by
  obtain ⟨hF, hi, hn, f0, hp, hr, f1, h2, hB, hdef, u0, u3⟩ := H
  have ho : drf4_ops[25]? = some drf4_o25 := rfl
  simp only [Array.getD_eq_getD_getElem?] at u0 u3
  have q24 : x.tmps.getD 34 undef = undef := p24
  have q19 : x.tmps.getD 29 undef = undef := p19
  simp only [Array.getD_eq_getD_getElem?] at q24 q19
  have e19 : (drf4_ops[19]?.bind fun x => x.dst) = some 29 := rfl
  exact op_skipped hF ho rfl e19 q19 ⟨_, rfl, rfl, Below.refl _ _⟩
theorem drfD_s26 (H : drfD_H Fc gF oF n cF i jp P PQ pB B cB df w0 x w)
    (p19 : drfD_val gF oF n cF i jp P PQ pB B cB 19 (x.tmps.getD 29 undef) w)
    : Stp Fc nC Try.prog drf4_ops Q 26 36 (drfD_val gF oF n cF i jp P PQ pB B cB 26) x w := by
  obtain ⟨hF, hi, hn, f0, hp, hr, f1, h2, hB, hdef, u0, u3⟩ := H
  have ho : drf4_ops[26]? = some drf4_o26 := rfl
  simp only [Array.getD_eq_getD_getElem?] at u0 u3
  have q19 : x.tmps.getD 29 undef = undef := p19
  simp only [Array.getD_eq_getD_getElem?] at q19
  have e19 : (drf4_ops[19]?.bind fun x => x.dst) = some 29 := rfl
  exact op_skipped hF ho rfl e19 q19 ⟨_, rfl, rfl, Below.refl _ _⟩
theorem drfD_s27 (H : drfD_H Fc gF oF n cF i jp P PQ pB B cB df w0 x w)
    (p19 : drfD_val gF oF n cF i jp P PQ pB B cB 19 (x.tmps.getD 29 undef) w)
    : Stp Fc nC Try.prog drf4_ops Q 27 37 (drfD_val gF oF n cF i jp P PQ pB B cB 27) x w := by
  obtain ⟨hF, hi, hn, f0, hp, hr, f1, h2, hB, hdef, u0, u3⟩ := H
  have ho : drf4_ops[27]? = some drf4_o27 := rfl
  simp only [Array.getD_eq_getD_getElem?] at u0 u3
  have q19 : x.tmps.getD 29 undef = undef := p19
  simp only [Array.getD_eq_getD_getElem?] at q19
  have e19 : (drf4_ops[19]?.bind fun x => x.dst) = some 29 := rfl
  exact op_skipped hF ho rfl e19 q19 ⟨_, rfl, rfl, Below.refl _ _⟩
theorem drfD_s28 (H : drfD_H Fc gF oF n cF i jp P PQ pB B cB df w0 x w)
    (p26 : drfD_val gF oF n cF i jp P PQ pB B cB 26 (x.tmps.getD 36 undef) w)
    (p27 : drfD_val gF oF n cF i jp P PQ pB B cB 27 (x.tmps.getD 37 undef) w)
    (p19 : drfD_val gF oF n cF i jp P PQ pB B cB 19 (x.tmps.getD 29 undef) w)
    : Stp Fc nC Try.prog drf4_ops Q 28 38 (drfD_val gF oF n cF i jp P PQ pB B cB 28) x w := by
  obtain ⟨hF, hi, hn, f0, hp, hr, f1, h2, hB, hdef, u0, u3⟩ := H
  have ho : drf4_ops[28]? = some drf4_o28 := rfl
  simp only [Array.getD_eq_getD_getElem?] at u0 u3
  have q26 : x.tmps.getD 36 undef = undef := p26
  have q27 : x.tmps.getD 37 undef = undef := p27
  have q19 : x.tmps.getD 29 undef = undef := p19
  simp only [Array.getD_eq_getD_getElem?] at q26 q27 q19
  have e19 : (drf4_ops[19]?.bind fun x => x.dst) = some 29 := rfl
  exact op_skipped hF ho rfl e19 q19 ⟨_, rfl, rfl, Below.refl _ _⟩
theorem drfD_s29 (H : drfD_H Fc gF oF n cF i jp P PQ pB B cB df w0 x w)
    (p28 : drfD_val gF oF n cF i jp P PQ pB B cB 28 (x.tmps.getD 38 undef) w)
    (p19 : drfD_val gF oF n cF i jp P PQ pB B cB 19 (x.tmps.getD 29 undef) w)
    : Stp Fc nC Try.prog drf4_ops Q 29 39 (drfD_val gF oF n cF i jp P PQ pB B cB 29) x w := by
  obtain ⟨hF, hi, hn, f0, hp, hr, f1, h2, hB, hdef, u0, u3⟩ := H
  have ho : drf4_ops[29]? = some drf4_o29 := rfl
  simp only [Array.getD_eq_getD_getElem?] at u0 u3
  have q28 : x.tmps.getD 38 undef = undef := p28
  have q19 : x.tmps.getD 29 undef = undef := p19
  simp only [Array.getD_eq_getD_getElem?] at q28 q19
  have e19 : (drf4_ops[19]?.bind fun x => x.dst) = some 29 := rfl
  exact op_skipped hF ho rfl e19 q19 ⟨_, rfl, rfl, Below.refl _ _⟩
theorem drfD_s30 (H : drfD_H Fc gF oF n cF i jp P PQ pB B cB df w0 x w)
    (p29 : drfD_val gF oF n cF i jp P PQ pB B cB 29 (x.tmps.getD 39 undef) w)
    (p19 : drfD_val gF oF n cF i jp P PQ pB B cB 19 (x.tmps.getD 29 undef) w)
    : Stp Fc nC Try.prog drf4_ops Q 30 40 (drfD_val gF oF n cF i jp P PQ pB B cB 30) x w := by
  obtain ⟨hF, hi, hn, f0, hp, hr, f1, h2, hB, hdef, u0, u3⟩ := H
  have ho : drf4_ops[30]? = some drf4_o30 := rfl
  simp only [Array.getD_eq_getD_getElem?] at u0 u3
  have q29 : x.tmps.getD 39 undef = undef := p29
  have q19 : x.tmps.getD 29 undef = undef := p19
  simp only [Array.getD_eq_getD_getElem?] at q29 q19
  have e19 : (drf4_ops[19]?.bind fun x => x.dst) = some 29 := rfl
  exact op_skipped hF ho rfl e19 q19 ⟨_, rfl, rfl, Below.refl _ _⟩
theorem drfD_s31 (H : drfD_H Fc gF oF n cF i jp P PQ pB B cB df w0 x w)
    (p25 : drfD_val gF oF n cF i jp P PQ pB B cB 25 (x.tmps.getD 35 undef) w)
    (p30 : drfD_val gF oF n cF i jp P PQ pB B cB 30 (x.tmps.getD 40 undef) w)
    (p19 : drfD_val gF oF n cF i jp P PQ pB B cB 19 (x.tmps.getD 29 undef) w)
    : Stp Fc nC Try.prog drf4_ops Q 31 41 (drfD_val gF oF n cF i jp P PQ pB B cB 31) x w := by
  obtain ⟨hF, hi, hn, f0, hp, hr, f1, h2, hB, hdef, u0, u3⟩ := H
  have ho : drf4_ops[31]? = some drf4_o31 := rfl
  simp only [Array.getD_eq_getD_getElem?] at u0 u3
  have q25 : x.tmps.getD 35 undef = undef := p25
  have q30 : x.tmps.getD 40 undef = undef := p30
  have q19 : x.tmps.getD 29 undef = undef := p19
  simp only [Array.getD_eq_getD_getElem?] at q25 q30 q19
  have e19 : (drf4_ops[19]?.bind fun x => x.dst) = some 29 := rfl
  exact op_skipped hF ho rfl e19 q19 ⟨_, rfl, rfl, Below.refl _ _⟩
theorem drfD_s32 (H : drfD_H Fc gF oF n cF i jp P PQ pB B cB df w0 x w)
    (p19 : drfD_val gF oF n cF i jp P PQ pB B cB 19 (x.tmps.getD 29 undef) w)
    (p31 : drfD_val gF oF n cF i jp P PQ pB B cB 31 (x.tmps.getD 41 undef) w)
    (p16 : drfD_val gF oF n cF i jp P PQ pB B cB 16 (x.tmps.getD 26 undef) w)
    : Stp Fc nC Try.prog drf4_ops Q 32 42 (drfD_val gF oF n cF i jp P PQ pB B cB 32) x w := by
  obtain ⟨hF, hi, hn, f0, hp, hr, f1, h2, hB, hdef, u0, u3⟩ := H
  have ho : drf4_ops[32]? = some drf4_o32 := rfl
  simp only [Array.getD_eq_getD_getElem?] at u0 u3
  have q19 : x.tmps.getD 29 undef = undef := p19
  have q31 : x.tmps.getD 41 undef = undef := p31
  have q16 : x.tmps.getD 26 undef = .bool true := p16
  simp only [Array.getD_eq_getD_getElem?] at q19 q31 q16
  have e16 : (drf4_ops[16]?.bind fun x => x.dst) = some 26 := rfl
  have g16 := get_someT q16 (fun h => by cases h)
  refine wpOpIn_stepT hF ho (fun K hK => ?_)
  clear ho
  rw [Oper.semAt_plain Fc _ _ (by intro c h; cases h)]
  simp only [drf4_o32]
  go_simp
  exact hK _ _ ⟨_, act_putD x hdef _ _, rfl, Below.refl _ _⟩
theorem drfD_s33 (H : drfD_H Fc gF oF n cF i jp P PQ pB B cB df w0 x w)
    (p16 : drfD_val gF oF n cF i jp P PQ pB B cB 16 (x.tmps.getD 26 undef) w)
    (p32 : drfD_val gF oF n cF i jp P PQ pB B cB 32 (x.tmps.getD 42 undef) w)
    : Stp Fc nC Try.prog drf4_ops Q 33 43 (drfD_val gF oF n cF i jp P PQ pB B cB 33) x w := by
  obtain ⟨hF, hi, hn, f0, hp, hr, f1, h2, hB, hdef, u0, u3⟩ := H
  have ho : drf4_ops[33]? = some drf4_o33 := rfl
  simp only [Array.getD_eq_getD_getElem?] at u0 u3
  have q16 : x.tmps.getD 26 undef = .bool true := p16
  have q32 : x.tmps.getD 42 undef = undef := p32
  simp only [Array.getD_eq_getD_getElem?] at q16 q32
  refine wpOpIn_plain ho rfl (oper_inK hF.fn (fun K hK => ?_))
  clear ho
  rw [Oper.semAt_plain Fc _ _ (by intro c h; cases h)]
  simp only [drf4_o33]
  go_simp
  exact hK _ _ ⟨_, act_putD x hdef _ _, rfl, Below.refl _ _⟩
end

set_option maxRecDepth 100000 in
set_option maxHeartbeats 4000000 in
theorem drfD {Fc : Fence} (hF : Wide Fc) {nC : Nat} (gF oF n cF i jp : Nat) (P PQ : List UInt8) (pB : Option Addr) (B : List Nat) (cB : Nat) (Q : Exit → Act → World → Prop) (t0 : Array Value) (df : List Deferred) (w0 : World) (ht : t0.size = 47)
    (hs0 : t0.getD 0 undef = .slice (some ⟨gF, oF, none⟩) n cF) (hs3 : t0.getD 3 undef = .int .i64 (i : Nat))
    (hi : i < n) (hn : n ≤ 140737488351232) (f0 : w0.cell? ⟨gF, oF + i * 2, none⟩ = some (by8 P)) (hp : P.length ≤ 1000000) (hr : rightP P = true) (f1 : w0.cell? ⟨gF, oF + i * 2 + 1, none⟩ = some (.slice pB (B.length) cB)) (h2 : decide ((1048576 : Int) < (B.length : Nat)) = true)
    (hQ : ∀ (vs : Nat → Value) (w : World), Below w0.heap.size w0 w → (vs 43 = .bool true) → Q .normal { tmps := [10, 11, 12, 13, 14, 15, 16, 17, 18, 19, 20, 21, 22, 23, 24, 25, 26, 27, 28, 29, 30, 31, 32, 33, 34, 35, 36, 37, 38, 39, 40, 41, 42, 43].foldl (fun y d => y.setIfInBounds d (vs d)) t0, defers := df } w) :
    (Code.region 4 drf4_ops true).wpIn Fc nC Try.prog Q { tmps := t0, defers := df } w0 := by
  refine wpIn_region_tail 34 (by decide) (by kernel_rfl) (fun a b => Below a.heap.size a b) (drfD_val gF oF n cF i jp P PQ pB B cB) t0 df w0 (by rw [ht]; kernel_rfl) (by kernel_rfl) (by kernel_rfl) (by kernel_rfl) ((Below.refl _ _).drew) (fun _ _ _ h k => h.trans (k.mono h.size)) (drfD_below gF oF n cF i jp P PQ pB B cB) ?_ ?_
  · intro j o ho hj x w hB hdef hsz hs hdeps
    have hs' : ∀ s, ¬ drf4_mem s → x.tmps.getD s undef = t0.getD s undef := fun s hn => hs s (fun j hj e => hn (by rw [e]; exact drf4_slots j hj))
    have u0 := (hs' 0 (by decide)).trans hs0
    have u3 := (hs' 3 (by decide)).trans hs3
    have H : drfD_H Fc gF oF n cF i jp P PQ pB B cB df w0 x w := ⟨hF, hi, hn, f0, hp, hr, f1, h2, hB, hdef, u0, u3⟩
    match j, ho, hj with
    | 0, ho, _ =>
      have e : o = drf4_o0 := (Option.some.inj ho).symm
      subst e
      exact drfD_s0 gF oF n cF i jp P PQ pB B cB Q df w0 x w H 
    | 1, ho, _ =>
      have e : o = drf4_o1 := (Option.some.inj ho).symm
      subst e
      exact drfD_s1 gF oF n cF i jp P PQ pB B cB Q df w0 x w H 
    | 2, ho, _ =>
      have e : o = drf4_o2 := (Option.some.inj ho).symm
      subst e
      exact drfD_s2 gF oF n cF i jp P PQ pB B cB Q df w0 x w H (hdeps { on := 0, ground := Ground.data } (by simp) rfl) (hdeps { on := 1, ground := Ground.data } (by simp) rfl)
    | 3, ho, _ =>
      have e : o = drf4_o3 := (Option.some.inj ho).symm
      subst e
      exact drfD_s3 gF oF n cF i jp P PQ pB B cB Q df w0 x w H (hdeps { on := 2, ground := Ground.data } (by simp) rfl)
    | 4, ho, _ =>
      have e : o = drf4_o4 := (Option.some.inj ho).symm
      subst e
      exact drfD_s4 gF oF n cF i jp P PQ pB B cB Q df w0 x w H (hdeps { on := 3, ground := Ground.data } (by simp) rfl)
    | 5, ho, _ =>
      have e : o = drf4_o5 := (Option.some.inj ho).symm
      subst e
      exact drfD_s5 gF oF n cF i jp P PQ pB B cB Q df w0 x w H (hdeps { on := 4, ground := Ground.data } (by simp) rfl)
    | 6, ho, _ =>
      have e : o = drf4_o6 := (Option.some.inj ho).symm
      subst e
      exact drfD_s6 gF oF n cF i jp P PQ pB B cB Q df w0 x w H (hdeps { on := 5, ground := Ground.data } (by simp) rfl)
    | 7, ho, _ =>
      have e : o = drf4_o7 := (Option.some.inj ho).symm
      subst e
      exact drfD_s7 gF oF n cF i jp P PQ pB B cB Q df w0 x w H (hdeps { on := 6, ground := Ground.data } (by simp) rfl)
    | 8, ho, _ =>
      have e : o = drf4_o8 := (Option.some.inj ho).symm
      subst e
      exact drfD_s8 gF oF n cF i jp P PQ pB B cB Q df w0 x w H (hdeps { on := 7, ground := Ground.guard } (by simp) rfl)
    | 9, ho, _ =>
      have e : o = drf4_o9 := (Option.some.inj ho).symm
      subst e
      exact drfD_s9 gF oF n cF i jp P PQ pB B cB Q df w0 x w H (hdeps { on := 7, ground := Ground.guard } (by simp) rfl)
    | 10, ho, _ =>
      have e : o = drf4_o10 := (Option.some.inj ho).symm
      subst e
      exact drfD_s10 gF oF n cF i jp P PQ pB B cB Q df w0 x w H (hdeps { on := 8, ground := Ground.data } (by simp) rfl) (hdeps { on := 9, ground := Ground.data } (by simp) rfl) (hdeps { on := 7, ground := Ground.guard } (by simp) rfl)
    | 11, ho, _ =>
      have e : o = drf4_o11 := (Option.some.inj ho).symm
      subst e
      exact drfD_s11 gF oF n cF i jp P PQ pB B cB Q df w0 x w H (hdeps { on := 10, ground := Ground.data } (by simp) rfl) (hdeps { on := 7, ground := Ground.guard } (by simp) rfl)
    | 12, ho, _ =>
      have e : o = drf4_o12 := (Option.some.inj ho).symm
      subst e
      exact drfD_s12 gF oF n cF i jp P PQ pB B cB Q df w0 x w H (hdeps { on := 11, ground := Ground.data } (by simp) rfl) (hdeps { on := 7, ground := Ground.guard } (by simp) rfl)
    | 13, ho, _ =>
      have e : o = drf4_o13 := (Option.some.inj ho).symm
      subst e
      exact drfD_s13 gF oF n cF i jp P PQ pB B cB Q df w0 x w H (hdeps { on := 12, ground := Ground.data } (by simp) rfl) (hdeps { on := 7, ground := Ground.guard } (by simp) rfl)
    | 14, ho, _ =>
      have e : o = drf4_o14 := (Option.some.inj ho).symm
      subst e
      exact drfD_s14 gF oF n cF i jp P PQ pB B cB Q df w0 x w H (hdeps { on := 13, ground := Ground.data } (by simp) rfl) (hdeps { on := 7, ground := Ground.guard } (by simp) rfl)
    | 15, ho, _ =>
      have e : o = drf4_o15 := (Option.some.inj ho).symm
      subst e
      exact drfD_s15 gF oF n cF i jp P PQ pB B cB Q df w0 x w H (hdeps { on := 7, ground := Ground.data } (by simp) rfl) (hdeps { on := 14, ground := Ground.data } (by simp) rfl)
    | 16, ho, _ =>
      have e : o = drf4_o16 := (Option.some.inj ho).symm
      subst e
      exact drfD_s16 gF oF n cF i jp P PQ pB B cB Q df w0 x w H (hdeps { on := 15, ground := Ground.data } (by simp) rfl)
    | 17, ho, _ =>
      have e : o = drf4_o17 := (Option.some.inj ho).symm
      subst e
      exact drfD_s17 gF oF n cF i jp P PQ pB B cB Q df w0 x w H (hdeps { on := 16, ground := Ground.guard } (by simp) rfl)
    | 18, ho, _ =>
      have e : o = drf4_o18 := (Option.some.inj ho).symm
      subst e
      exact drfD_s18 gF oF n cF i jp P PQ pB B cB Q df w0 x w H (hdeps { on := 17, ground := Ground.data } (by simp) rfl) (hdeps { on := 16, ground := Ground.guard } (by simp) rfl)
    | 19, ho, _ =>
      have e : o = drf4_o19 := (Option.some.inj ho).symm
      subst e
      exact drfD_s19 gF oF n cF i jp P PQ pB B cB Q df w0 x w H (hdeps { on := 18, ground := Ground.data } (by simp) rfl) (hdeps { on := 16, ground := Ground.guard } (by simp) rfl)
    | 20, ho, _ =>
      have e : o = drf4_o20 := (Option.some.inj ho).symm
      subst e
      exact drfD_s20 gF oF n cF i jp P PQ pB B cB Q df w0 x w H (hdeps { on := 19, ground := Ground.guard } (by simp) rfl)
    | 21, ho, _ =>
      have e : o = drf4_o21 := (Option.some.inj ho).symm
      subst e
      exact drfD_s21 gF oF n cF i jp P PQ pB B cB Q df w0 x w H (hdeps { on := 19, ground := Ground.guard } (by simp) rfl)
    | 22, ho, _ =>
      have e : o = drf4_o22 := (Option.some.inj ho).symm
      subst e
      exact drfD_s22 gF oF n cF i jp P PQ pB B cB Q df w0 x w H (hdeps { on := 21, ground := Ground.data } (by simp) rfl) (hdeps { on := 19, ground := Ground.guard } (by simp) rfl)
    | 23, ho, _ =>
      have e : o = drf4_o23 := (Option.some.inj ho).symm
      subst e
      exact drfD_s23 gF oF n cF i jp P PQ pB B cB Q df w0 x w H (hdeps { on := 20, ground := Ground.data } (by simp) rfl) (hdeps { on := 22, ground := Ground.data } (by simp) rfl) (hdeps { on := 19, ground := Ground.guard } (by simp) rfl)
    | 24, ho, _ =>
      have e : o = drf4_o24 := (Option.some.inj ho).symm
      subst e
      exact drfD_s24 gF oF n cF i jp P PQ pB B cB Q df w0 x w H (hdeps { on := 23, ground := Ground.data } (by simp) rfl) (hdeps { on := 19, ground := Ground.guard } (by simp) rfl)
    | 25, ho, _ =>
      have e : o = drf4_o25 := (Option.some.inj ho).symm
      subst e
      exact drfD_s25 gF oF n cF i jp P PQ pB B cB Q df w0 x w H (hdeps { on := 24, ground := Ground.data } (by simp) rfl) (hdeps { on := 19, ground := Ground.guard } (by simp) rfl)
    | 26, ho, _ =>
      have e : o = drf4_o26 := (Option.some.inj ho).symm
      subst e
      exact drfD_s26 gF oF n cF i jp P PQ pB B cB Q df w0 x w H (hdeps { on := 19, ground := Ground.guard } (by simp) rfl)
    | 27, ho, _ =>
      have e : o = drf4_o27 := (Option.some.inj ho).symm
      subst e
      exact drfD_s27 gF oF n cF i jp P PQ pB B cB Q df w0 x w H (hdeps { on := 19, ground := Ground.guard } (by simp) rfl)
    | 28, ho, _ =>
      have e : o = drf4_o28 := (Option.some.inj ho).symm
      subst e
      exact drfD_s28 gF oF n cF i jp P PQ pB B cB Q df w0 x w H (hdeps { on := 26, ground := Ground.data } (by simp) rfl) (hdeps { on := 27, ground := Ground.data } (by simp) rfl) (hdeps { on := 19, ground := Ground.guard } (by simp) rfl)
    | 29, ho, _ =>
      have e : o = drf4_o29 := (Option.some.inj ho).symm
      subst e
      exact drfD_s29 gF oF n cF i jp P PQ pB B cB Q df w0 x w H (hdeps { on := 28, ground := Ground.data } (by simp) rfl) (hdeps { on := 19, ground := Ground.guard } (by simp) rfl)
    | 30, ho, _ =>
      have e : o = drf4_o30 := (Option.some.inj ho).symm
      subst e
      exact drfD_s30 gF oF n cF i jp P PQ pB B cB Q df w0 x w H (hdeps { on := 29, ground := Ground.data } (by simp) rfl) (hdeps { on := 19, ground := Ground.guard } (by simp) rfl)
    | 31, ho, _ =>
      have e : o = drf4_o31 := (Option.some.inj ho).symm
      subst e
      exact drfD_s31 gF oF n cF i jp P PQ pB B cB Q df w0 x w H (hdeps { on := 25, ground := Ground.data } (by simp) rfl) (hdeps { on := 30, ground := Ground.data } (by simp) rfl) (hdeps { on := 19, ground := Ground.guard } (by simp) rfl)
    | 32, ho, _ =>
      have e : o = drf4_o32 := (Option.some.inj ho).symm
      subst e
      exact drfD_s32 gF oF n cF i jp P PQ pB B cB Q df w0 x w H (hdeps { on := 19, ground := Ground.data } (by simp) rfl) (hdeps { on := 31, ground := Ground.data } (by simp) rfl) (hdeps { on := 16, ground := Ground.guard } (by simp) rfl)
    | 33, ho, _ =>
      have e : o = drf4_o33 := (Option.some.inj ho).symm
      subst e
      exact drfD_s33 gF oF n cF i jp P PQ pB B cB Q df w0 x w H (hdeps { on := 16, ground := Ground.data } (by simp) rfl) (hdeps { on := 32, ground := Ground.data } (by simp) rfl)
    | k + 34, _, hj => omega
  · intro x w hB hdef hsz hs hv
    have hx := frame_sets x.tmps t0 hsz [10, 11, 12, 13, 14, 15, 16, 17, 18, 19, 20, 21, 22, 23, 24, 25, 26, 27, 28, 29, 30, 31, 32, 33, 34, 35, 36, 37, 38, 39, 40, 41, 42, 43] (fun s hn => hs s (fun j hj e => hn (by rw [e]; exact drf4_slots j hj)))
    have hq := hQ (fun d => x.tmps.getD d undef) w hB (hv 33 (by decide))
    obtain ⟨T, Df⟩ := x
    dsimp only at hx hdef hq
    subst hdef
    rw [← hx] at hq
    exact hq
def drfE_val (gF oF n cF i jp : Nat) (P PQ : List UInt8) (pB : Option Addr) (B : List Nat) (cB : Nat) : Nat → Value → World → Prop
  | 0, v, w => v = .slice (some ⟨gF, oF, none⟩) n cF
  | 1, v, w => v = .int .i64 (i : Nat)
  | 2, v, w => v = .pointer (some ⟨gF, oF + i * 2, none⟩)
  | 3, v, w => v = .pointer (some ⟨gF, oF + i * 2, none⟩)
  | 4, v, w => v = by8 P
  | 5, v, w => v = .bool true
  | 6, v, w => v = .bool false
  | 7, v, w => v = .bool false
  | 8, v, w => v = .slice (some ⟨gF, oF, none⟩) n cF
  | 9, v, w => v = .int .i64 (i : Nat)
  | 10, v, w => v = .pointer (some ⟨gF, oF + i * 2, none⟩)
  | 11, v, w => v = .pointer (some ⟨gF, oF + i * 2 + 1, none⟩)
  | 12, v, w => v = .slice pB (B.length) cB
  | 13, v, w => v = .int .i64 ((B.length) : Nat)
  | 14, v, w => v = .bool false
  | 15, v, w => v = .bool false
  | 16, v, w => v = .bool false
  | 17, v, w => v = .int .i64 (i : Nat)
  | 18, v, w => v = .bool true
  | 19, v, w => v = .bool true
  | 20, v, w => v = .slice (some ⟨gF, oF, none⟩) n cF
  | 21, v, w => v = .int .i64 (i : Nat)
  | 22, v, w => v = .int .i64 (jp : Nat)
  | 23, v, w => v = .pointer (some ⟨gF, oF + jp * 2, none⟩)
  | 24, v, w => v = .pointer (some ⟨gF, oF + jp * 2, none⟩)
  | 25, v, w => v = by8 PQ
  | 26, v, w => v = .slice (some ⟨gF, oF, none⟩) n cF
  | 27, v, w => v = .int .i64 (i : Nat)
  | 28, v, w => v = .pointer (some ⟨gF, oF + i * 2, none⟩)
  | 29, v, w => v = .pointer (some ⟨gF, oF + i * 2, none⟩)
  | 30, v, w => v = by8 P
  | 31, v, w => v = .bool true
  | 32, v, w => v = .bool true
  | 33, v, w => v = .bool true
  | _, _, _ => True
theorem drfE_below (gF oF n cF i jp : Nat) (P PQ : List UInt8) (pB : Option Addr) (B : List Nat) (cB : Nat) (w w' : World) (hb : Below w.heap.size w w') : ∀ j v, drfE_val gF oF n cF i jp P PQ pB B cB j v w → drfE_val gF oF n cF i jp P PQ pB B cB j v w' := by
  intro j v h
  match j, h with
  | 0, h => exact h
  | 1, h => exact h
  | 2, h => exact h
  | 3, h => exact h
  | 4, h => exact h
  | 5, h => exact h
  | 6, h => exact h
  | 7, h => exact h
  | 8, h => exact h
  | 9, h => exact h
  | 10, h => exact h
  | 11, h => exact h
  | 12, h => exact h
  | 13, h => exact h
  | 14, h => exact h
  | 15, h => exact h
  | 16, h => exact h
  | 17, h => exact h
  | 18, h => exact h
  | 19, h => exact h
  | 20, h => exact h
  | 21, h => exact h
  | 22, h => exact h
  | 23, h => exact h
  | 24, h => exact h
  | 25, h => exact h
  | 26, h => exact h
  | 27, h => exact h
  | 28, h => exact h
  | 29, h => exact h
  | 30, h => exact h
  | 31, h => exact h
  | 32, h => exact h
  | 33, h => exact h
  | _ + 34, h => exact h
def drfE_H (Fc : Fence) (gF oF n cF i jp : Nat) (P PQ : List UInt8) (pB : Option Addr) (B : List Nat) (cB : Nat) (df : List Deferred) (w0 : World) (x : Act) (w : World) : Prop :=
  (Wide Fc) ∧ (i < n) ∧ (n ≤ 140737488351232) ∧ (w0.cell? ⟨gF, oF + i * 2, none⟩ = some (by8 P)) ∧ (P.length ≤ 1000000) ∧ (rightP P = true) ∧ (w0.cell? ⟨gF, oF + i * 2 + 1, none⟩ = some (.slice pB (B.length) cB)) ∧ (decide ((1048576 : Int) < (B.length : Nat)) = false) ∧ (decide (0 < i) = true) ∧ (Hid (i = jp + 1)) ∧ (w0.cell? ⟨gF, oF + jp * 2, none⟩ = some (by8 PQ)) ∧ ((!Op.bytesLess PQ P) = true) ∧ (Below w0.heap.size w0 w) ∧ (x.defers = df) ∧ (x.tmps.getD 0 undef = .slice (some ⟨gF, oF, none⟩) n cF) ∧ (x.tmps.getD 3 undef = .int .i64 (i : Nat))
section
set_option maxRecDepth 100000
set_option maxHeartbeats 2000000
variable {Fc : Fence} {nC : Nat} (gF oF n cF i jp : Nat) (P PQ : List UInt8) (pB : Option Addr) (B : List Nat) (cB : Nat) (Q : Exit → Act → World → Prop) (df : List Deferred) (w0 : World) (x : Act) (w : World)
theorem drfE_s0 (H : drfE_H Fc gF oF n cF i jp P PQ pB B cB df w0 x w)
    : Stp Fc nC Try.prog drf4_ops Q 0 10 (drfE_val gF oF n cF i jp P PQ pB B cB 0) x w := by
  obtain ⟨hF, hi, hn, f0, hp, hr, f1, h2, h3, hjp, hqp, h4, hB, hdef, u0, u3⟩ := H
  have ho : drf4_ops[0]? = some drf4_o0 := rfl
  simp only [Array.getD_eq_getD_getElem?] at u0 u3
  refine wpOpIn_plain ho rfl (oper_inK hF.fn (fun K hK => ?_))
  clear ho
  rw [Oper.semAt_plain Fc _ _ (by intro c h; cases h)]
  simp only [drf4_o0]
  go_simp
  exact hK _ _ ⟨_, act_putD x hdef _ _, rfl, Below.refl _ _⟩
theorem drfE_s1 (H : drfE_H Fc gF oF n cF i jp P PQ pB B cB df w0 x w)
    : Stp Fc nC Try.prog drf4_ops Q 1 11 (drfE_val gF oF n cF i jp P PQ pB B cB 1) x w := by
  obtain ⟨hF, hi, hn, f0, hp, hr, f1, h2, h3, hjp, hqp, h4, hB, hdef, u0, u3⟩ := H
  have ho : drf4_ops[1]? = some drf4_o1 := rfl
  simp only [Array.getD_eq_getD_getElem?] at u0 u3
  refine wpOpIn_plain ho rfl (oper_inK hF.fn (fun K hK => ?_))
  clear ho
  rw [Oper.semAt_plain Fc _ _ (by intro c h; cases h)]
  simp only [drf4_o1]
  go_simp
  exact hK _ _ ⟨_, act_putD x hdef _ _, rfl, Below.refl _ _⟩
theorem drfE_s2 (H : drfE_H Fc gF oF n cF i jp P PQ pB B cB df w0 x w)
    (p0 : drfE_val gF oF n cF i jp P PQ pB B cB 0 (x.tmps.getD 10 undef) w)
    (p1 : drfE_val gF oF n cF i jp P PQ pB B cB 1 (x.tmps.getD 11 undef) w)
    : Stp Fc nC Try.prog drf4_ops Q 2 12 (drfE_val gF oF n cF i jp P PQ pB B cB 2) x w := by
  obtain ⟨hF, hi, hn, f0, hp, hr, f1, h2, h3, hjp, hqp, h4, hB, hdef, u0, u3⟩ := H
  have ho : drf4_ops[2]? = some drf4_o2 := rfl
  simp only [Array.getD_eq_getD_getElem?] at u0 u3
  have q0 : x.tmps.getD 10 undef = .slice (some ⟨gF, oF, none⟩) n cF := p0
  have q1 : x.tmps.getD 11 undef = .int .i64 (i : Nat) := p1
  simp only [Array.getD_eq_getD_getElem?] at q0 q1
  have i0 : (0 : Int) ≤ (i : Int) := by omega
  have i1 : (i : Int) < (n : Int) := by omega
  refine wpOpIn_plain ho rfl (oper_inK hF.fn (fun K hK => ?_))
  clear ho
  rw [Oper.semAt_plain Fc _ _ (by intro c h; cases h)]
  simp only [drf4_o2]
  go_simp
  exact hK _ _ ⟨_, act_putD x hdef _ _, rfl, Below.refl _ _⟩
theorem drfE_s3 (H : drfE_H Fc gF oF n cF i jp P PQ pB B cB df w0 x w)
    (p2 : drfE_val gF oF n cF i jp P PQ pB B cB 2 (x.tmps.getD 12 undef) w)
    : Stp Fc nC Try.prog drf4_ops Q 3 13 (drfE_val gF oF n cF i jp P PQ pB B cB 3) x w := by
  obtain ⟨hF, hi, hn, f0, hp, hr, f1, h2, h3, hjp, hqp, h4, hB, hdef, u0, u3⟩ := H
  have ho : drf4_ops[3]? = some drf4_o3 := rfl
  simp only [Array.getD_eq_getD_getElem?] at u0 u3
  have q2 : x.tmps.getD 12 undef = .pointer (some ⟨gF, oF + i * 2, none⟩) := p2
  simp only [Array.getD_eq_getD_getElem?] at q2
  refine wpOpIn_plain ho rfl (oper_inK hF.fn (fun K hK => ?_))
  clear ho
  rw [Oper.semAt_plain Fc _ _ (by intro c h; cases h)]
  simp only [drf4_o3]
  go_simp
  exact hK _ _ ⟨_, act_putD x hdef _ _, rfl, Below.refl _ _⟩
theorem drfE_s4 (H : drfE_H Fc gF oF n cF i jp P PQ pB B cB df w0 x w)
    (p3 : drfE_val gF oF n cF i jp P PQ pB B cB 3 (x.tmps.getD 13 undef) w)
    : Stp Fc nC Try.prog drf4_ops Q 4 14 (drfE_val gF oF n cF i jp P PQ pB B cB 4) x w := by
  obtain ⟨hF, hi, hn, f0, hp, hr, f1, h2, h3, hjp, hqp, h4, hB, hdef, u0, u3⟩ := H
  have ho : drf4_ops[4]? = some drf4_o4 := rfl
  simp only [Array.getD_eq_getD_getElem?] at u0 u3
  have q3 : x.tmps.getD 13 undef = .pointer (some ⟨gF, oF + i * 2, none⟩) := p3
  simp only [Array.getD_eq_getD_getElem?] at q3
  have m := cell_thru f0 hB
  refine wpOpIn_plain ho rfl (oper_inK hF.fn (fun K hK => ?_))
  clear ho
  rw [Oper.semAt_plain Fc _ _ (by intro c h; cases h)]
  simp only [drf4_o4]
  go_simp
  exact hK _ _ ⟨_, act_putD x hdef _ _, rfl, Below.refl _ _⟩
theorem drfE_s5 (H : drfE_H Fc gF oF n cF i jp P PQ pB B cB df w0 x w)
    (p4 : drfE_val gF oF n cF i jp P PQ pB B cB 4 (x.tmps.getD 14 undef) w)
    : Stp Fc nC Try.prog drf4_ops Q 5 15 (drfE_val gF oF n cF i jp P PQ pB B cB 5) x w := by
  obtain ⟨hF, hi, hn, f0, hp, hr, f1, h2, h3, hjp, hqp, h4, hB, hdef, u0, u3⟩ := H
  have ho : drf4_ops[5]? = some drf4_o5 := rfl
  simp only [Array.getD_eq_getD_getElem?] at u0 u3
  have q4 : x.tmps.getD 14 undef = by8 P := p4
  simp only [Array.getD_eq_getD_getElem?] at q4
  refine wpOpIn_plain ho rfl (oper_inK hF.fn (fun K hK => ?_))
  clear ho
  rw [Oper.semAt_plain Fc _ _ (by intro c h; cases h)]
  simp only [drf4_o5]
  go_simp
  refine ⟨hF.deep, (hF.call (refRight_any P w hp)).mono ?_⟩
  rintro e w' ⟨rfl, hb⟩
  exact hK _ _ ⟨_, act_putD x hdef _ _, by rw [hr]; exact rfl, hb⟩
theorem drfE_s6 (H : drfE_H Fc gF oF n cF i jp P PQ pB B cB df w0 x w)
    (p5 : drfE_val gF oF n cF i jp P PQ pB B cB 5 (x.tmps.getD 15 undef) w)
    : Stp Fc nC Try.prog drf4_ops Q 6 16 (drfE_val gF oF n cF i jp P PQ pB B cB 6) x w := by
  obtain ⟨hF, hi, hn, f0, hp, hr, f1, h2, h3, hjp, hqp, h4, hB, hdef, u0, u3⟩ := H
  have ho : drf4_ops[6]? = some drf4_o6 := rfl
  simp only [Array.getD_eq_getD_getElem?] at u0 u3
  have q5 : x.tmps.getD 15 undef = .bool true := p5
  simp only [Array.getD_eq_getD_getElem?] at q5
  refine wpOpIn_plain ho rfl (oper_inK hF.fn (fun K hK => ?_))
  clear ho
  rw [Oper.semAt_plain Fc _ _ (by intro c h; cases h)]
  simp only [drf4_o6]
  go_simp
  exact hK _ _ ⟨_, act_putD x hdef _ _, rfl, Below.refl _ _⟩
theorem drfE_s7 (H : drfE_H Fc gF oF n cF i jp P PQ pB B cB df w0 x w)
    (p6 : drfE_val gF oF n cF i jp P PQ pB B cB 6 (x.tmps.getD 16 undef) w)
    : Stp Fc nC Try.prog drf4_ops Q 7 17 (drfE_val gF oF n cF i jp P PQ pB B cB 7) x w := by
  obtain ⟨hF, hi, hn, f0, hp, hr, f1, h2, h3, hjp, hqp, h4, hB, hdef, u0, u3⟩ := H
  have ho : drf4_ops[7]? = some drf4_o7 := rfl
  simp only [Array.getD_eq_getD_getElem?] at u0 u3
  have q6 : x.tmps.getD 16 undef = .bool false := p6
  simp only [Array.getD_eq_getD_getElem?] at q6
  refine wpOpIn_plain ho rfl (oper_inK hF.fn (fun K hK => ?_))
  clear ho
  rw [Oper.semAt_plain Fc _ _ (by intro c h; cases h)]
  simp only [drf4_o7]
  go_simp
  exact hK _ _ ⟨_, act_putD x hdef _ _, rfl, Below.refl _ _⟩
theorem drfE_s8 (H : drfE_H Fc gF oF n cF i jp P PQ pB B cB df w0 x w)
    (p7 : drfE_val gF oF n cF i jp P PQ pB B cB 7 (x.tmps.getD 17 undef) w)
    : Stp Fc nC Try.prog drf4_ops Q 8 18 (drfE_val gF oF n cF i jp P PQ pB B cB 8) x w := by
  obtain ⟨hF, hi, hn, f0, hp, hr, f1, h2, h3, hjp, hqp, h4, hB, hdef, u0, u3⟩ := H
  have ho : drf4_ops[8]? = some drf4_o8 := rfl
  simp only [Array.getD_eq_getD_getElem?] at u0 u3
  have q7 : x.tmps.getD 17 undef = .bool false := p7
  simp only [Array.getD_eq_getD_getElem?] at q7
  have e7 : (drf4_ops[7]?.bind fun x => x.dst) = some 17 := rfl
  have g7 := get_someT q7 (fun h => by cases h)
  refine wpOpIn_stepT hF ho (fun K hK => ?_)
  clear ho
  rw [Oper.semAt_plain Fc _ _ (by intro c h; cases h)]
  simp only [drf4_o8]
  go_simp
  exact hK _ _ ⟨_, act_putD x hdef _ _, rfl, Below.refl _ _⟩
theorem drfE_s9 (H : drfE_H Fc gF oF n cF i jp P PQ pB B cB df w0 x w)
    (p7 : drfE_val gF oF n cF i jp P PQ pB B cB 7 (x.tmps.getD 17 undef) w)
    : Stp Fc nC Try.prog drf4_ops Q 9 19 (drfE_val gF oF n cF i jp P PQ pB B cB 9) x w := by
  obtain ⟨hF, hi, hn, f0, hp, hr, f1, h2, h3, hjp, hqp, h4, hB, hdef, u0, u3⟩ := H
  have ho : drf4_ops[9]? = some drf4_o9 := rfl
  simp only [Array.getD_eq_getD_getElem?] at u0 u3
  have q7 : x.tmps.getD 17 undef = .bool false := p7
  simp only [Array.getD_eq_getD_getElem?] at q7
  have e7 : (drf4_ops[7]?.bind fun x => x.dst) = some 17 := rfl
  have g7 := get_someT q7 (fun h => by cases h)
  refine wpOpIn_stepT hF ho (fun K hK => ?_)
  clear ho
  rw [Oper.semAt_plain Fc _ _ (by intro c h; cases h)]
  simp only [drf4_o9]
  go_simp
  exact hK _ _ ⟨_, act_putD x hdef _ _, rfl, Below.refl _ _⟩
theorem drfE_s10 (H : drfE_H Fc gF oF n cF i jp P PQ pB B cB df w0 x w)
    (p8 : drfE_val gF oF n cF i jp P PQ pB B cB 8 (x.tmps.getD 18 undef) w)
    (p9 : drfE_val gF oF n cF i jp P PQ pB B cB 9 (x.tmps.getD 19 undef) w)
    (p7 : drfE_val gF oF n cF i jp P PQ pB B cB 7 (x.tmps.getD 17 undef) w)
    : Stp Fc nC Try.prog drf4_ops Q 10 20 (drfE_val gF oF n cF i jp P PQ pB B cB 10) x w := by
  obtain ⟨hF, hi, hn, f0, hp, hr, f1, h2, h3, hjp, hqp, h4, hB, hdef, u0, u3⟩ := H
  have ho : drf4_ops[10]? = some drf4_o10 := rfl
  simp only [Array.getD_eq_getD_getElem?] at u0 u3
  have q8 : x.tmps.getD 18 undef = .slice (some ⟨gF, oF, none⟩) n cF := p8
  have q9 : x.tmps.getD 19 undef = .int .i64 (i : Nat) := p9
  have q7 : x.tmps.getD 17 undef = .bool false := p7
  simp only [Array.getD_eq_getD_getElem?] at q8 q9 q7
  have e7 : (drf4_ops[7]?.bind fun x => x.dst) = some 17 := rfl
  have g7 := get_someT q7 (fun h => by cases h)
  have i0 : (0 : Int) ≤ (i : Int) := by omega
  have i1 : (i : Int) < (n : Int) := by omega
  refine wpOpIn_stepT hF ho (fun K hK => ?_)
  clear ho
  rw [Oper.semAt_plain Fc _ _ (by intro c h; cases h)]
  simp only [drf4_o10]
  go_simp
  exact hK _ _ ⟨_, act_putD x hdef _ _, rfl, Below.refl _ _⟩
theorem drfE_s11 (H : drfE_H Fc gF oF n cF i jp P PQ pB B cB df w0 x w)
    (p10 : drfE_val gF oF n cF i jp P PQ pB B cB 10 (x.tmps.getD 20 undef) w)
    (p7 : drfE_val gF oF n cF i jp P PQ pB B cB 7 (x.tmps.getD 17 undef) w)
    : Stp Fc nC Try.prog drf4_ops Q 11 21 (drfE_val gF oF n cF i jp P PQ pB B cB 11) x w := by
  obtain ⟨hF, hi, hn, f0, hp, hr, f1, h2, h3, hjp, hqp, h4, hB, hdef, u0, u3⟩ := H
  have ho : drf4_ops[11]? = some drf4_o11 := rfl
  simp only [Array.getD_eq_getD_getElem?] at u0 u3
  have q10 : x.tmps.getD 20 undef = .pointer (some ⟨gF, oF + i * 2, none⟩) := p10
  have q7 : x.tmps.getD 17 undef = .bool false := p7
  simp only [Array.getD_eq_getD_getElem?] at q10 q7
  have e7 : (drf4_ops[7]?.bind fun x => x.dst) = some 17 := rfl
  have g7 := get_someT q7 (fun h => by cases h)
  refine wpOpIn_stepT hF ho (fun K hK => ?_)
  clear ho
  rw [Oper.semAt_plain Fc _ _ (by intro c h; cases h)]
  simp only [drf4_o11]
  go_simp
  exact hK _ _ ⟨_, act_putD x hdef _ _, rfl, Below.refl _ _⟩
theorem drfE_s12 (H : drfE_H Fc gF oF n cF i jp P PQ pB B cB df w0 x w)
    (p11 : drfE_val gF oF n cF i jp P PQ pB B cB 11 (x.tmps.getD 21 undef) w)
    (p7 : drfE_val gF oF n cF i jp P PQ pB B cB 7 (x.tmps.getD 17 undef) w)
    : Stp Fc nC Try.prog drf4_ops Q 12 22 (drfE_val gF oF n cF i jp P PQ pB B cB 12) x w := by
  obtain ⟨hF, hi, hn, f0, hp, hr, f1, h2, h3, hjp, hqp, h4, hB, hdef, u0, u3⟩ := H
  have ho : drf4_ops[12]? = some drf4_o12 := rfl
  simp only [Array.getD_eq_getD_getElem?] at u0 u3
  have q11 : x.tmps.getD 21 undef = .pointer (some ⟨gF, oF + i * 2 + 1, none⟩) := p11
  have q7 : x.tmps.getD 17 undef = .bool false := p7
  simp only [Array.getD_eq_getD_getElem?] at q11 q7
  have e7 : (drf4_ops[7]?.bind fun x => x.dst) = some 17 := rfl
  have g7 := get_someT q7 (fun h => by cases h)
  have m := cell_thru f1 hB
  refine wpOpIn_stepT hF ho (fun K hK => ?_)
  clear ho
  rw [Oper.semAt_plain Fc _ _ (by intro c h; cases h)]
  simp only [drf4_o12]
  go_simp
  exact hK _ _ ⟨_, act_putD x hdef _ _, rfl, Below.refl _ _⟩
theorem drfE_s13 (H : drfE_H Fc gF oF n cF i jp P PQ pB B cB df w0 x w)
    (p12 : drfE_val gF oF n cF i jp P PQ pB B cB 12 (x.tmps.getD 22 undef) w)
    (p7 : drfE_val gF oF n cF i jp P PQ pB B cB 7 (x.tmps.getD 17 undef) w)
    : Stp Fc nC Try.prog drf4_ops Q 13 23 (drfE_val gF oF n cF i jp P PQ pB B cB 13) x w := by
  obtain ⟨hF, hi, hn, f0, hp, hr, f1, h2, h3, hjp, hqp, h4, hB, hdef, u0, u3⟩ := H
  have ho : drf4_ops[13]? = some drf4_o13 := rfl
  simp only [Array.getD_eq_getD_getElem?] at u0 u3
  have q12 : x.tmps.getD 22 undef = .slice pB (B.length) cB := p12
  have q7 : x.tmps.getD 17 undef = .bool false := p7
  simp only [Array.getD_eq_getD_getElem?] at q12 q7
  have e7 : (drf4_ops[7]?.bind fun x => x.dst) = some 17 := rfl
  have g7 := get_someT q7 (fun h => by cases h)
  refine wpOpIn_stepT hF ho (fun K hK => ?_)
  clear ho
  rw [Oper.semAt_plain Fc _ _ (by intro c h; cases h)]
  simp only [drf4_o13]
  go_simp
  exact hK _ _ ⟨_, act_putD x hdef _ _, rfl, Below.refl _ _⟩
theorem drfE_s14 (H : drfE_H Fc gF oF n cF i jp P PQ pB B cB df w0 x w)
    (p13 : drfE_val gF oF n cF i jp P PQ pB B cB 13 (x.tmps.getD 23 undef) w)
    (p7 : drfE_val gF oF n cF i jp P PQ pB B cB 7 (x.tmps.getD 17 undef) w)
    : Stp Fc nC Try.prog drf4_ops Q 14 24 (drfE_val gF oF n cF i jp P PQ pB B cB 14) x w := by
  obtain ⟨hF, hi, hn, f0, hp, hr, f1, h2, h3, hjp, hqp, h4, hB, hdef, u0, u3⟩ := H
  have ho : drf4_ops[14]? = some drf4_o14 := rfl
  simp only [Array.getD_eq_getD_getElem?] at u0 u3
  have q13 : x.tmps.getD 23 undef = .int .i64 ((B.length) : Nat) := p13
  have q7 : x.tmps.getD 17 undef = .bool false := p7
  simp only [Array.getD_eq_getD_getElem?] at q13 q7
  have e7 : (drf4_ops[7]?.bind fun x => x.dst) = some 17 := rfl
  have g7 := get_someT q7 (fun h => by cases h)
  have m := h2
  refine wpOpIn_stepT hF ho (fun K hK => ?_)
  clear ho
  rw [Oper.semAt_plain Fc _ _ (by intro c h; cases h)]
  simp only [drf4_o14]
  go_simp
  exact hK _ _ ⟨_, act_putD x hdef _ _, rfl, Below.refl _ _⟩
theorem drfE_s15 (H : drfE_H Fc gF oF n cF i jp P PQ pB B cB df w0 x w)
    (p7 : drfE_val gF oF n cF i jp P PQ pB B cB 7 (x.tmps.getD 17 undef) w)
    (p14 : drfE_val gF oF n cF i jp P PQ pB B cB 14 (x.tmps.getD 24 undef) w)
    : Stp Fc nC Try.prog drf4_ops Q 15 25 (drfE_val gF oF n cF i jp P PQ pB B cB 15) x w := by
  obtain ⟨hF, hi, hn, f0, hp, hr, f1, h2, h3, hjp, hqp, h4, hB, hdef, u0, u3⟩ := H
  have ho : drf4_ops[15]? = some drf4_o15 := rfl
  simp only [Array.getD_eq_getD_getElem?] at u0 u3
  have q7 : x.tmps.getD 17 undef = .bool false := p7
  have q14 : x.tmps.getD 24 undef = .bool false := p14
  simp only [Array.getD_eq_getD_getElem?] at q7 q14
  refine wpOpIn_plain ho rfl (oper_inK hF.fn (fun K hK => ?_))
  clear ho
  rw [Oper.semAt_plain Fc _ _ (by intro c h; cases h)]
  simp only [drf4_o15]
  go_simp
  exact hK _ _ ⟨_, act_putD x hdef _ _, rfl, Below.refl _ _⟩
theorem drfE_s16 (H : drfE_H Fc gF oF n cF i jp P PQ pB B cB df w0 x w)
    (p15 : drfE_val gF oF n cF i jp P PQ pB B cB 15 (x.tmps.getD 25 undef) w)
    : Stp Fc nC Try.prog drf4_ops Q 16 26 (drfE_val gF oF n cF i jp P PQ pB B cB 16) x w := by
  obtain ⟨hF, hi, hn, f0, hp, hr, f1, h2, h3, hjp, hqp, h4, hB, hdef, u0, u3⟩ := H
  have ho : drf4_ops[16]? = some drf4_o16 := rfl
  simp only [Array.getD_eq_getD_getElem?] at u0 u3
  have q15 : x.tmps.getD 25 undef = .bool false := p15
  simp only [Array.getD_eq_getD_getElem?] at q15
  refine wpOpIn_plain ho rfl (oper_inK hF.fn (fun K hK => ?_))
  clear ho
  rw [Oper.semAt_plain Fc _ _ (by intro c h; cases h)]
  simp only [drf4_o16]
  go_simp
  exact hK _ _ ⟨_, act_putD x hdef _ _, rfl, Below.refl _ _⟩
theorem drfE_s17 (H : drfE_H Fc gF oF n cF i jp P PQ pB B cB df w0 x w)
    (p16 : drfE_val gF oF n cF i jp P PQ pB B cB 16 (x.tmps.getD 26 undef) w)
    : Stp Fc nC Try.prog drf4_ops Q 17 27 (drfE_val gF oF n cF i jp P PQ pB B cB 17) x w := by
  obtain ⟨hF, hi, hn, f0, hp, hr, f1, h2, h3, hjp, hqp, h4, hB, hdef, u0, u3⟩ := H
  have ho : drf4_ops[17]? = some drf4_o17 := rfl
  simp only [Array.getD_eq_getD_getElem?] at u0 u3
  have q16 : x.tmps.getD 26 undef = .bool false := p16
  simp only [Array.getD_eq_getD_getElem?] at q16
  have e16 : (drf4_ops[16]?.bind fun x => x.dst) = some 26 := rfl
  have g16 := get_someT q16 (fun h => by cases h)
  refine wpOpIn_stepT hF ho (fun K hK => ?_)
  clear ho
  rw [Oper.semAt_plain Fc _ _ (by intro c h; cases h)]
  simp only [drf4_o17]
  go_simp
  exact hK _ _ ⟨_, act_putD x hdef _ _, rfl, Below.refl _ _⟩
theorem drfE_s18 (H : drfE_H Fc gF oF n cF i jp P PQ pB B cB df w0 x w)
    (p17 : drfE_val gF oF n cF i jp P PQ pB B cB 17 (x.tmps.getD 27 undef) w)
    (p16 : drfE_val gF oF n cF i jp P PQ pB B cB 16 (x.tmps.getD 26 undef) w)
    : Stp Fc nC Try.prog drf4_ops Q 18 28 (drfE_val gF oF n cF i jp P PQ pB B cB 18) x w := by
  obtain ⟨hF, hi, hn, f0, hp, hr, f1, h2, h3, hjp, hqp, h4, hB, hdef, u0, u3⟩ := H
  have ho : drf4_ops[18]? = some drf4_o18 := rfl
  simp only [Array.getD_eq_getD_getElem?] at u0 u3
  have q17 : x.tmps.getD 27 undef = .int .i64 (i : Nat) := p17
  have q16 : x.tmps.getD 26 undef = .bool false := p16
  simp only [Array.getD_eq_getD_getElem?] at q17 q16
  have e16 : (drf4_ops[16]?.bind fun x => x.dst) = some 26 := rfl
  have g16 := get_someT q16 (fun h => by cases h)
  have m := h3
  refine wpOpIn_stepT hF ho (fun K hK => ?_)
  clear ho
  rw [Oper.semAt_plain Fc _ _ (by intro c h; cases h)]
  simp only [drf4_o18]
  go_simp
  exact hK _ _ ⟨_, act_putD x hdef _ _, rfl, Below.refl _ _⟩
theorem drfE_s19 (H : drfE_H Fc gF oF n cF i jp P PQ pB B cB df w0 x w)
    (p18 : drfE_val gF oF n cF i jp P PQ pB B cB 18 (x.tmps.getD 28 undef) w)
    (p16 : drfE_val gF oF n cF i jp P PQ pB B cB 16 (x.tmps.getD 26 undef) w)
    : Stp Fc nC Try.prog drf4_ops Q 19 29 (drfE_val gF oF n cF i jp P PQ pB B cB 19) x w := by
  obtain ⟨hF, hi, hn, f0, hp, hr, f1, h2, h3, hjp, hqp, h4, hB, hdef, u0, u3⟩ := H
  have ho : drf4_ops[19]? = some drf4_o19 := rfl
  simp only [Array.getD_eq_getD_getElem?] at u0 u3
  have q18 : x.tmps.getD 28 undef = .bool true := p18
  have q16 : x.tmps.getD 26 undef = .bool false := p16
  simp only [Array.getD_eq_getD_getElem?] at q18 q16
  have e16 : (drf4_ops[16]?.bind fun x => x.dst) = some 26 := rfl
  have g16 := get_someT q16 (fun h => by cases h)
  refine wpOpIn_stepT hF ho (fun K hK => ?_)
  clear ho
  rw [Oper.semAt_plain Fc _ _ (by intro c h; cases h)]
  simp only [drf4_o19]
  go_simp
  exact hK _ _ ⟨_, act_putD x hdef _ _, rfl, Below.refl _ _⟩
theorem drfE_s20 (H : drfE_H Fc gF oF n cF i jp P PQ pB B cB df w0 x w)
    (p19 : drfE_val gF oF n cF i jp P PQ pB B cB 19 (x.tmps.getD 29 undef) w)
    : Stp Fc nC Try.prog drf4_ops Q 20 30 (drfE_val gF oF n cF i jp P PQ pB B cB 20) x w := by
  obtain ⟨hF, hi, hn, f0, hp, hr, f1, h2, h3, hjp, hqp, h4, hB, hdef, u0, u3⟩ := H
  have ho : drf4_ops[20]? = some drf4_o20 := rfl
  simp only [Array.getD_eq_getD_getElem?] at u0 u3
  have q19 : x.tmps.getD 29 undef = .bool true := p19
  simp only [Array.getD_eq_getD_getElem?] at q19
  have e19 : (drf4_ops[19]?.bind fun x => x.dst) = some 29 := rfl
  have g19 := get_someT q19 (fun h => by cases h)
  refine wpOpIn_stepT hF ho (fun K hK => ?_)
  clear ho
  rw [Oper.semAt_plain Fc _ _ (by intro c h; cases h)]
  simp only [drf4_o20]
  go_simp
  exact hK _ _ ⟨_, act_putD x hdef _ _, rfl, Below.refl _ _⟩
theorem drfE_s21 (H : drfE_H Fc gF oF n cF i jp P PQ pB B cB df w0 x w)
    (p19 : drfE_val gF oF n cF i jp P PQ pB B cB 19 (x.tmps.getD 29 undef) w)
    : Stp Fc nC Try.prog drf4_ops Q 21 31 (drfE_val gF oF n cF i jp P PQ pB B cB 21) x w := by
  obtain ⟨hF, hi, hn, f0, hp, hr, f1, h2, h3, hjp, hqp, h4, hB, hdef, u0, u3⟩ := H
  have ho : drf4_ops[21]? = some drf4_o21 := rfl
  simp only [Array.getD_eq_getD_getElem?] at u0 u3
  have q19 : x.tmps.getD 29 undef = .bool true := p19
  simp only [Array.getD_eq_getD_getElem?] at q19
  have e19 : (drf4_ops[19]?.bind fun x => x.dst) = some 29 := rfl
  have g19 := get_someT q19 (fun h => by cases h)
  refine wpOpIn_stepT hF ho (fun K hK => ?_)
  clear ho
  rw [Oper.semAt_plain Fc _ _ (by intro c h; cases h)]
  simp only [drf4_o21]
  go_simp
  exact hK _ _ ⟨_, act_putD x hdef _ _, rfl, Below.refl _ _⟩
theorem drfE_s22 (H : drfE_H Fc gF oF n cF i jp P PQ pB B cB df w0 x w)
    (p21 : drfE_val gF oF n cF i jp P PQ pB B cB 21 (x.tmps.getD 31 undef) w)
    (p19 : drfE_val gF oF n cF i jp P PQ pB B cB 19 (x.tmps.getD 29 undef) w)
    : Stp Fc nC Try.prog drf4_ops Q 22 32 (drfE_val gF oF n cF i jp P PQ pB B cB 22) x w := by
  obtain ⟨hF, hi, hn, f0, hp, hr, f1, h2, h3, hjp, hqp, h4, hB, hdef, u0, u3⟩ := H
  have ho : drf4_ops[22]? = some drf4_o22 := rfl
  simp only [Array.getD_eq_getD_getElem?] at u0 u3
  have q21 : x.tmps.getD 31 undef = .int .i64 (i : Nat) := p21
  have q19 : x.tmps.getD 29 undef = .bool true := p19
  simp only [Array.getD_eq_getD_getElem?] at q21 q19
  have e19 : (drf4_ops[19]?.bind fun x => x.dst) = some 29 := rfl
  have g19 := get_someT q19 (fun h => by cases h)
  have e1 : (i : Int) - 1 = (jp : Int) := by have := hjp.out; omega
  have e2 := IntWalk.i64_in (jp : Int) (by have := hjp.out; omega)
  refine wpOpIn_stepT hF ho (fun K hK => ?_)
  clear ho
  rw [Oper.semAt_plain Fc _ _ (by intro c h; cases h)]
  simp only [drf4_o22]
  go_simp
  exact hK _ _ ⟨_, act_putD x hdef _ _, rfl, Below.refl _ _⟩
theorem drfE_s23 (H : drfE_H Fc gF oF n cF i jp P PQ pB B cB df w0 x w)
    (p20 : drfE_val gF oF n cF i jp P PQ pB B cB 20 (x.tmps.getD 30 undef) w)
    (p22 : drfE_val gF oF n cF i jp P PQ pB B cB 22 (x.tmps.getD 32 undef) w)
    (p19 : drfE_val gF oF n cF i jp P PQ pB B cB 19 (x.tmps.getD 29 undef) w)
    : Stp Fc nC Try.prog drf4_ops Q 23 33 (drfE_val gF oF n cF i jp P PQ pB B cB 23) x w := by
  obtain ⟨hF, hi, hn, f0, hp, hr, f1, h2, h3, hjp, hqp, h4, hB, hdef, u0, u3⟩ := H
  have ho : drf4_ops[23]? = some drf4_o23 := rfl
  simp only [Array.getD_eq_getD_getElem?] at u0 u3
  have q20 : x.tmps.getD 30 undef = .slice (some ⟨gF, oF, none⟩) n cF := p20
  have q22 : x.tmps.getD 32 undef = .int .i64 (jp : Nat) := p22
  have q19 : x.tmps.getD 29 undef = .bool true := p19
  simp only [Array.getD_eq_getD_getElem?] at q20 q22 q19
  have e19 : (drf4_ops[19]?.bind fun x => x.dst) = some 29 := rfl
  have g19 := get_someT q19 (fun h => by cases h)
  have j0 : (0 : Int) ≤ (jp : Int) := by omega
  have j1 : (jp : Int) < (n : Int) := by have := hjp.out; omega
  refine wpOpIn_stepT hF ho (fun K hK => ?_)
  clear ho
  rw [Oper.semAt_plain Fc _ _ (by intro c h; cases h)]
  simp only [drf4_o23]
  go_simp
  exact hK _ _ ⟨_, act_putD x hdef _ _, rfl, Below.refl _ _⟩
theorem drfE_s24 (H : drfE_H Fc gF oF n cF i jp P PQ pB B cB df w0 x w)
    (p23 : drfE_val gF oF n cF i jp P PQ pB B cB 23 (x.tmps.getD 33 undef) w)
    (p19 : drfE_val gF oF n cF i jp P PQ pB B cB 19 (x.tmps.getD 29 undef) w)
    : Stp Fc nC Try.prog drf4_ops Q 24 34 (drfE_val gF oF n cF i jp P PQ pB B cB 24) x w := by
  obtain ⟨hF, hi, hn, f0, hp, hr, f1, h2, h3, hjp, hqp, h4, hB, hdef, u0, u3⟩ := H
  have ho : drf4_ops[24]? = some drf4_o24 := rfl
  simp only [Array.getD_eq_getD_getElem?] at u0 u3
  have q23 : x.tmps.getD 33 undef = .pointer (some ⟨gF, oF + jp * 2, none⟩) := p23
  have q19 : x.tmps.getD 29 undef = .bool true := p19
  simp only [Array.getD_eq_getD_getElem?] at q23 q19
  have e19 : (drf4_ops[19]?.bind fun x => x.dst) = some 29 := rfl
  have g19 := get_someT q19 (fun h => by cases h)
  refine wpOpIn_stepT hF ho (fun K hK => ?_)
  clear ho
  rw [Oper.semAt_plain Fc _ _ (by intro c h; cases h)]
  simp only [drf4_o24]
  go_simp
  exact hK _ _ ⟨_, act_putD x hdef _ _, rfl, Below.refl _ _⟩
theorem drfE_s25 (H : drfE_H Fc gF oF n cF i jp P PQ pB B cB df w0 x w)
    (p24 : drfE_val gF oF n cF i jp P PQ pB B cB 24 (x.tmps.getD 34 undef) w)
    (p19 : drfE_val gF oF n cF i jp P PQ pB B cB 19 (x.tmps.getD 29 undef) w)
    : Stp Fc nC Try.prog drf4_ops Q 25 35 (drfE_val gF oF n cF i jp P PQ pB B cB 25) x w := by
  obtain ⟨hF, hi, hn, f0, hp, hr, f1, h2, h3, hjp, hqp, h4, hB, hdef, u0, u3⟩ := H
  have ho : drf4_ops[25]? = some drf4_o25 := rfl
  simp only [Array.getD_eq_getD_getElem?] at u0 u3
  have q24 : x.tmps.getD 34 undef = .pointer (some ⟨gF, oF + jp * 2, none⟩) := p24
  have q19 : x.tmps.getD 29 undef = .bool true := p19
  simp only [Array.getD_eq_getD_getElem?] at q24 q19
  have e19 : (drf4_ops[19]?.bind fun x => x.dst) = some 29 := rfl
  have g19 := get_someT q19 (fun h => by cases h)
  have m := cell_thru hqp hB
  refine wpOpIn_stepT hF ho (fun K hK => ?_)
  clear ho
  rw [Oper.semAt_plain Fc _ _ (by intro c h; cases h)]
  simp only [drf4_o25]
  go_simp
  exact hK _ _ ⟨_, act_putD x hdef _ _, rfl, Below.refl _ _⟩
theorem drfE_s26 (H : drfE_H Fc gF oF n cF i jp P PQ pB B cB df w0 x w)
    (p19 : drfE_val gF oF n cF i jp P PQ pB B cB 19 (x.tmps.getD 29 undef) w)
    : Stp Fc nC Try.prog drf4_ops Q 26 36 (drfE_val gF oF n cF i jp P PQ pB B cB 26) x w := by
  obtain ⟨hF, hi, hn, f0, hp, hr, f1, h2, h3, hjp, hqp, h4, hB, hdef, u0, u3⟩ := H
  have ho : drf4_ops[26]? = some drf4_o26 := rfl
  simp only [Array.getD_eq_getD_getElem?] at u0 u3
  have q19 : x.tmps.getD 29 undef = .bool true := p19
  simp only [Array.getD_eq_getD_getElem?] at q19
  have e19 : (drf4_ops[19]?.bind fun x => x.dst) = some 29 := rfl
  have g19 := get_someT q19 (fun h => by cases h)
  refine wpOpIn_stepT hF ho (fun K hK => ?_)
  clear ho
  rw [Oper.semAt_plain Fc _ _ (by intro c h; cases h)]
  simp only [drf4_o26]
  go_simp
  exact hK _ _ ⟨_, act_putD x hdef _ _, rfl, Below.refl _ _⟩
theorem drfE_s27 (H : drfE_H Fc gF oF n cF i jp P PQ pB B cB df w0 x w)
    (p19 : drfE_val gF oF n cF i jp P PQ pB B cB 19 (x.tmps.getD 29 undef) w)
    : Stp Fc nC Try.prog drf4_ops Q 27 37 (drfE_val gF oF n cF i jp P PQ pB B cB 27) x w := by
  obtain ⟨hF, hi, hn, f0, hp, hr, f1, h2, h3, hjp, hqp, h4, hB, hdef, u0, u3⟩ := H
  have ho : drf4_ops[27]? = some drf4_o27 := rfl
  simp only [Array.getD_eq_getD_getElem?] at u0 u3
  have q19 : x.tmps.getD 29 undef = .bool true := p19
  simp only [Array.getD_eq_getD_getElem?] at q19
  have e19 : (drf4_ops[19]?.bind fun x => x.dst) = some 29 := rfl
  have g19 := get_someT q19 (fun h => by cases h)
  refine wpOpIn_stepT hF ho (fun K hK => ?_)
  clear ho
  rw [Oper.semAt_plain Fc _ _ (by intro c h; cases h)]
  simp only [drf4_o27]
  go_simp
  exact hK _ _ ⟨_, act_putD x hdef _ _, rfl, Below.refl _ _⟩
theorem drfE_s28 (H : drfE_H Fc gF oF n cF i jp P PQ pB B cB df w0 x w)
    (p26 : drfE_val gF oF n cF i jp P PQ pB B cB 26 (x.tmps.getD 36 undef) w)
    (p27 : drfE_val gF oF n cF i jp P PQ pB B cB 27 (x.tmps.getD 37 undef) w)
    (p19 : drfE_val gF oF n cF i jp P PQ pB B cB 19 (x.tmps.getD 29 undef) w)
    : Stp Fc nC Try.prog drf4_ops Q 28 38 (drfE_val gF oF n cF i jp P PQ pB B cB 28) x w := by
  obtain ⟨hF, hi, hn, f0, hp, hr, f1, h2, h3, hjp, hqp, h4, hB, hdef, u0, u3⟩ := H
  have ho : drf4_ops[28]? = some drf4_o28 := rfl
  simp only [Array.getD_eq_getD_getElem?] at u0 u3
  have q26 : x.tmps.getD 36 undef = .slice (some ⟨gF, oF, none⟩) n cF := p26
  have q27 : x.tmps.getD 37 undef = .int .i64 (i : Nat) := p27
  have q19 : x.tmps.getD 29 undef = .bool true := p19
  simp only [Array.getD_eq_getD_getElem?] at q26 q27 q19
  have e19 : (drf4_ops[19]?.bind fun x => x.dst) = some 29 := rfl
  have g19 := get_someT q19 (fun h => by cases h)
  have i0 : (0 : Int) ≤ (i : Int) := by omega
  have i1 : (i : Int) < (n : Int) := by omega
  refine wpOpIn_stepT hF ho (fun K hK => ?_)
  clear ho
  rw [Oper.semAt_plain Fc _ _ (by intro c h; cases h)]
  simp only [drf4_o28]
  go_simp
  exact hK _ _ ⟨_, act_putD x hdef _ _, rfl, Below.refl _ _⟩
theorem drfE_s29 (H : drfE_H Fc gF oF n cF i jp P PQ pB B cB df w0 x w)
    (p28 : drfE_val gF oF n cF i jp P PQ pB B cB 28 (x.tmps.getD 38 undef) w)
    (p19 : drfE_val gF oF n cF i jp P PQ pB B cB 19 (x.tmps.getD 29 undef) w)
    : Stp Fc nC Try.prog drf4_ops Q 29 39 (drfE_val gF oF n cF i jp P PQ pB B cB 29) x w := by
  obtain ⟨hF, hi, hn, f0, hp, hr, f1, h2, h3, hjp, hqp, h4, hB, hdef, u0, u3⟩ := H
  have ho : drf4_ops[29]? = some drf4_o29 := rfl
  simp only [Array.getD_eq_getD_getElem?] at u0 u3
  have q28 : x.tmps.getD 38 undef = .pointer (some ⟨gF, oF + i * 2, none⟩) := p28
  have q19 : x.tmps.getD 29 undef = .bool true := p19
  simp only [Array.getD_eq_getD_getElem?] at q28 q19
  have e19 : (drf4_ops[19]?.bind fun x => x.dst) = some 29 := rfl
  have g19 := get_someT q19 (fun h => by cases h)
  refine wpOpIn_stepT hF ho (fun K hK => ?_)
  clear ho
  rw [Oper.semAt_plain Fc _ _ (by intro c h; cases h)]
  simp only [drf4_o29]
  go_simp
  exact hK _ _ ⟨_, act_putD x hdef _ _, rfl, Below.refl _ _⟩
theorem drfE_s30 (H : drfE_H Fc gF oF n cF i jp P PQ pB B cB df w0 x w)
    (p29 : drfE_val gF oF n cF i jp P PQ pB B cB 29 (x.tmps.getD 39 undef) w)
    (p19 : drfE_val gF oF n cF i jp P PQ pB B cB 19 (x.tmps.getD 29 undef) w)
    : Stp Fc nC Try.prog drf4_ops Q 30 40 (drfE_val gF oF n cF i jp P PQ pB B cB 30) x w := by
  obtain ⟨hF, hi, hn, f0, hp, hr, f1, h2, h3, hjp, hqp, h4, hB, hdef, u0, u3⟩ := H
  have ho : drf4_ops[30]? = some drf4_o30 := rfl
  simp only [Array.getD_eq_getD_getElem?] at u0 u3
  have q29 : x.tmps.getD 39 undef = .pointer (some ⟨gF, oF + i * 2, none⟩) := p29
  have q19 : x.tmps.getD 29 undef = .bool true := p19
  simp only [Array.getD_eq_getD_getElem?] at q29 q19
  have e19 : (drf4_ops[19]?.bind fun x => x.dst) = some 29 := rfl
  have g19 := get_someT q19 (fun h => by cases h)
  have m := cell_thru f0 hB
  refine wpOpIn_stepT hF ho (fun K hK => ?_)
  clear ho
  rw [Oper.semAt_plain Fc _ _ (by intro c h; cases h)]
  simp only [drf4_o30]
  go_simp
  exact hK _ _ ⟨_, act_putD x hdef _ _, rfl, Below.refl _ _⟩
theorem drfE_s31 (H : drfE_H Fc gF oF n cF i jp P PQ pB B cB df w0 x w)
    (p25 : drfE_val gF oF n cF i jp P PQ pB B cB 25 (x.tmps.getD 35 undef) w)
    (p30 : drfE_val gF oF n cF i jp P PQ pB B cB 30 (x.tmps.getD 40 undef) w)
    (p19 : drfE_val gF oF n cF i jp P PQ pB B cB 19 (x.tmps.getD 29 undef) w)
    : Stp Fc nC Try.prog drf4_ops Q 31 41 (drfE_val gF oF n cF i jp P PQ pB B cB 31) x w := by
  obtain ⟨hF, hi, hn, f0, hp, hr, f1, h2, h3, hjp, hqp, h4, hB, hdef, u0, u3⟩ := H
  have ho : drf4_ops[31]? = some drf4_o31 := rfl
  simp only [Array.getD_eq_getD_getElem?] at u0 u3
  have q25 : x.tmps.getD 35 undef = by8 PQ := p25
  have q30 : x.tmps.getD 40 undef = by8 P := p30
  have q19 : x.tmps.getD 29 undef = .bool true := p19
  simp only [Array.getD_eq_getD_getElem?] at q25 q30 q19
  have e19 : (drf4_ops[19]?.bind fun x => x.dst) = some 29 := rfl
  have g19 := get_someT q19 (fun h => by cases h)
  have m := h4
  unfold by8 at q25 q30
  refine wpOpIn_stepT hF ho (fun K hK => ?_)
  clear ho
  rw [Oper.semAt_plain Fc _ _ (by intro c h; cases h)]
  simp only [drf4_o31]
  go_simp
  exact hK _ _ ⟨_, act_putD x hdef _ _, rfl, Below.refl _ _⟩
theorem drfE_s32 (H : drfE_H Fc gF oF n cF i jp P PQ pB B cB df w0 x w)
    (p19 : drfE_val gF oF n cF i jp P PQ pB B cB 19 (x.tmps.getD 29 undef) w)
    (p31 : drfE_val gF oF n cF i jp P PQ pB B cB 31 (x.tmps.getD 41 undef) w)
    (p16 : drfE_val gF oF n cF i jp P PQ pB B cB 16 (x.tmps.getD 26 undef) w)
    : Stp Fc nC Try.prog drf4_ops Q 32 42 (drfE_val gF oF n cF i jp P PQ pB B cB 32) x w := by
  obtain ⟨hF, hi, hn, f0, hp, hr, f1, h2, h3, hjp, hqp, h4, hB, hdef, u0, u3⟩ := H
  have ho : drf4_ops[32]? = some drf4_o32 := rfl
  simp only [Array.getD_eq_getD_getElem?] at u0 u3
  have q19 : x.tmps.getD 29 undef = .bool true := p19
  have q31 : x.tmps.getD 41 undef = .bool true := p31
  have q16 : x.tmps.getD 26 undef = .bool false := p16
  simp only [Array.getD_eq_getD_getElem?] at q19 q31 q16
  have e16 : (drf4_ops[16]?.bind fun x => x.dst) = some 26 := rfl
  have g16 := get_someT q16 (fun h => by cases h)
  refine wpOpIn_stepT hF ho (fun K hK => ?_)
  clear ho
  rw [Oper.semAt_plain Fc _ _ (by intro c h; cases h)]
  simp only [drf4_o32]
  go_simp
  exact hK _ _ ⟨_, act_putD x hdef _ _, rfl, Below.refl _ _⟩
theorem drfE_s33 (H : drfE_H Fc gF oF n cF i jp P PQ pB B cB df w0 x w)
    (p16 : drfE_val gF oF n cF i jp P PQ pB B cB 16 (x.tmps.getD 26 undef) w)
    (p32 : drfE_val gF oF n cF i jp P PQ pB B cB 32 (x.tmps.getD 42 undef) w)
    : Stp Fc nC Try.prog drf4_ops Q 33 43 (drfE_val gF oF n cF i jp P PQ pB B cB 33) x w := by
  obtain ⟨hF, hi, hn, f0, hp, hr, f1, h2, h3, hjp, hqp, h4, hB, hdef, u0, u3⟩ := H
  have ho : drf4_ops[33]? = some drf4_o33 := rfl
  simp only [Array.getD_eq_getD_getElem?] at u0 u3
  have q16 : x.tmps.getD 26 undef = .bool false := p16
  have q32 : x.tmps.getD 42 undef = .bool true := p32
  simp only [Array.getD_eq_getD_getElem?] at q16 q32
  refine wpOpIn_plain ho rfl (oper_inK hF.fn (fun K hK => ?_))
  clear ho
  rw [Oper.semAt_plain Fc _ _ (by intro c h; cases h)]
  simp only [drf4_o33]
  go_simp
  exact hK _ _ ⟨_, act_putD x hdef _ _, rfl, Below.refl _ _⟩
end

set_option maxRecDepth 100000 in
set_option maxHeartbeats 4000000 in
theorem drfE {Fc : Fence} (hF : Wide Fc) {nC : Nat} (gF oF n cF i jp : Nat) (P PQ : List UInt8) (pB : Option Addr) (B : List Nat) (cB : Nat) (Q : Exit → Act → World → Prop) (t0 : Array Value) (df : List Deferred) (w0 : World) (ht : t0.size = 47)
    (hs0 : t0.getD 0 undef = .slice (some ⟨gF, oF, none⟩) n cF) (hs3 : t0.getD 3 undef = .int .i64 (i : Nat))
    (hi : i < n) (hn : n ≤ 140737488351232) (f0 : w0.cell? ⟨gF, oF + i * 2, none⟩ = some (by8 P)) (hp : P.length ≤ 1000000) (hr : rightP P = true) (f1 : w0.cell? ⟨gF, oF + i * 2 + 1, none⟩ = some (.slice pB (B.length) cB)) (h2 : decide ((1048576 : Int) < (B.length : Nat)) = false) (h3 : decide (0 < i) = true) (hjp : Hid (i = jp + 1)) (hqp : w0.cell? ⟨gF, oF + jp * 2, none⟩ = some (by8 PQ)) (h4 : (!Op.bytesLess PQ P) = true)
    (hQ : ∀ (vs : Nat → Value) (w : World), Below w0.heap.size w0 w → (vs 43 = .bool true) → Q .normal { tmps := [10, 11, 12, 13, 14, 15, 16, 17, 18, 19, 20, 21, 22, 23, 24, 25, 26, 27, 28, 29, 30, 31, 32, 33, 34, 35, 36, 37, 38, 39, 40, 41, 42, 43].foldl (fun y d => y.setIfInBounds d (vs d)) t0, defers := df } w) :
    (Code.region 4 drf4_ops true).wpIn Fc nC Try.prog Q { tmps := t0, defers := df } w0 := by
  refine wpIn_region_tail 34 (by decide) (by kernel_rfl) (fun a b => Below a.heap.size a b) (drfE_val gF oF n cF i jp P PQ pB B cB) t0 df w0 (by rw [ht]; kernel_rfl) (by kernel_rfl) (by kernel_rfl) (by kernel_rfl) ((Below.refl _ _).drew) (fun _ _ _ h k => h.trans (k.mono h.size)) (drfE_below gF oF n cF i jp P PQ pB B cB) ?_ ?_
  · intro j o ho hj x w hB hdef hsz hs hdeps
    have hs' : ∀ s, ¬ drf4_mem s → x.tmps.getD s undef = t0.getD s undef := fun s hn => hs s (fun j hj e => hn (by rw [e]; exact drf4_slots j hj))
    have u0 := (hs' 0 (by decide)).trans hs0
    have u3 := (hs' 3 (by decide)).trans hs3
    have H : drfE_H Fc gF oF n cF i jp P PQ pB B cB df w0 x w := ⟨hF, hi, hn, f0, hp, hr, f1, h2, h3, hjp, hqp, h4, hB, hdef, u0, u3⟩
    match j, ho, hj with
    | 0, ho, _ =>
      have e : o = drf4_o0 := (Option.some.inj ho).symm
      subst e
      exact drfE_s0 gF oF n cF i jp P PQ pB B cB Q df w0 x w H 
    | 1, ho, _ =>
      have e : o = drf4_o1 := (Option.some.inj ho).symm
      subst e
      exact drfE_s1 gF oF n cF i jp P PQ pB B cB Q df w0 x w H 
    | 2, ho, _ =>
      have e : o = drf4_o2 := (Option.some.inj ho).symm
      subst e
      exact drfE_s2 gF oF n cF i jp P PQ pB B cB Q df w0 x w H (hdeps { on := 0, ground := Ground.data } (by simp) rfl) (hdeps { on := 1, ground := Ground.data } (by simp) rfl)
    | 3, ho, _ =>
      have e : o = drf4_o3 := (Option.some.inj ho).symm
      subst e
      exact drfE_s3 gF oF n cF i jp P PQ pB B cB Q df w0 x w H (hdeps { on := 2, ground := Ground.data } (by simp) rfl)
    | 4, ho, _ =>
      have e : o = drf4_o4 := (Option.some.inj ho).symm
      subst e
      exact drfE_s4 gF oF n cF i jp P PQ pB B cB Q df w0 x w H (hdeps { on := 3, ground := Ground.data } (by simp) rfl)
    | 5, ho, _ =>
      have e : o = drf4_o5 := (Option.some.inj ho).symm
      subst e
      exact drfE_s5 gF oF n cF i jp P PQ pB B cB Q df w0 x w H (hdeps { on := 4, ground := Ground.data } (by simp) rfl)
    | 6, ho, _ =>
      have e : o = drf4_o6 := (Option.some.inj ho).symm
      subst e
      exact drfE_s6 gF oF n cF i jp P PQ pB B cB Q df w0 x w H (hdeps { on := 5, ground := Ground.data } (by simp) rfl)
    | 7, ho, _ =>
      have e : o = drf4_o7 := (Option.some.inj ho).symm
      subst e
      exact drfE_s7 gF oF n cF i jp P PQ pB B cB Q df w0 x w H (hdeps { on := 6, ground := Ground.data } (by simp) rfl)
    | 8, ho, _ =>
      have e : o = drf4_o8 := (Option.some.inj ho).symm
      subst e
      exact drfE_s8 gF oF n cF i jp P PQ pB B cB Q df w0 x w H (hdeps { on := 7, ground := Ground.guard } (by simp) rfl)
    | 9, ho, _ =>
      have e : o = drf4_o9 := (Option.some.inj ho).symm
      subst e
      exact drfE_s9 gF oF n cF i jp P PQ pB B cB Q df w0 x w H (hdeps { on := 7, ground := Ground.guard } (by simp) rfl)
    | 10, ho, _ =>
      have e : o = drf4_o10 := (Option.some.inj ho).symm
      subst e
      exact drfE_s10 gF oF n cF i jp P PQ pB B cB Q df w0 x w H (hdeps { on := 8, ground := Ground.data } (by simp) rfl) (hdeps { on := 9, ground := Ground.data } (by simp) rfl) (hdeps { on := 7, ground := Ground.guard } (by simp) rfl)
    | 11, ho, _ =>
      have e : o = drf4_o11 := (Option.some.inj ho).symm
      subst e
      exact drfE_s11 gF oF n cF i jp P PQ pB B cB Q df w0 x w H (hdeps { on := 10, ground := Ground.data } (by simp) rfl) (hdeps { on := 7, ground := Ground.guard } (by simp) rfl)
    | 12, ho, _ =>
      have e : o = drf4_o12 := (Option.some.inj ho).symm
      subst e
      exact drfE_s12 gF oF n cF i jp P PQ pB B cB Q df w0 x w H (hdeps { on := 11, ground := Ground.data } (by simp) rfl) (hdeps { on := 7, ground := Ground.guard } (by simp) rfl)
    | 13, ho, _ =>
      have e : o = drf4_o13 := (Option.some.inj ho).symm
      subst e
      exact drfE_s13 gF oF n cF i jp P PQ pB B cB Q df w0 x w H (hdeps { on := 12, ground := Ground.data } (by simp) rfl) (hdeps { on := 7, ground := Ground.guard } (by simp) rfl)
    | 14, ho, _ =>
      have e : o = drf4_o14 := (Option.some.inj ho).symm
      subst e
      exact drfE_s14 gF oF n cF i jp P PQ pB B cB Q df w0 x w H (hdeps { on := 13, ground := Ground.data } (by simp) rfl) (hdeps { on := 7, ground := Ground.guard } (by simp) rfl)
    | 15, ho, _ =>
      have e : o = drf4_o15 := (Option.some.inj ho).symm
      subst e
      exact drfE_s15 gF oF n cF i jp P PQ pB B cB Q df w0 x w H (hdeps { on := 7, ground := Ground.data } (by simp) rfl) (hdeps { on := 14, ground := Ground.data } (by simp) rfl)
    | 16, ho, _ =>
      have e : o = drf4_o16 := (Option.some.inj ho).symm
      subst e
      exact drfE_s16 gF oF n cF i jp P PQ pB B cB Q df w0 x w H (hdeps { on := 15, ground := Ground.data } (by simp) rfl)
    | 17, ho, _ =>
      have e : o = drf4_o17 := (Option.some.inj ho).symm
      subst e
      exact drfE_s17 gF oF n cF i jp P PQ pB B cB Q df w0 x w H (hdeps { on := 16, ground := Ground.guard } (by simp) rfl)
    | 18, ho, _ =>
      have e : o = drf4_o18 := (Option.some.inj ho).symm
      subst e
      exact drfE_s18 gF oF n cF i jp P PQ pB B cB Q df w0 x w H (hdeps { on := 17, ground := Ground.data } (by simp) rfl) (hdeps { on := 16, ground := Ground.guard } (by simp) rfl)
    | 19, ho, _ =>
      have e : o = drf4_o19 := (Option.some.inj ho).symm
      subst e
      exact drfE_s19 gF oF n cF i jp P PQ pB B cB Q df w0 x w H (hdeps { on := 18, ground := Ground.data } (by simp) rfl) (hdeps { on := 16, ground := Ground.guard } (by simp) rfl)
    | 20, ho, _ =>
      have e : o = drf4_o20 := (Option.some.inj ho).symm
      subst e
      exact drfE_s20 gF oF n cF i jp P PQ pB B cB Q df w0 x w H (hdeps { on := 19, ground := Ground.guard } (by simp) rfl)
    | 21, ho, _ =>
      have e : o = drf4_o21 := (Option.some.inj ho).symm
      subst e
      exact drfE_s21 gF oF n cF i jp P PQ pB B cB Q df w0 x w H (hdeps { on := 19, ground := Ground.guard } (by simp) rfl)
    | 22, ho, _ =>
      have e : o = drf4_o22 := (Option.some.inj ho).symm
      subst e
      exact drfE_s22 gF oF n cF i jp P PQ pB B cB Q df w0 x w H (hdeps { on := 21, ground := Ground.data } (by simp) rfl) (hdeps { on := 19, ground := Ground.guard } (by simp) rfl)
    | 23, ho, _ =>
      have e : o = drf4_o23 := (Option.some.inj ho).symm
      subst e
      exact drfE_s23 gF oF n cF i jp P PQ pB B cB Q df w0 x w H (hdeps { on := 20, ground := Ground.data } (by simp) rfl) (hdeps { on := 22, ground := Ground.data } (by simp) rfl) (hdeps { on := 19, ground := Ground.guard } (by simp) rfl)
    | 24, ho, _ =>
      have e : o = drf4_o24 := (Option.some.inj ho).symm
      subst e
      exact drfE_s24 gF oF n cF i jp P PQ pB B cB Q df w0 x w H (hdeps { on := 23, ground := Ground.data } (by simp) rfl) (hdeps { on := 19, ground := Ground.guard } (by simp) rfl)
    | 25, ho, _ =>
      have e : o = drf4_o25 := (Option.some.inj ho).symm
      subst e
      exact drfE_s25 gF oF n cF i jp P PQ pB B cB Q df w0 x w H (hdeps { on := 24, ground := Ground.data } (by simp) rfl) (hdeps { on := 19, ground := Ground.guard } (by simp) rfl)
    | 26, ho, _ =>
      have e : o = drf4_o26 := (Option.some.inj ho).symm
      subst e
      exact drfE_s26 gF oF n cF i jp P PQ pB B cB Q df w0 x w H (hdeps { on := 19, ground := Ground.guard } (by simp) rfl)
    | 27, ho, _ =>
      have e : o = drf4_o27 := (Option.some.inj ho).symm
      subst e
      exact drfE_s27 gF oF n cF i jp P PQ pB B cB Q df w0 x w H (hdeps { on := 19, ground := Ground.guard } (by simp) rfl)
    | 28, ho, _ =>
      have e : o = drf4_o28 := (Option.some.inj ho).symm
      subst e
      exact drfE_s28 gF oF n cF i jp P PQ pB B cB Q df w0 x w H (hdeps { on := 26, ground := Ground.data } (by simp) rfl) (hdeps { on := 27, ground := Ground.data } (by simp) rfl) (hdeps { on := 19, ground := Ground.guard } (by simp) rfl)
    | 29, ho, _ =>
      have e : o = drf4_o29 := (Option.some.inj ho).symm
      subst e
      exact drfE_s29 gF oF n cF i jp P PQ pB B cB Q df w0 x w H (hdeps { on := 28, ground := Ground.data } (by simp) rfl) (hdeps { on := 19, ground := Ground.guard } (by simp) rfl)
    | 30, ho, _ =>
      have e : o = drf4_o30 := (Option.some.inj ho).symm
      subst e
      exact drfE_s30 gF oF n cF i jp P PQ pB B cB Q df w0 x w H (hdeps { on := 29, ground := Ground.data } (by simp) rfl) (hdeps { on := 19, ground := Ground.guard } (by simp) rfl)
    | 31, ho, _ =>
      have e : o = drf4_o31 := (Option.some.inj ho).symm
      subst e
      exact drfE_s31 gF oF n cF i jp P PQ pB B cB Q df w0 x w H (hdeps { on := 25, ground := Ground.data } (by simp) rfl) (hdeps { on := 30, ground := Ground.data } (by simp) rfl) (hdeps { on := 19, ground := Ground.guard } (by simp) rfl)
    | 32, ho, _ =>
      have e : o = drf4_o32 := (Option.some.inj ho).symm
      subst e
      exact drfE_s32 gF oF n cF i jp P PQ pB B cB Q df w0 x w H (hdeps { on := 19, ground := Ground.data } (by simp) rfl) (hdeps { on := 31, ground := Ground.data } (by simp) rfl) (hdeps { on := 16, ground := Ground.guard } (by simp) rfl)
    | 33, ho, _ =>
      have e : o = drf4_o33 := (Option.some.inj ho).symm
      subst e
      exact drfE_s33 gF oF n cF i jp P PQ pB B cB Q df w0 x w H (hdeps { on := 16, ground := Ground.data } (by simp) rfl) (hdeps { on := 32, ground := Ground.data } (by simp) rfl)
    | k + 34, _, hj => omega
  · intro x w hB hdef hsz hs hv
    have hx := frame_sets x.tmps t0 hsz [10, 11, 12, 13, 14, 15, 16, 17, 18, 19, 20, 21, 22, 23, 24, 25, 26, 27, 28, 29, 30, 31, 32, 33, 34, 35, 36, 37, 38, 39, 40, 41, 42, 43] (fun s hn => hs s (fun j hj e => hn (by rw [e]; exact drf4_slots j hj)))
    have hq := hQ (fun d => x.tmps.getD d undef) w hB (hv 33 (by decide))
    obtain ⟨T, Df⟩ := x
    dsimp only at hx hdef hq
    subst hdef
    rw [← hx] at hq
    exact hq
end Go.Proofs.Ytpmldopbjlnknaa
