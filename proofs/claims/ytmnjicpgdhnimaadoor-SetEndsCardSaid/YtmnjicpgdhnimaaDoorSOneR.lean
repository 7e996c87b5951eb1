/-
  mudlarklaw08.one's region (written by tools/gen-sone.py).
-/
import Derived.Test.YtmnjicpgdhnimaaDoorSLawR
import Derived.Test.YtmnjicpgdhnimaaDoorSRangesP
import Derived.Test.YtmnjicpgdhnimaaDoorSRgRef
import Derived.Test.YtmnjicpgdhnimaaDoorSHas
import Derived.Test.YtmnjicpgdhnimaaDoorSBytesP
import Derived.Test.YtmnjicpgdhnimaaDoorSCount
import Derived.Test.YtmnjicpgdhnimaaDoorSRef
import Derived.Test.YtmnjicpgdhnimaaDoorSame
import Derived.Test.YtmnjicpgdhnimaaDoorRegT
namespace Go.Proofs.YtmnjicpgdhnimaaDoor
open Go.RowKit Go.Shelf
set_option linter.unusedVariables false
set_option linter.unusedSimpArgs false

abbrev soneR_o0 : Oper := { dst := some 5, op := Op.load 24 (Operand.tmp 2), type := 24, pos := "law.go:35", after := #[], guard := none }
abbrev soneR_o1 : Oper := { dst := some 6, op := Op.call { callee := Callee.value (Operand.func 22), args := #[Operand.tmp 5], argTypes := #[24] }, type := 24, pos := "law.go:35", after := #[{ on := 0, ground := Ground.data }], guard := none }
abbrev soneR_o2 : Oper := { dst := some 7, op := Op.load 24 (Operand.tmp 2), type := 24, pos := "law.go:35", after := #[], guard := none }
abbrev soneR_o3 : Oper := { dst := some 8, op := Op.call { callee := Callee.value (Operand.func 29), args := #[Operand.tmp 7], argTypes := #[24] }, type := 24, pos := "law.go:35", after := #[{ on := 2, ground := Ground.data }, { on := 1, ground := Ground.chain }], guard := none }
abbrev soneR_o4 : Oper := { dst := some 9, op := Op.binOp BinOp.eql 24 (Operand.tmp 6) (Operand.tmp 8) 24, type := 4, pos := "law.go:35", after := #[{ on := 1, ground := Ground.data }, { on := 3, ground := Ground.data }], guard := none }
abbrev soneR_o5 : Oper := { dst := some 10, op := Op.move (Operand.tmp 9), type := 4, pos := "law.go:35", after := #[{ on := 4, ground := Ground.data }, { on := 3, ground := Ground.chain }], guard := none }
abbrev soneR_o6 : Oper := { dst := some 11, op := Op.load 24 (Operand.tmp 2), type := 24, pos := "law.go:35", after := #[{ on := 5, ground := Ground.guard }], guard := some (5, true) }
abbrev soneR_o7 : Oper := { dst := some 12, op := Op.call { callee := Callee.value (Operand.func 24), args := #[Operand.tmp 11], argTypes := #[24] }, type := 24, pos := "law.go:35", after := #[{ on := 6, ground := Ground.data }, { on := 5, ground := Ground.chain }, { on := 5, ground := Ground.guard }], guard := some (5, true) }
abbrev soneR_o8 : Oper := { dst := some 13, op := Op.load 24 (Operand.tmp 2), type := 24, pos := "law.go:35", after := #[{ on := 5, ground := Ground.guard }], guard := some (5, true) }
abbrev soneR_o9 : Oper := { dst := some 14, op := Op.call { callee := Callee.value (Operand.func 30), args := #[Operand.tmp 13], argTypes := #[24] }, type := 24, pos := "law.go:35", after := #[{ on := 8, ground := Ground.data }, { on := 7, ground := Ground.chain }, { on := 5, ground := Ground.guard }], guard := some (5, true) }
abbrev soneR_o10 : Oper := { dst := some 15, op := Op.binOp BinOp.eql 24 (Operand.tmp 12) (Operand.tmp 14) 24, type := 4, pos := "law.go:35", after := #[{ on := 7, ground := Ground.data }, { on := 9, ground := Ground.data }, { on := 5, ground := Ground.guard }], guard := some (5, true) }
abbrev soneR_o11 : Oper := { dst := some 16, op := Op.pick (Operand.tmp 10) (Operand.tmp 15) (Operand.const (Value.bool false)), type := 4, pos := "law.go:35", after := #[{ on := 5, ground := Ground.data }, { on := 10, ground := Ground.data }], guard := none }
abbrev soneR_o12 : Oper := { dst := some 17, op := Op.move (Operand.tmp 16), type := 4, pos := "law.go:35", after := #[{ on := 11, ground := Ground.data }, { on := 9, ground := Ground.chain }], guard := none }
abbrev soneR_o13 : Oper := { dst := some 18, op := Op.load 24 (Operand.tmp 2), type := 24, pos := "law.go:35", after := #[{ on := 12, ground := Ground.guard }], guard := some (12, true) }
abbrev soneR_o14 : Oper := { dst := some 19, op := Op.move (Operand.tmp 1), type := 5, pos := "law.go:35", after := #[{ on := 12, ground := Ground.guard }], guard := some (12, true) }
abbrev soneR_o15 : Oper := { dst := some 20, op := Op.call { callee := Callee.value (Operand.func 23), args := #[Operand.tmp 18, Operand.tmp 19], argTypes := #[24, 5] }, type := 4, pos := "law.go:35", after := #[{ on := 13, ground := Ground.data }, { on := 14, ground := Ground.data }, { on := 12, ground := Ground.chain }, { on := 12, ground := Ground.guard }], guard := some (12, true) }
abbrev soneR_o16 : Oper := { dst := some 21, op := Op.load 24 (Operand.tmp 2), type := 24, pos := "law.go:35", after := #[{ on := 12, ground := Ground.guard }], guard := some (12, true) }
abbrev soneR_o17 : Oper := { dst := some 22, op := Op.move (Operand.tmp 1), type := 5, pos := "law.go:35", after := #[{ on := 12, ground := Ground.guard }], guard := some (12, true) }
abbrev soneR_o18 : Oper := { dst := some 23, op := Op.call { callee := Callee.value (Operand.func 31), args := #[Operand.tmp 21, Operand.tmp 22], argTypes := #[24, 5] }, type := 4, pos := "law.go:35", after := #[{ on := 16, ground := Ground.data }, { on := 17, ground := Ground.data }, { on := 15, ground := Ground.chain }, { on := 12, ground := Ground.guard }], guard := some (12, true) }
abbrev soneR_o19 : Oper := { dst := some 24, op := Op.binOp BinOp.eql 4 (Operand.tmp 20) (Operand.tmp 23) 4, type := 4, pos := "law.go:35", after := #[{ on := 15, ground := Ground.data }, { on := 18, ground := Ground.data }, { on := 12, ground := Ground.guard }], guard := some (12, true) }
abbrev soneR_o20 : Oper := { dst := some 25, op := Op.pick (Operand.tmp 17) (Operand.tmp 24) (Operand.const (Value.bool false)), type := 4, pos := "law.go:35", after := #[{ on := 12, ground := Ground.data }, { on := 19, ground := Ground.data }], guard := none }
abbrev soneR_o21 : Oper := { dst := some 26, op := Op.move (Operand.tmp 25), type := 4, pos := "law.go:35", after := #[{ on := 20, ground := Ground.data }, { on := 18, ground := Ground.chain }], guard := none }
abbrev soneR_o22 : Oper := { dst := some 27, op := Op.load 24 (Operand.tmp 2), type := 24, pos := "law.go:35", after := #[{ on := 21, ground := Ground.guard }], guard := some (21, true) }
abbrev soneR_o23 : Oper := { dst := some 28, op := Op.call { callee := Callee.value (Operand.func 25), args := #[Operand.tmp 27], argTypes := #[24] }, type := 3, pos := "law.go:35", after := #[{ on := 22, ground := Ground.data }, { on := 21, ground := Ground.chain }, { on := 21, ground := Ground.guard }], guard := some (21, true) }
abbrev soneR_o24 : Oper := { dst := some 29, op := Op.load 24 (Operand.tmp 2), type := 24, pos := "law.go:35", after := #[{ on := 21, ground := Ground.guard }], guard := some (21, true) }
abbrev soneR_o25 : Oper := { dst := some 30, op := Op.call { callee := Callee.value (Operand.func 32), args := #[Operand.tmp 29], argTypes := #[24] }, type := 3, pos := "law.go:35", after := #[{ on := 24, ground := Ground.data }, { on := 23, ground := Ground.chain }, { on := 21, ground := Ground.guard }], guard := some (21, true) }
abbrev soneR_o26 : Oper := { dst := some 31, op := Op.binOp BinOp.eql 3 (Operand.tmp 28) (Operand.tmp 30) 3, type := 4, pos := "law.go:35", after := #[{ on := 23, ground := Ground.data }, { on := 25, ground := Ground.data }, { on := 21, ground := Ground.guard }], guard := some (21, true) }
abbrev soneR_o27 : Oper := { dst := some 32, op := Op.pick (Operand.tmp 26) (Operand.tmp 31) (Operand.const (Value.bool false)), type := 4, pos := "law.go:35", after := #[{ on := 21, ground := Ground.data }, { on := 26, ground := Ground.data }], guard := none }
abbrev soneR_o28 : Oper := { dst := some 33, op := Op.move (Operand.tmp 32), type := 4, pos := "law.go:35", after := #[{ on := 27, ground := Ground.data }, { on := 25, ground := Ground.chain }], guard := none }
abbrev soneR_o29 : Oper := { dst := some 34, op := Op.load 24 (Operand.tmp 2), type := 24, pos := "law.go:35", after := #[{ on := 28, ground := Ground.guard }], guard := some (28, true) }
abbrev soneR_o30 : Oper := { dst := some 35, op := Op.call { callee := Callee.value (Operand.func 8), args := #[Operand.tmp 34], argTypes := #[24] }, type := 25, pos := "law.go:35", after := #[{ on := 29, ground := Ground.data }, { on := 28, ground := Ground.chain }, { on := 28, ground := Ground.guard }], guard := some (28, true) }
abbrev soneR_o31 : Oper := { dst := some 36, op := Op.load 24 (Operand.tmp 2), type := 24, pos := "law.go:35", after := #[{ on := 28, ground := Ground.guard }], guard := some (28, true) }
abbrev soneR_o32 : Oper := { dst := some 37, op := Op.call { callee := Callee.value (Operand.func 34), args := #[Operand.tmp 36], argTypes := #[24] }, type := 25, pos := "law.go:35", after := #[{ on := 31, ground := Ground.data }, { on := 30, ground := Ground.chain }, { on := 28, ground := Ground.guard }], guard := some (28, true) }
abbrev soneR_o33 : Oper := { dst := some 38, op := Op.call { callee := Callee.value (Operand.func 33), args := #[Operand.tmp 35, Operand.tmp 37], argTypes := #[25, 25] }, type := 4, pos := "law.go:35", after := #[{ on := 30, ground := Ground.data }, { on := 32, ground := Ground.data }, { on := 32, ground := Ground.chain }, { on := 28, ground := Ground.guard }], guard := some (28, true) }
abbrev soneR_o34 : Oper := { dst := some 39, op := Op.pick (Operand.tmp 33) (Operand.tmp 38) (Operand.const (Value.bool false)), type := 4, pos := "law.go:35", after := #[{ on := 28, ground := Ground.data }, { on := 33, ground := Ground.data }], guard := none }
abbrev soneR_o35 : Oper := { dst := some 40, op := Op.move (Operand.tmp 39), type := 4, pos := "law.go:35", after := #[{ on := 34, ground := Ground.data }, { on := 33, ground := Ground.chain }], guard := none }
abbrev soneR_o36 : Oper := { dst := some 41, op := Op.load 24 (Operand.tmp 2), type := 24, pos := "law.go:35", after := #[{ on := 35, ground := Ground.guard }], guard := some (35, true) }
abbrev soneR_o37 : Oper := { dst := some 42, op := Op.call { callee := Callee.value (Operand.func 26), args := #[Operand.tmp 41], argTypes := #[24] }, type := 43, pos := "law.go:35", after := #[{ on := 36, ground := Ground.data }, { on := 35, ground := Ground.chain }, { on := 35, ground := Ground.guard }], guard := some (35, true) }
abbrev soneR_o38 : Oper := { dst := some 43, op := Op.load 24 (Operand.tmp 2), type := 24, pos := "law.go:35", after := #[{ on := 35, ground := Ground.guard }], guard := some (35, true) }
abbrev soneR_o39 : Oper := { dst := some 44, op := Op.call { callee := Callee.value (Operand.func 36), args := #[Operand.tmp 43], argTypes := #[24] }, type := 43, pos := "law.go:35", after := #[{ on := 38, ground := Ground.data }, { on := 37, ground := Ground.chain }, { on := 35, ground := Ground.guard }], guard := some (35, true) }
abbrev soneR_o40 : Oper := { dst := some 45, op := Op.call { callee := Callee.value (Operand.func 35), args := #[Operand.tmp 42, Operand.tmp 44], argTypes := #[43, 43] }, type := 4, pos := "law.go:35", after := #[{ on := 37, ground := Ground.data }, { on := 39, ground := Ground.data }, { on := 39, ground := Ground.chain }, { on := 35, ground := Ground.guard }], guard := some (35, true) }
abbrev soneR_o41 : Oper := { dst := some 46, op := Op.pick (Operand.tmp 40) (Operand.tmp 45) (Operand.const (Value.bool false)), type := 4, pos := "law.go:35", after := #[{ on := 35, ground := Ground.data }, { on := 40, ground := Ground.data }], guard := none }
abbrev soneR_o42 : Oper := { dst := some 4, op := Op.assign (Operand.tmp 46), type := 4, pos := "law.go:35", after := #[{ on := 41, ground := Ground.data }, { on := 40, ground := Ground.chain }, { on := 0, ground := Ground.phase }, { on := 1, ground := Ground.phase }, { on := 2, ground := Ground.phase }, { on := 3, ground := Ground.phase }, { on := 4, ground := Ground.phase }, { on := 5, ground := Ground.phase }, { on := 6, ground := Ground.phase }, { on := 7, ground := Ground.phase }, { on := 8, ground := Ground.phase }, { on := 9, ground := Ground.phase }, { on := 10, ground := Ground.phase }, { on := 11, ground := Ground.phase }, { on := 12, ground := Ground.phase }, { on := 13, ground := Ground.phase }, { on := 14, ground := Ground.phase }, { on := 15, ground := Ground.phase }, { on := 16, ground := Ground.phase }, { on := 17, ground := Ground.phase }, { on := 18, ground := Ground.phase }, { on := 19, ground := Ground.phase }, { on := 20, ground := Ground.phase }, { on := 21, ground := Ground.phase }, { on := 22, ground := Ground.phase }, { on := 23, ground := Ground.phase }, { on := 24, ground := Ground.phase }, { on := 25, ground := Ground.phase }, { on := 26, ground := Ground.phase }, { on := 27, ground := Ground.phase }, { on := 28, ground := Ground.phase }, { on := 29, ground := Ground.phase }, { on := 30, ground := Ground.phase }, { on := 31, ground := Ground.phase }, { on := 32, ground := Ground.phase }, { on := 33, ground := Ground.phase }, { on := 34, ground := Ground.phase }, { on := 35, ground := Ground.phase }, { on := 36, ground := Ground.phase }, { on := 37, ground := Ground.phase }, { on := 38, ground := Ground.phase }, { on := 39, ground := Ground.phase }, { on := 40, ground := Ground.phase }, { on := 41, ground := Ground.phase }], guard := none }
def soneR_ops : Array Oper := #[soneR_o0, soneR_o1, soneR_o2, soneR_o3, soneR_o4, soneR_o5, soneR_o6, soneR_o7, soneR_o8, soneR_o9, soneR_o10, soneR_o11, soneR_o12, soneR_o13, soneR_o14, soneR_o15, soneR_o16, soneR_o17, soneR_o18, soneR_o19, soneR_o20, soneR_o21, soneR_o22, soneR_o23, soneR_o24, soneR_o25, soneR_o26, soneR_o27, soneR_o28, soneR_o29, soneR_o30, soneR_o31, soneR_o32, soneR_o33, soneR_o34, soneR_o35, soneR_o36, soneR_o37, soneR_o38, soneR_o39, soneR_o40, soneR_o41, soneR_o42]
abbrev soneR_mem (s : Nat) : Prop := s ∈ [5, 6, 7, 8, 9, 10, 11, 12, 13, 14, 15, 16, 17, 18, 19, 20, 21, 22, 23, 24, 25, 26, 27, 28, 29, 30, 31, 32, 33, 34, 35, 36, 37, 38, 39, 40, 41, 42, 43, 44, 45, 46, 4]
set_option maxRecDepth 100000 in
theorem soneR_slots : ∀ j, j < 43 → soneR_mem (slotOf soneR_ops j) := by
  intro j hj
  match j, hj with
  | 0, _ => exact (by decide : soneR_mem 5)
  | 1, _ => exact (by decide : soneR_mem 6)
  | 2, _ => exact (by decide : soneR_mem 7)
  | 3, _ => exact (by decide : soneR_mem 8)
  | 4, _ => exact (by decide : soneR_mem 9)
  | 5, _ => exact (by decide : soneR_mem 10)
  | 6, _ => exact (by decide : soneR_mem 11)
  | 7, _ => exact (by decide : soneR_mem 12)
  | 8, _ => exact (by decide : soneR_mem 13)
  | 9, _ => exact (by decide : soneR_mem 14)
  | 10, _ => exact (by decide : soneR_mem 15)
  | 11, _ => exact (by decide : soneR_mem 16)
  | 12, _ => exact (by decide : soneR_mem 17)
  | 13, _ => exact (by decide : soneR_mem 18)
  | 14, _ => exact (by decide : soneR_mem 19)
  | 15, _ => exact (by decide : soneR_mem 20)
  | 16, _ => exact (by decide : soneR_mem 21)
  | 17, _ => exact (by decide : soneR_mem 22)
  | 18, _ => exact (by decide : soneR_mem 23)
  | 19, _ => exact (by decide : soneR_mem 24)
  | 20, _ => exact (by decide : soneR_mem 25)
  | 21, _ => exact (by decide : soneR_mem 26)
  | 22, _ => exact (by decide : soneR_mem 27)
  | 23, _ => exact (by decide : soneR_mem 28)
  | 24, _ => exact (by decide : soneR_mem 29)
  | 25, _ => exact (by decide : soneR_mem 30)
  | 26, _ => exact (by decide : soneR_mem 31)
  | 27, _ => exact (by decide : soneR_mem 32)
  | 28, _ => exact (by decide : soneR_mem 33)
  | 29, _ => exact (by decide : soneR_mem 34)
  | 30, _ => exact (by decide : soneR_mem 35)
  | 31, _ => exact (by decide : soneR_mem 36)
  | 32, _ => exact (by decide : soneR_mem 37)
  | 33, _ => exact (by decide : soneR_mem 38)
  | 34, _ => exact (by decide : soneR_mem 39)
  | 35, _ => exact (by decide : soneR_mem 40)
  | 36, _ => exact (by decide : soneR_mem 41)
  | 37, _ => exact (by decide : soneR_mem 42)
  | 38, _ => exact (by decide : soneR_mem 43)
  | 39, _ => exact (by decide : soneR_mem 44)
  | 40, _ => exact (by decide : soneR_mem 45)
  | 41, _ => exact (by decide : soneR_mem 46)
  | 42, _ => exact (by decide : soneR_mem 4)
  | k + 43, hj => omega
def soneR_val (b b2 : Nat) (H : Nat → Bool) : Nat → Value → World → Prop
  | 0, v, w => v = sv H
  | 1, v, w => v = sv (fun b => !H b)
  | 2, v, w => v = sv H
  | 3, v, w => v = sv (fun b => !H b)
  | 4, v, w => v = .bool true
  | 5, v, w => v = .bool true
  | 6, v, w => v = sv H
  | 7, v, w => v = sv (fold H)
  | 8, v, w => v = sv H
  | 9, v, w => v = sv (fold H)
  | 10, v, w => v = .bool true
  | 11, v, w => v = .bool true
  | 12, v, w => v = .bool true
  | 13, v, w => v = sv H
  | 14, v, w => v = .int .u8 (b : Nat)
  | 15, v, w => v = .bool (H b)
  | 16, v, w => v = sv H
  | 17, v, w => v = .int .u8 (b : Nat)
  | 18, v, w => v = .bool (H b)
  | 19, v, w => v = .bool true
  | 20, v, w => v = .bool true
  | 21, v, w => v = .bool true
  | 22, v, w => v = sv H
  | 23, v, w => v = .int .i64 ((bl H 256).length : Nat)
  | 24, v, w => v = sv H
  | 25, v, w => v = .int .i64 ((bl H 256).length : Nat)
  | 26, v, w => v = .bool true
  | 27, v, w => v = .bool true
  | 28, v, w => v = .bool true
  | 29, v, w => v = sv H
  | 30, v, w => ∃ A C, v = .slice A (bl H 256).length C ∧ w.ownsRow 0 5 1 (.slice A (bl H 256).length C) (bl H 256).length (lc (bl H 256))
  | 31, v, w => v = sv H
  | 32, v, w => ∃ A C, v = .slice A (bl H 256).length C ∧ w.ownsRow 0 5 1 (.slice A (bl H 256).length C) (bl H 256).length (lc (bl H 256))
  | 33, v, w => v = .bool true
  | 34, v, w => v = .bool true
  | 35, v, w => v = .bool true
  | 36, v, w => v = sv H
  | 37, v, w => ∃ A C, v = .slice A (rl (bl H 256)).length C ∧ w.ownsRow 0 45 2 (.slice A (rl (bl H 256)).length C) (rl (bl H 256)).length (rgc (rl (bl H 256)))
  | 38, v, w => v = sv H
  | 39, v, w => ∃ A C, v = .slice A (rl (bl H 256)).length C ∧ w.ownsRow 0 45 2 (.slice A (rl (bl H 256)).length C) (rl (bl H 256)).length (rgc (rl (bl H 256)))
  | 40, v, w => v = .bool true
  | 41, v, w => v = .bool true
  | 42, v, w => v = .bool true
  | _, _, _ => True
theorem soneR_below (b b2 : Nat) (H : Nat → Bool) (w w' : World) (hb : Below w.heap.size w w') : ∀ j v, soneR_val b b2 H j v w → soneR_val b b2 H j v w' := by
  intro j v h
  match j, h with
  | 0, h => exact h
  | 1, h => exact h
  | 2, h => exact h
  | 3, h => exact h
  | 4, h => exact h
  | 5, h => exact h
  | 6, h => exact h
  | 7, h => exact h
  | 8, h => exact h
  | 9, h => exact h
  | 10, h => exact h
  | 11, h => exact h
  | 12, h => exact h
  | 13, h => exact h
  | 14, h => exact h
  | 15, h => exact h
  | 16, h => exact h
  | 17, h => exact h
  | 18, h => exact h
  | 19, h => exact h
  | 20, h => exact h
  | 21, h => exact h
  | 22, h => exact h
  | 23, h => exact h
  | 24, h => exact h
  | 25, h => exact h
  | 26, h => exact h
  | 27, h => exact h
  | 28, h => exact h
  | 29, h => exact h
  | 30, h => obtain ⟨A, C, h1, h2⟩ := h; exact ⟨A, C, h1, owns_thruS h2 hb⟩
  | 31, h => exact h
  | 32, h => obtain ⟨A, C, h1, h2⟩ := h; exact ⟨A, C, h1, owns_thruS h2 hb⟩
  | 33, h => exact h
  | 34, h => exact h
  | 35, h => exact h
  | 36, h => exact h
  | 37, h => obtain ⟨A, C, h1, h2⟩ := h; exact ⟨A, C, h1, owns_thruS h2 hb⟩
  | 38, h => exact h
  | 39, h => obtain ⟨A, C, h1, h2⟩ := h; exact ⟨A, C, h1, owns_thruS h2 hb⟩
  | 40, h => exact h
  | 41, h => exact h
  | 42, h => exact h
  | _ + 43, h => exact h
set_option maxRecDepth 100000 in
set_option maxHeartbeats 2000000 in
theorem soneR_s0 {Fc : Fence} (hF : Wide Fc) {nC : Nat} (b b2 : Nat) (H : Nat → Bool) (Q : Exit → Act → World → Prop) (df : List Deferred) (w0 : World)
    (hS : SBox w0 b2 H) (hT : Tab w0) (hb8 : b < 256)
    (x : Act) (w : World) (hB : Below w0.heap.size w0 w) (hdef : x.defers = df) (u1 : x.tmps.getD 1 undef = .int .u8 (b : Nat)) (u2 : x.tmps.getD 2 undef = .pointer (some ⟨b2, 0, none⟩))
    : wpOpIn Fc nC Tryd.prog soneR_ops Q 0 (fun a' w' => ∃ v, a' = x.put (some 5) v ∧ (v = sv H) ∧ Below w.heap.size w w') x w := by
  have ho : soneR_ops[0]? = some soneR_o0 := rfl
  simp only [Array.getD_eq_getD_getElem?] at u1 u2
  have hsb := hS.below hB hS.lt
  have c0 := hsb.cell 0 (by omega)
  have c1 := hsb.cell 1 (by omega)
  have c2 := hsb.cell 2 (by omega)
  have c3 := hsb.cell 3 (by omega)
  refine wpOpIn_plain ho rfl (oper_inK hF.fn (fun K hK => ?_))
  clear ho
  rw [Oper.semAt_plain Fc _ _ (by intro c h; cases h)]
  simp only [soneR_o0]
  go_simp
  exact hK _ _ ⟨_, act_putD x hdef _ _, rfl, Below.refl _ _⟩
set_option maxRecDepth 100000 in
set_option maxHeartbeats 2000000 in
theorem soneR_s1 {Fc : Fence} (hF : Wide Fc) {nC : Nat} (b b2 : Nat) (H : Nat → Bool) (Q : Exit → Act → World → Prop) (df : List Deferred) (w0 : World)
    (hS : SBox w0 b2 H) (hT : Tab w0) (hb8 : b < 256)
    (x : Act) (w : World) (hB : Below w0.heap.size w0 w) (hdef : x.defers = df) (u1 : x.tmps.getD 1 undef = .int .u8 (b : Nat)) (u2 : x.tmps.getD 2 undef = .pointer (some ⟨b2, 0, none⟩))
    (p0 : soneR_val b b2 H 0 (x.tmps.getD 5 undef) w)
    : wpOpIn Fc nC Tryd.prog soneR_ops Q 1 (fun a' w' => ∃ v, a' = x.put (some 6) v ∧ (v = sv (fun b => !H b)) ∧ Below w.heap.size w w') x w := by
  have ho : soneR_ops[1]? = some soneR_o1 := rfl
  simp only [Array.getD_eq_getD_getElem?] at u1 u2
  have q0 : x.tmps.getD 5 undef = sv H := p0
  simp only [Array.getD_eq_getD_getElem?] at q0
  refine wpOpIn_plain ho rfl (oper_inK hF.fn (fun K hK => ?_))
  clear ho
  rw [Oper.semAt_plain Fc _ _ (by intro c h; cases h)]
  simp only [soneR_o1]
  go_simp
  refine ⟨hF.deep, (hF.call (not_any H w)).mono ?_⟩
  rintro e w' ⟨rfl, hb⟩
  exact hK _ _ ⟨_, act_putD x hdef _ _, rfl, hb⟩
set_option maxRecDepth 100000 in
set_option maxHeartbeats 2000000 in
theorem soneR_s2 {Fc : Fence} (hF : Wide Fc) {nC : Nat} (b b2 : Nat) (H : Nat → Bool) (Q : Exit → Act → World → Prop) (df : List Deferred) (w0 : World)
    (hS : SBox w0 b2 H) (hT : Tab w0) (hb8 : b < 256)
    (x : Act) (w : World) (hB : Below w0.heap.size w0 w) (hdef : x.defers = df) (u1 : x.tmps.getD 1 undef = .int .u8 (b : Nat)) (u2 : x.tmps.getD 2 undef = .pointer (some ⟨b2, 0, none⟩))
    : wpOpIn Fc nC Tryd.prog soneR_ops Q 2 (fun a' w' => ∃ v, a' = x.put (some 7) v ∧ (v = sv H) ∧ Below w.heap.size w w') x w := by
  have ho : soneR_ops[2]? = some soneR_o2 := rfl
  simp only [Array.getD_eq_getD_getElem?] at u1 u2
  have hsb := hS.below hB hS.lt
  have c0 := hsb.cell 0 (by omega)
  have c1 := hsb.cell 1 (by omega)
  have c2 := hsb.cell 2 (by omega)
  have c3 := hsb.cell 3 (by omega)
  refine wpOpIn_plain ho rfl (oper_inK hF.fn (fun K hK => ?_))
  clear ho
  rw [Oper.semAt_plain Fc _ _ (by intro c h; cases h)]
  simp only [soneR_o2]
  go_simp
  exact hK _ _ ⟨_, act_putD x hdef _ _, rfl, Below.refl _ _⟩
set_option maxRecDepth 100000 in
set_option maxHeartbeats 2000000 in
theorem soneR_s3 {Fc : Fence} (hF : Wide Fc) {nC : Nat} (b b2 : Nat) (H : Nat → Bool) (Q : Exit → Act → World → Prop) (df : List Deferred) (w0 : World)
    (hS : SBox w0 b2 H) (hT : Tab w0) (hb8 : b < 256)
    (x : Act) (w : World) (hB : Below w0.heap.size w0 w) (hdef : x.defers = df) (u1 : x.tmps.getD 1 undef = .int .u8 (b : Nat)) (u2 : x.tmps.getD 2 undef = .pointer (some ⟨b2, 0, none⟩))
    (p2 : soneR_val b b2 H 2 (x.tmps.getD 7 undef) w)
    : wpOpIn Fc nC Tryd.prog soneR_ops Q 3 (fun a' w' => ∃ v, a' = x.put (some 8) v ∧ (v = sv (fun b => !H b)) ∧ Below w.heap.size w w') x w := by
  have ho : soneR_ops[3]? = some soneR_o3 := rfl
  simp only [Array.getD_eq_getD_getElem?] at u1 u2
  have q2 : x.tmps.getD 7 undef = sv H := p2
  simp only [Array.getD_eq_getD_getElem?] at q2
  refine wpOpIn_plain ho rfl (oper_inK hF.fn (fun K hK => ?_))
  clear ho
  rw [Oper.semAt_plain Fc _ _ (by intro c h; cases h)]
  simp only [soneR_o3]
  go_simp
  refine ⟨hF.deep, (hF.call (refNot_any H w)).mono ?_⟩
  rintro e w' ⟨rfl, hb⟩
  exact hK _ _ ⟨_, act_putD x hdef _ _, rfl, hb⟩
set_option maxRecDepth 100000 in
set_option maxHeartbeats 2000000 in
theorem soneR_s4 {Fc : Fence} (hF : Wide Fc) {nC : Nat} (b b2 : Nat) (H : Nat → Bool) (Q : Exit → Act → World → Prop) (df : List Deferred) (w0 : World)
    (hS : SBox w0 b2 H) (hT : Tab w0) (hb8 : b < 256)
    (x : Act) (w : World) (hB : Below w0.heap.size w0 w) (hdef : x.defers = df) (u1 : x.tmps.getD 1 undef = .int .u8 (b : Nat)) (u2 : x.tmps.getD 2 undef = .pointer (some ⟨b2, 0, none⟩))
    (p1 : soneR_val b b2 H 1 (x.tmps.getD 6 undef) w)
    (p3 : soneR_val b b2 H 3 (x.tmps.getD 8 undef) w)
    : wpOpIn Fc nC Tryd.prog soneR_ops Q 4 (fun a' w' => ∃ v, a' = x.put (some 9) v ∧ (v = .bool true) ∧ Below w.heap.size w w') x w := by
  have ho : soneR_ops[4]? = some soneR_o4 := rfl
  simp only [Array.getD_eq_getD_getElem?] at u1 u2
  have q1 : x.tmps.getD 6 undef = sv (fun b => !H b) := p1
  have q3 : x.tmps.getD 8 undef = sv (fun b => !H b) := p3
  simp only [Array.getD_eq_getD_getElem?] at q1 q3
  simp only [sv, st, sc] at q1 q3
  have he := fun W => eqSt (fun b => !H b) (fun b => !H b) W true (by simp)
  simp only [st, sc] at he
  refine wpOpIn_plain ho rfl (oper_inK hF.fn (fun K hK => ?_))
  clear ho
  rw [Oper.semAt_plain Fc _ _ (by intro c h; cases h)]
  simp only [soneR_o4]
  go_simp
  exact hK _ _ ⟨_, act_putD x hdef _ _, rfl, Below.refl _ _⟩
set_option maxRecDepth 100000 in
set_option maxHeartbeats 2000000 in
theorem soneR_s5 {Fc : Fence} (hF : Wide Fc) {nC : Nat} (b b2 : Nat) (H : Nat → Bool) (Q : Exit → Act → World → Prop) (df : List Deferred) (w0 : World)
    (hS : SBox w0 b2 H) (hT : Tab w0) (hb8 : b < 256)
    (x : Act) (w : World) (hB : Below w0.heap.size w0 w) (hdef : x.defers = df) (u1 : x.tmps.getD 1 undef = .int .u8 (b : Nat)) (u2 : x.tmps.getD 2 undef = .pointer (some ⟨b2, 0, none⟩))
    (p4 : soneR_val b b2 H 4 (x.tmps.getD 9 undef) w)
    : wpOpIn Fc nC Tryd.prog soneR_ops Q 5 (fun a' w' => ∃ v, a' = x.put (some 10) v ∧ (v = .bool true) ∧ Below w.heap.size w w') x w := by
  have ho : soneR_ops[5]? = some soneR_o5 := rfl
  simp only [Array.getD_eq_getD_getElem?] at u1 u2
  have q4 : x.tmps.getD 9 undef = .bool true := p4
  simp only [Array.getD_eq_getD_getElem?] at q4
  refine wpOpIn_plain ho rfl (oper_inK hF.fn (fun K hK => ?_))
  clear ho
  rw [Oper.semAt_plain Fc _ _ (by intro c h; cases h)]
  simp only [soneR_o5]
  go_simp
  exact hK _ _ ⟨_, act_putD x hdef _ _, rfl, Below.refl _ _⟩
set_option maxRecDepth 100000 in
set_option maxHeartbeats 2000000 in
theorem soneR_s6 {Fc : Fence} (hF : Wide Fc) {nC : Nat} (b b2 : Nat) (H : Nat → Bool) (Q : Exit → Act → World → Prop) (df : List Deferred) (w0 : World)
    (hS : SBox w0 b2 H) (hT : Tab w0) (hb8 : b < 256)
    (x : Act) (w : World) (hB : Below w0.heap.size w0 w) (hdef : x.defers = df) (u1 : x.tmps.getD 1 undef = .int .u8 (b : Nat)) (u2 : x.tmps.getD 2 undef = .pointer (some ⟨b2, 0, none⟩))
    (p5 : soneR_val b b2 H 5 (x.tmps.getD 10 undef) w)
    : wpOpIn Fc nC Tryd.prog soneR_ops Q 6 (fun a' w' => ∃ v, a' = x.put (some 11) v ∧ (v = sv H) ∧ Below w.heap.size w w') x w := by
  have ho : soneR_ops[6]? = some soneR_o6 := rfl
  simp only [Array.getD_eq_getD_getElem?] at u1 u2
  have q5 : x.tmps.getD 10 undef = .bool true := p5
  simp only [Array.getD_eq_getD_getElem?] at q5
  have e5 : (soneR_ops[5]?.bind fun x => x.dst) = some 10 := rfl
  have g5 := get_someT q5 (fun h => by cases h)
  have hsb := hS.below hB hS.lt
  have c0 := hsb.cell 0 (by omega)
  have c1 := hsb.cell 1 (by omega)
  have c2 := hsb.cell 2 (by omega)
  have c3 := hsb.cell 3 (by omega)
  refine wpOpIn_stepT hF ho (fun K hK => ?_)
  clear ho
  rw [Oper.semAt_plain Fc _ _ (by intro c h; cases h)]
  simp only [soneR_o6]
  go_simp
  exact hK _ _ ⟨_, act_putD x hdef _ _, rfl, Below.refl _ _⟩
set_option maxRecDepth 100000 in
set_option maxHeartbeats 2000000 in
theorem soneR_s7 {Fc : Fence} (hF : Wide Fc) {nC : Nat} (b b2 : Nat) (H : Nat → Bool) (Q : Exit → Act → World → Prop) (df : List Deferred) (w0 : World)
    (hS : SBox w0 b2 H) (hT : Tab w0) (hb8 : b < 256)
    (x : Act) (w : World) (hB : Below w0.heap.size w0 w) (hdef : x.defers = df) (u1 : x.tmps.getD 1 undef = .int .u8 (b : Nat)) (u2 : x.tmps.getD 2 undef = .pointer (some ⟨b2, 0, none⟩))
    (p6 : soneR_val b b2 H 6 (x.tmps.getD 11 undef) w)
    (p5 : soneR_val b b2 H 5 (x.tmps.getD 10 undef) w)
    : wpOpIn Fc nC Tryd.prog soneR_ops Q 7 (fun a' w' => ∃ v, a' = x.put (some 12) v ∧ (v = sv (fold H)) ∧ Below w.heap.size w w') x w := by
  have ho : soneR_ops[7]? = some soneR_o7 := rfl
  simp only [Array.getD_eq_getD_getElem?] at u1 u2
  have q6 : x.tmps.getD 11 undef = sv H := p6
  have q5 : x.tmps.getD 10 undef = .bool true := p5
  simp only [Array.getD_eq_getD_getElem?] at q6 q5
  have e5 : (soneR_ops[5]?.bind fun x => x.dst) = some 10 := rfl
  have g5 := get_someT q5 (fun h => by cases h)
  refine wpOpIn_stepT hF ho (fun K hK => ?_)
  clear ho
  rw [Oper.semAt_plain Fc _ _ (by intro c h; cases h)]
  simp only [soneR_o7]
  go_simp
  refine ⟨hF.deep, (hF.call (fold_any H w (hT.below hB))).mono ?_⟩
  rintro e w' ⟨rfl, hb⟩
  exact hK _ _ ⟨_, act_putD x hdef _ _, rfl, hb⟩
set_option maxRecDepth 100000 in
set_option maxHeartbeats 2000000 in
theorem soneR_s8 {Fc : Fence} (hF : Wide Fc) {nC : Nat} (b b2 : Nat) (H : Nat → Bool) (Q : Exit → Act → World → Prop) (df : List Deferred) (w0 : World)
    (hS : SBox w0 b2 H) (hT : Tab w0) (hb8 : b < 256)
    (x : Act) (w : World) (hB : Below w0.heap.size w0 w) (hdef : x.defers = df) (u1 : x.tmps.getD 1 undef = .int .u8 (b : Nat)) (u2 : x.tmps.getD 2 undef = .pointer (some ⟨b2, 0, none⟩))
    (p5 : soneR_val b b2 H 5 (x.tmps.getD 10 undef) w)
    : wpOpIn Fc nC Tryd.prog soneR_ops Q 8 (fun a' w' => ∃ v, a' = x.put (some 13) v ∧ (v = sv H) ∧ Below w.heap.size w w') x w := by
  have ho : soneR_ops[8]? = some soneR_o8 := rfl
  simp only [Array.getD_eq_getD_getElem?] at u1 u2
  have q5 : x.tmps.getD 10 undef = .bool true := p5
  simp only [Array.getD_eq_getD_getElem?] at q5
  have e5 : (soneR_ops[5]?.bind fun x => x.dst) = some 10 := rfl
  have g5 := get_someT q5 (fun h => by cases h)
  have hsb := hS.below hB hS.lt
  have c0 := hsb.cell 0 (by omega)
  have c1 := hsb.cell 1 (by omega)
  have c2 := hsb.cell 2 (by omega)
  have c3 := hsb.cell 3 (by omega)
  refine wpOpIn_stepT hF ho (fun K hK => ?_)
  clear ho
  rw [Oper.semAt_plain Fc _ _ (by intro c h; cases h)]
  simp only [soneR_o8]
  go_simp
  exact hK _ _ ⟨_, act_putD x hdef _ _, rfl, Below.refl _ _⟩
set_option maxRecDepth 100000 in
set_option maxHeartbeats 2000000 in
theorem soneR_s9 {Fc : Fence} (hF : Wide Fc) {nC : Nat} (b b2 : Nat) (H : Nat → Bool) (Q : Exit → Act → World → Prop) (df : List Deferred) (w0 : World)
    (hS : SBox w0 b2 H) (hT : Tab w0) (hb8 : b < 256)
    (x : Act) (w : World) (hB : Below w0.heap.size w0 w) (hdef : x.defers = df) (u1 : x.tmps.getD 1 undef = .int .u8 (b : Nat)) (u2 : x.tmps.getD 2 undef = .pointer (some ⟨b2, 0, none⟩))
    (p8 : soneR_val b b2 H 8 (x.tmps.getD 13 undef) w)
    (p5 : soneR_val b b2 H 5 (x.tmps.getD 10 undef) w)
    : wpOpIn Fc nC Tryd.prog soneR_ops Q 9 (fun a' w' => ∃ v, a' = x.put (some 14) v ∧ (v = sv (fold H)) ∧ Below w.heap.size w w') x w := by
  have ho : soneR_ops[9]? = some soneR_o9 := rfl
  simp only [Array.getD_eq_getD_getElem?] at u1 u2
  have q8 : x.tmps.getD 13 undef = sv H := p8
  have q5 : x.tmps.getD 10 undef = .bool true := p5
  simp only [Array.getD_eq_getD_getElem?] at q8 q5
  have e5 : (soneR_ops[5]?.bind fun x => x.dst) = some 10 := rfl
  have g5 := get_someT q5 (fun h => by cases h)
  refine wpOpIn_stepT hF ho (fun K hK => ?_)
  clear ho
  rw [Oper.semAt_plain Fc _ _ (by intro c h; cases h)]
  simp only [soneR_o9]
  go_simp
  refine ⟨hF.deep, (hF.call (refFold_any H w)).mono ?_⟩
  rintro e w' ⟨rfl, hb⟩
  exact hK _ _ ⟨_, act_putD x hdef _ _, rfl, hb⟩
set_option maxRecDepth 100000 in
set_option maxHeartbeats 2000000 in
theorem soneR_s10 {Fc : Fence} (hF : Wide Fc) {nC : Nat} (b b2 : Nat) (H : Nat → Bool) (Q : Exit → Act → World → Prop) (df : List Deferred) (w0 : World)
    (hS : SBox w0 b2 H) (hT : Tab w0) (hb8 : b < 256)
    (x : Act) (w : World) (hB : Below w0.heap.size w0 w) (hdef : x.defers = df) (u1 : x.tmps.getD 1 undef = .int .u8 (b : Nat)) (u2 : x.tmps.getD 2 undef = .pointer (some ⟨b2, 0, none⟩))
    (p7 : soneR_val b b2 H 7 (x.tmps.getD 12 undef) w)
    (p9 : soneR_val b b2 H 9 (x.tmps.getD 14 undef) w)
    (p5 : soneR_val b b2 H 5 (x.tmps.getD 10 undef) w)
    : wpOpIn Fc nC Tryd.prog soneR_ops Q 10 (fun a' w' => ∃ v, a' = x.put (some 15) v ∧ (v = .bool true) ∧ Below w.heap.size w w') x w := by
  have ho : soneR_ops[10]? = some soneR_o10 := rfl
  simp only [Array.getD_eq_getD_getElem?] at u1 u2
  have q7 : x.tmps.getD 12 undef = sv (fold H) := p7
  have q9 : x.tmps.getD 14 undef = sv (fold H) := p9
  have q5 : x.tmps.getD 10 undef = .bool true := p5
  simp only [Array.getD_eq_getD_getElem?] at q7 q9 q5
  have e5 : (soneR_ops[5]?.bind fun x => x.dst) = some 10 := rfl
  have g5 := get_someT q5 (fun h => by cases h)
  simp only [sv, st, sc] at q7 q9
  have he := fun W => eqSt (fold H) (fold H) W true (by simp)
  simp only [st, sc] at he
  refine wpOpIn_stepT hF ho (fun K hK => ?_)
  clear ho
  rw [Oper.semAt_plain Fc _ _ (by intro c h; cases h)]
  simp only [soneR_o10]
  go_simp
  exact hK _ _ ⟨_, act_putD x hdef _ _, rfl, Below.refl _ _⟩
set_option maxRecDepth 100000 in
set_option maxHeartbeats 2000000 in
theorem soneR_s11 {Fc : Fence} (hF : Wide Fc) {nC : Nat} (b b2 : Nat) (H : Nat → Bool) (Q : Exit → Act → World → Prop) (df : List Deferred) (w0 : World)
    (hS : SBox w0 b2 H) (hT : Tab w0) (hb8 : b < 256)
    (x : Act) (w : World) (hB : Below w0.heap.size w0 w) (hdef : x.defers = df) (u1 : x.tmps.getD 1 undef = .int .u8 (b : Nat)) (u2 : x.tmps.getD 2 undef = .pointer (some ⟨b2, 0, none⟩))
    (p5 : soneR_val b b2 H 5 (x.tmps.getD 10 undef) w)
    (p10 : soneR_val b b2 H 10 (x.tmps.getD 15 undef) w)
    : wpOpIn Fc nC Tryd.prog soneR_ops Q 11 (fun a' w' => ∃ v, a' = x.put (some 16) v ∧ (v = .bool true) ∧ Below w.heap.size w w') x w := by
  have ho : soneR_ops[11]? = some soneR_o11 := rfl
  simp only [Array.getD_eq_getD_getElem?] at u1 u2
  have q5 : x.tmps.getD 10 undef = .bool true := p5
  have q10 : x.tmps.getD 15 undef = .bool true := p10
  simp only [Array.getD_eq_getD_getElem?] at q5 q10
  refine wpOpIn_plain ho rfl (oper_inK hF.fn (fun K hK => ?_))
  clear ho
  rw [Oper.semAt_plain Fc _ _ (by intro c h; cases h)]
  simp only [soneR_o11]
  go_simp
  exact hK _ _ ⟨_, act_putD x hdef _ _, rfl, Below.refl _ _⟩
set_option maxRecDepth 100000 in
set_option maxHeartbeats 2000000 in
theorem soneR_s12 {Fc : Fence} (hF : Wide Fc) {nC : Nat} (b b2 : Nat) (H : Nat → Bool) (Q : Exit → Act → World → Prop) (df : List Deferred) (w0 : World)
    (hS : SBox w0 b2 H) (hT : Tab w0) (hb8 : b < 256)
    (x : Act) (w : World) (hB : Below w0.heap.size w0 w) (hdef : x.defers = df) (u1 : x.tmps.getD 1 undef = .int .u8 (b : Nat)) (u2 : x.tmps.getD 2 undef = .pointer (some ⟨b2, 0, none⟩))
    (p11 : soneR_val b b2 H 11 (x.tmps.getD 16 undef) w)
    : wpOpIn Fc nC Tryd.prog soneR_ops Q 12 (fun a' w' => ∃ v, a' = x.put (some 17) v ∧ (v = .bool true) ∧ Below w.heap.size w w') x w := by
  have ho : soneR_ops[12]? = some soneR_o12 := rfl
  simp only [Array.getD_eq_getD_getElem?] at u1 u2
  have q11 : x.tmps.getD 16 undef = .bool true := p11
  simp only [Array.getD_eq_getD_getElem?] at q11
  refine wpOpIn_plain ho rfl (oper_inK hF.fn (fun K hK => ?_))
  clear ho
  rw [Oper.semAt_plain Fc _ _ (by intro c h; cases h)]
  simp only [soneR_o12]
  go_simp
  exact hK _ _ ⟨_, act_putD x hdef _ _, rfl, Below.refl _ _⟩
set_option maxRecDepth 100000 in
set_option maxHeartbeats 2000000 in
theorem soneR_s13 {Fc : Fence} (hF : Wide Fc) {nC : Nat} (b b2 : Nat) (H : Nat → Bool) (Q : Exit → Act → World → Prop) (df : List Deferred) (w0 : World)
    (hS : SBox w0 b2 H) (hT : Tab w0) (hb8 : b < 256)
    (x : Act) (w : World) (hB : Below w0.heap.size w0 w) (hdef : x.defers = df) (u1 : x.tmps.getD 1 undef = .int .u8 (b : Nat)) (u2 : x.tmps.getD 2 undef = .pointer (some ⟨b2, 0, none⟩))
    (p12 : soneR_val b b2 H 12 (x.tmps.getD 17 undef) w)
    : wpOpIn Fc nC Tryd.prog soneR_ops Q 13 (fun a' w' => ∃ v, a' = x.put (some 18) v ∧ (v = sv H) ∧ Below w.heap.size w w') x w := by
  have ho : soneR_ops[13]? = some soneR_o13 := rfl
  simp only [Array.getD_eq_getD_getElem?] at u1 u2
  have q12 : x.tmps.getD 17 undef = .bool true := p12
  simp only [Array.getD_eq_getD_getElem?] at q12
  have e12 : (soneR_ops[12]?.bind fun x => x.dst) = some 17 := rfl
  have g12 := get_someT q12 (fun h => by cases h)
  have hsb := hS.below hB hS.lt
  have c0 := hsb.cell 0 (by omega)
  have c1 := hsb.cell 1 (by omega)
  have c2 := hsb.cell 2 (by omega)
  have c3 := hsb.cell 3 (by omega)
  refine wpOpIn_stepT hF ho (fun K hK => ?_)
  clear ho
  rw [Oper.semAt_plain Fc _ _ (by intro c h; cases h)]
  simp only [soneR_o13]
  go_simp
  exact hK _ _ ⟨_, act_putD x hdef _ _, rfl, Below.refl _ _⟩
set_option maxRecDepth 100000 in
set_option maxHeartbeats 2000000 in
theorem soneR_s14 {Fc : Fence} (hF : Wide Fc) {nC : Nat} (b b2 : Nat) (H : Nat → Bool) (Q : Exit → Act → World → Prop) (df : List Deferred) (w0 : World)
    (hS : SBox w0 b2 H) (hT : Tab w0) (hb8 : b < 256)
    (x : Act) (w : World) (hB : Below w0.heap.size w0 w) (hdef : x.defers = df) (u1 : x.tmps.getD 1 undef = .int .u8 (b : Nat)) (u2 : x.tmps.getD 2 undef = .pointer (some ⟨b2, 0, none⟩))
    (p12 : soneR_val b b2 H 12 (x.tmps.getD 17 undef) w)
    : wpOpIn Fc nC Tryd.prog soneR_ops Q 14 (fun a' w' => ∃ v, a' = x.put (some 19) v ∧ (v = .int .u8 (b : Nat)) ∧ Below w.heap.size w w') x w := by
  have ho : soneR_ops[14]? = some soneR_o14 := rfl
  simp only [Array.getD_eq_getD_getElem?] at u1 u2
  have q12 : x.tmps.getD 17 undef = .bool true := p12
  simp only [Array.getD_eq_getD_getElem?] at q12
  have e12 : (soneR_ops[12]?.bind fun x => x.dst) = some 17 := rfl
  have g12 := get_someT q12 (fun h => by cases h)
  refine wpOpIn_stepT hF ho (fun K hK => ?_)
  clear ho
  rw [Oper.semAt_plain Fc _ _ (by intro c h; cases h)]
  simp only [soneR_o14]
  go_simp
  exact hK _ _ ⟨_, act_putD x hdef _ _, rfl, Below.refl _ _⟩
set_option maxRecDepth 100000 in
set_option maxHeartbeats 2000000 in
theorem soneR_s15 {Fc : Fence} (hF : Wide Fc) {nC : Nat} (b b2 : Nat) (H : Nat → Bool) (Q : Exit → Act → World → Prop) (df : List Deferred) (w0 : World)
    (hS : SBox w0 b2 H) (hT : Tab w0) (hb8 : b < 256)
    (x : Act) (w : World) (hB : Below w0.heap.size w0 w) (hdef : x.defers = df) (u1 : x.tmps.getD 1 undef = .int .u8 (b : Nat)) (u2 : x.tmps.getD 2 undef = .pointer (some ⟨b2, 0, none⟩))
    (p13 : soneR_val b b2 H 13 (x.tmps.getD 18 undef) w)
    (p14 : soneR_val b b2 H 14 (x.tmps.getD 19 undef) w)
    (p12 : soneR_val b b2 H 12 (x.tmps.getD 17 undef) w)
    : wpOpIn Fc nC Tryd.prog soneR_ops Q 15 (fun a' w' => ∃ v, a' = x.put (some 20) v ∧ (v = .bool (H b)) ∧ Below w.heap.size w w') x w := by
  have ho : soneR_ops[15]? = some soneR_o15 := rfl
  simp only [Array.getD_eq_getD_getElem?] at u1 u2
  have q13 : x.tmps.getD 18 undef = sv H := p13
  have q14 : x.tmps.getD 19 undef = .int .u8 (b : Nat) := p14
  have q12 : x.tmps.getD 17 undef = .bool true := p12
  simp only [Array.getD_eq_getD_getElem?] at q13 q14 q12
  have e12 : (soneR_ops[12]?.bind fun x => x.dst) = some 17 := rfl
  have g12 := get_someT q12 (fun h => by cases h)
  refine wpOpIn_stepT hF ho (fun K hK => ?_)
  clear ho
  rw [Oper.semAt_plain Fc _ _ (by intro c h; cases h)]
  simp only [soneR_o15]
  go_simp
  refine ⟨hF.deep, (hF.call (has_any H b w hb8)).mono ?_⟩
  rintro e w' ⟨rfl, hb⟩
  exact hK _ _ ⟨_, act_putD x hdef _ _, rfl, hb⟩
set_option maxRecDepth 100000 in
set_option maxHeartbeats 2000000 in
theorem soneR_s16 {Fc : Fence} (hF : Wide Fc) {nC : Nat} (b b2 : Nat) (H : Nat → Bool) (Q : Exit → Act → World → Prop) (df : List Deferred) (w0 : World)
    (hS : SBox w0 b2 H) (hT : Tab w0) (hb8 : b < 256)
    (x : Act) (w : World) (hB : Below w0.heap.size w0 w) (hdef : x.defers = df) (u1 : x.tmps.getD 1 undef = .int .u8 (b : Nat)) (u2 : x.tmps.getD 2 undef = .pointer (some ⟨b2, 0, none⟩))
    (p12 : soneR_val b b2 H 12 (x.tmps.getD 17 undef) w)
    : wpOpIn Fc nC Tryd.prog soneR_ops Q 16 (fun a' w' => ∃ v, a' = x.put (some 21) v ∧ (v = sv H) ∧ Below w.heap.size w w') x w := by
  have ho : soneR_ops[16]? = some soneR_o16 := rfl
  simp only [Array.getD_eq_getD_getElem?] at u1 u2
  have q12 : x.tmps.getD 17 undef = .bool true := p12
  simp only [Array.getD_eq_getD_getElem?] at q12
  have e12 : (soneR_ops[12]?.bind fun x => x.dst) = some 17 := rfl
  have g12 := get_someT q12 (fun h => by cases h)
  have hsb := hS.below hB hS.lt
  have c0 := hsb.cell 0 (by omega)
  have c1 := hsb.cell 1 (by omega)
  have c2 := hsb.cell 2 (by omega)
  have c3 := hsb.cell 3 (by omega)
  refine wpOpIn_stepT hF ho (fun K hK => ?_)
  clear ho
  rw [Oper.semAt_plain Fc _ _ (by intro c h; cases h)]
  simp only [soneR_o16]
  go_simp
  exact hK _ _ ⟨_, act_putD x hdef _ _, rfl, Below.refl _ _⟩
set_option maxRecDepth 100000 in
set_option maxHeartbeats 2000000 in
theorem soneR_s17 {Fc : Fence} (hF : Wide Fc) {nC : Nat} (b b2 : Nat) (H : Nat → Bool) (Q : Exit → Act → World → Prop) (df : List Deferred) (w0 : World)
    (hS : SBox w0 b2 H) (hT : Tab w0) (hb8 : b < 256)
    (x : Act) (w : World) (hB : Below w0.heap.size w0 w) (hdef : x.defers = df) (u1 : x.tmps.getD 1 undef = .int .u8 (b : Nat)) (u2 : x.tmps.getD 2 undef = .pointer (some ⟨b2, 0, none⟩))
    (p12 : soneR_val b b2 H 12 (x.tmps.getD 17 undef) w)
    : wpOpIn Fc nC Tryd.prog soneR_ops Q 17 (fun a' w' => ∃ v, a' = x.put (some 22) v ∧ (v = .int .u8 (b : Nat)) ∧ Below w.heap.size w w') x w := by
  have ho : soneR_ops[17]? = some soneR_o17 := rfl
  simp only [Array.getD_eq_getD_getElem?] at u1 u2
  have q12 : x.tmps.getD 17 undef = .bool true := p12
  simp only [Array.getD_eq_getD_getElem?] at q12
  have e12 : (soneR_ops[12]?.bind fun x => x.dst) = some 17 := rfl
  have g12 := get_someT q12 (fun h => by cases h)
  refine wpOpIn_stepT hF ho (fun K hK => ?_)
  clear ho
  rw [Oper.semAt_plain Fc _ _ (by intro c h; cases h)]
  simp only [soneR_o17]
  go_simp
  exact hK _ _ ⟨_, act_putD x hdef _ _, rfl, Below.refl _ _⟩
set_option maxRecDepth 100000 in
set_option maxHeartbeats 2000000 in
theorem soneR_s18 {Fc : Fence} (hF : Wide Fc) {nC : Nat} (b b2 : Nat) (H : Nat → Bool) (Q : Exit → Act → World → Prop) (df : List Deferred) (w0 : World)
    (hS : SBox w0 b2 H) (hT : Tab w0) (hb8 : b < 256)
    (x : Act) (w : World) (hB : Below w0.heap.size w0 w) (hdef : x.defers = df) (u1 : x.tmps.getD 1 undef = .int .u8 (b : Nat)) (u2 : x.tmps.getD 2 undef = .pointer (some ⟨b2, 0, none⟩))
    (p16 : soneR_val b b2 H 16 (x.tmps.getD 21 undef) w)
    (p17 : soneR_val b b2 H 17 (x.tmps.getD 22 undef) w)
    (p12 : soneR_val b b2 H 12 (x.tmps.getD 17 undef) w)
    : wpOpIn Fc nC Tryd.prog soneR_ops Q 18 (fun a' w' => ∃ v, a' = x.put (some 23) v ∧ (v = .bool (H b)) ∧ Below w.heap.size w w') x w := by
  have ho : soneR_ops[18]? = some soneR_o18 := rfl
  simp only [Array.getD_eq_getD_getElem?] at u1 u2
  have q16 : x.tmps.getD 21 undef = sv H := p16
  have q17 : x.tmps.getD 22 undef = .int .u8 (b : Nat) := p17
  have q12 : x.tmps.getD 17 undef = .bool true := p12
  simp only [Array.getD_eq_getD_getElem?] at q16 q17 q12
  have e12 : (soneR_ops[12]?.bind fun x => x.dst) = some 17 := rfl
  have g12 := get_someT q12 (fun h => by cases h)
  refine wpOpIn_stepT hF ho (fun K hK => ?_)
  clear ho
  rw [Oper.semAt_plain Fc _ _ (by intro c h; cases h)]
  simp only [soneR_o18]
  go_simp
  refine ⟨hF.deep, (hF.call (refHas_any H b w hb8)).mono ?_⟩
  rintro e w' ⟨rfl, hb⟩
  exact hK _ _ ⟨_, act_putD x hdef _ _, rfl, hb⟩
set_option maxRecDepth 100000 in
set_option maxHeartbeats 2000000 in
theorem soneR_s19 {Fc : Fence} (hF : Wide Fc) {nC : Nat} (b b2 : Nat) (H : Nat → Bool) (Q : Exit → Act → World → Prop) (df : List Deferred) (w0 : World)
    (hS : SBox w0 b2 H) (hT : Tab w0) (hb8 : b < 256)
    (x : Act) (w : World) (hB : Below w0.heap.size w0 w) (hdef : x.defers = df) (u1 : x.tmps.getD 1 undef = .int .u8 (b : Nat)) (u2 : x.tmps.getD 2 undef = .pointer (some ⟨b2, 0, none⟩))
    (p15 : soneR_val b b2 H 15 (x.tmps.getD 20 undef) w)
    (p18 : soneR_val b b2 H 18 (x.tmps.getD 23 undef) w)
    (p12 : soneR_val b b2 H 12 (x.tmps.getD 17 undef) w)
    : wpOpIn Fc nC Tryd.prog soneR_ops Q 19 (fun a' w' => ∃ v, a' = x.put (some 24) v ∧ (v = .bool true) ∧ Below w.heap.size w w') x w := by
  have ho : soneR_ops[19]? = some soneR_o19 := rfl
  simp only [Array.getD_eq_getD_getElem?] at u1 u2
  have q15 : x.tmps.getD 20 undef = .bool (H b) := p15
  have q18 : x.tmps.getD 23 undef = .bool (H b) := p18
  have q12 : x.tmps.getD 17 undef = .bool true := p12
  simp only [Array.getD_eq_getD_getElem?] at q15 q18 q12
  have e12 : (soneR_ops[12]?.bind fun x => x.dst) = some 17 := rfl
  have g12 := get_someT q12 (fun h => by cases h)
  refine wpOpIn_stepT hF ho (fun K hK => ?_)
  clear ho
  rw [Oper.semAt_plain Fc _ _ (by intro c h; cases h)]
  simp only [soneR_o19]
  go_simp
  exact hK _ _ ⟨_, act_putD x hdef _ _, rfl, Below.refl _ _⟩
set_option maxRecDepth 100000 in
set_option maxHeartbeats 2000000 in
theorem soneR_s20 {Fc : Fence} (hF : Wide Fc) {nC : Nat} (b b2 : Nat) (H : Nat → Bool) (Q : Exit → Act → World → Prop) (df : List Deferred) (w0 : World)
    (hS : SBox w0 b2 H) (hT : Tab w0) (hb8 : b < 256)
    (x : Act) (w : World) (hB : Below w0.heap.size w0 w) (hdef : x.defers = df) (u1 : x.tmps.getD 1 undef = .int .u8 (b : Nat)) (u2 : x.tmps.getD 2 undef = .pointer (some ⟨b2, 0, none⟩))
    (p12 : soneR_val b b2 H 12 (x.tmps.getD 17 undef) w)
    (p19 : soneR_val b b2 H 19 (x.tmps.getD 24 undef) w)
    : wpOpIn Fc nC Tryd.prog soneR_ops Q 20 (fun a' w' => ∃ v, a' = x.put (some 25) v ∧ (v = .bool true) ∧ Below w.heap.size w w') x w := by
  have ho : soneR_ops[20]? = some soneR_o20 := rfl
  simp only [Array.getD_eq_getD_getElem?] at u1 u2
  have q12 : x.tmps.getD 17 undef = .bool true := p12
  have q19 : x.tmps.getD 24 undef = .bool true := p19
  simp only [Array.getD_eq_getD_getElem?] at q12 q19
  refine wpOpIn_plain ho rfl (oper_inK hF.fn (fun K hK => ?_))
  clear ho
  rw [Oper.semAt_plain Fc _ _ (by intro c h; cases h)]
  simp only [soneR_o20]
  go_simp
  exact hK _ _ ⟨_, act_putD x hdef _ _, rfl, Below.refl _ _⟩
set_option maxRecDepth 100000 in
set_option maxHeartbeats 2000000 in
theorem soneR_s21 {Fc : Fence} (hF : Wide Fc) {nC : Nat} (b b2 : Nat) (H : Nat → Bool) (Q : Exit → Act → World → Prop) (df : List Deferred) (w0 : World)
    (hS : SBox w0 b2 H) (hT : Tab w0) (hb8 : b < 256)
    (x : Act) (w : World) (hB : Below w0.heap.size w0 w) (hdef : x.defers = df) (u1 : x.tmps.getD 1 undef = .int .u8 (b : Nat)) (u2 : x.tmps.getD 2 undef = .pointer (some ⟨b2, 0, none⟩))
    (p20 : soneR_val b b2 H 20 (x.tmps.getD 25 undef) w)
    : wpOpIn Fc nC Tryd.prog soneR_ops Q 21 (fun a' w' => ∃ v, a' = x.put (some 26) v ∧ (v = .bool true) ∧ Below w.heap.size w w') x w := by
  have ho : soneR_ops[21]? = some soneR_o21 := rfl
  simp only [Array.getD_eq_getD_getElem?] at u1 u2
  have q20 : x.tmps.getD 25 undef = .bool true := p20
  simp only [Array.getD_eq_getD_getElem?] at q20
  refine wpOpIn_plain ho rfl (oper_inK hF.fn (fun K hK => ?_))
  clear ho
  rw [Oper.semAt_plain Fc _ _ (by intro c h; cases h)]
  simp only [soneR_o21]
  go_simp
  exact hK _ _ ⟨_, act_putD x hdef _ _, rfl, Below.refl _ _⟩
set_option maxRecDepth 100000 in
set_option maxHeartbeats 2000000 in
theorem soneR_s22 {Fc : Fence} (hF : Wide Fc) {nC : Nat} (b b2 : Nat) (H : Nat → Bool) (Q : Exit → Act → World → Prop) (df : List Deferred) (w0 : World)
    (hS : SBox w0 b2 H) (hT : Tab w0) (hb8 : b < 256)
    (x : Act) (w : World) (hB : Below w0.heap.size w0 w) (hdef : x.defers = df) (u1 : x.tmps.getD 1 undef = .int .u8 (b : Nat)) (u2 : x.tmps.getD 2 undef = .pointer (some ⟨b2, 0, none⟩))
    (p21 : soneR_val b b2 H 21 (x.tmps.getD 26 undef) w)
    : wpOpIn Fc nC Tryd.prog soneR_ops Q 22 (fun a' w' => ∃ v, a' = x.put (some 27) v ∧ (v = sv H) ∧ Below w.heap.size w w') x w := by
  have ho : soneR_ops[22]? = some soneR_o22 := rfl
  simp only [Array.getD_eq_getD_getElem?] at u1 u2
  have q21 : x.tmps.getD 26 undef = .bool true := p21
  simp only [Array.getD_eq_getD_getElem?] at q21
  have e21 : (soneR_ops[21]?.bind fun x => x.dst) = some 26 := rfl
  have g21 := get_someT q21 (fun h => by cases h)
  have hsb := hS.below hB hS.lt
  have c0 := hsb.cell 0 (by omega)
  have c1 := hsb.cell 1 (by omega)
  have c2 := hsb.cell 2 (by omega)
  have c3 := hsb.cell 3 (by omega)
  refine wpOpIn_stepT hF ho (fun K hK => ?_)
  clear ho
  rw [Oper.semAt_plain Fc _ _ (by intro c h; cases h)]
  simp only [soneR_o22]
  go_simp
  exact hK _ _ ⟨_, act_putD x hdef _ _, rfl, Below.refl _ _⟩
set_option maxRecDepth 100000 in
set_option maxHeartbeats 2000000 in
theorem soneR_s23 {Fc : Fence} (hF : Wide Fc) {nC : Nat} (b b2 : Nat) (H : Nat → Bool) (Q : Exit → Act → World → Prop) (df : List Deferred) (w0 : World)
    (hS : SBox w0 b2 H) (hT : Tab w0) (hb8 : b < 256)
    (x : Act) (w : World) (hB : Below w0.heap.size w0 w) (hdef : x.defers = df) (u1 : x.tmps.getD 1 undef = .int .u8 (b : Nat)) (u2 : x.tmps.getD 2 undef = .pointer (some ⟨b2, 0, none⟩))
    (p22 : soneR_val b b2 H 22 (x.tmps.getD 27 undef) w)
    (p21 : soneR_val b b2 H 21 (x.tmps.getD 26 undef) w)
    : wpOpIn Fc nC Tryd.prog soneR_ops Q 23 (fun a' w' => ∃ v, a' = x.put (some 28) v ∧ (v = .int .i64 ((bl H 256).length : Nat)) ∧ Below w.heap.size w w') x w := by
  have ho : soneR_ops[23]? = some soneR_o23 := rfl
  simp only [Array.getD_eq_getD_getElem?] at u1 u2
  have q22 : x.tmps.getD 27 undef = sv H := p22
  have q21 : x.tmps.getD 26 undef = .bool true := p21
  simp only [Array.getD_eq_getD_getElem?] at q22 q21
  have e21 : (soneR_ops[21]?.bind fun x => x.dst) = some 26 := rfl
  have g21 := get_someT q21 (fun h => by cases h)
  refine wpOpIn_stepT hF ho (fun K hK => ?_)
  clear ho
  rw [Oper.semAt_plain Fc _ _ (by intro c h; cases h)]
  simp only [soneR_o23]
  go_simp
  refine ⟨hF.deep, (hF.call (count_any H w)).mono ?_⟩
  rintro e w' ⟨rfl, hb⟩
  exact hK _ _ ⟨_, act_putD x hdef _ _, rfl, hb⟩
set_option maxRecDepth 100000 in
set_option maxHeartbeats 2000000 in
theorem soneR_s24 {Fc : Fence} (hF : Wide Fc) {nC : Nat} (b b2 : Nat) (H : Nat → Bool) (Q : Exit → Act → World → Prop) (df : List Deferred) (w0 : World)
    (hS : SBox w0 b2 H) (hT : Tab w0) (hb8 : b < 256)
    (x : Act) (w : World) (hB : Below w0.heap.size w0 w) (hdef : x.defers = df) (u1 : x.tmps.getD 1 undef = .int .u8 (b : Nat)) (u2 : x.tmps.getD 2 undef = .pointer (some ⟨b2, 0, none⟩))
    (p21 : soneR_val b b2 H 21 (x.tmps.getD 26 undef) w)
    : wpOpIn Fc nC Tryd.prog soneR_ops Q 24 (fun a' w' => ∃ v, a' = x.put (some 29) v ∧ (v = sv H) ∧ Below w.heap.size w w') x w := by
  have ho : soneR_ops[24]? = some soneR_o24 := rfl
  simp only [Array.getD_eq_getD_getElem?] at u1 u2
  have q21 : x.tmps.getD 26 undef = .bool true := p21
  simp only [Array.getD_eq_getD_getElem?] at q21
  have e21 : (soneR_ops[21]?.bind fun x => x.dst) = some 26 := rfl
  have g21 := get_someT q21 (fun h => by cases h)
  have hsb := hS.below hB hS.lt
  have c0 := hsb.cell 0 (by omega)
  have c1 := hsb.cell 1 (by omega)
  have c2 := hsb.cell 2 (by omega)
  have c3 := hsb.cell 3 (by omega)
  refine wpOpIn_stepT hF ho (fun K hK => ?_)
  clear ho
  rw [Oper.semAt_plain Fc _ _ (by intro c h; cases h)]
  simp only [soneR_o24]
  go_simp
  exact hK _ _ ⟨_, act_putD x hdef _ _, rfl, Below.refl _ _⟩
set_option maxRecDepth 100000 in
set_option maxHeartbeats 2000000 in
theorem soneR_s25 {Fc : Fence} (hF : Wide Fc) {nC : Nat} (b b2 : Nat) (H : Nat → Bool) (Q : Exit → Act → World → Prop) (df : List Deferred) (w0 : World)
    (hS : SBox w0 b2 H) (hT : Tab w0) (hb8 : b < 256)
    (x : Act) (w : World) (hB : Below w0.heap.size w0 w) (hdef : x.defers = df) (u1 : x.tmps.getD 1 undef = .int .u8 (b : Nat)) (u2 : x.tmps.getD 2 undef = .pointer (some ⟨b2, 0, none⟩))
    (p24 : soneR_val b b2 H 24 (x.tmps.getD 29 undef) w)
    (p21 : soneR_val b b2 H 21 (x.tmps.getD 26 undef) w)
    : wpOpIn Fc nC Tryd.prog soneR_ops Q 25 (fun a' w' => ∃ v, a' = x.put (some 30) v ∧ (v = .int .i64 ((bl H 256).length : Nat)) ∧ Below w.heap.size w w') x w := by
  have ho : soneR_ops[25]? = some soneR_o25 := rfl
  simp only [Array.getD_eq_getD_getElem?] at u1 u2
  have q24 : x.tmps.getD 29 undef = sv H := p24
  have q21 : x.tmps.getD 26 undef = .bool true := p21
  simp only [Array.getD_eq_getD_getElem?] at q24 q21
  have e21 : (soneR_ops[21]?.bind fun x => x.dst) = some 26 := rfl
  have g21 := get_someT q21 (fun h => by cases h)
  refine wpOpIn_stepT hF ho (fun K hK => ?_)
  clear ho
  rw [Oper.semAt_plain Fc _ _ (by intro c h; cases h)]
  simp only [soneR_o25]
  go_simp
  refine ⟨hF.deep, (hF.call (refCount_any H w)).mono ?_⟩
  rintro e w' ⟨rfl, hb⟩
  exact hK _ _ ⟨_, act_putD x hdef _ _, rfl, hb⟩
set_option maxRecDepth 100000 in
set_option maxHeartbeats 2000000 in
theorem soneR_s26 {Fc : Fence} (hF : Wide Fc) {nC : Nat} (b b2 : Nat) (H : Nat → Bool) (Q : Exit → Act → World → Prop) (df : List Deferred) (w0 : World)
    (hS : SBox w0 b2 H) (hT : Tab w0) (hb8 : b < 256)
    (x : Act) (w : World) (hB : Below w0.heap.size w0 w) (hdef : x.defers = df) (u1 : x.tmps.getD 1 undef = .int .u8 (b : Nat)) (u2 : x.tmps.getD 2 undef = .pointer (some ⟨b2, 0, none⟩))
    (p23 : soneR_val b b2 H 23 (x.tmps.getD 28 undef) w)
    (p25 : soneR_val b b2 H 25 (x.tmps.getD 30 undef) w)
    (p21 : soneR_val b b2 H 21 (x.tmps.getD 26 undef) w)
    : wpOpIn Fc nC Tryd.prog soneR_ops Q 26 (fun a' w' => ∃ v, a' = x.put (some 31) v ∧ (v = .bool true) ∧ Below w.heap.size w w') x w := by
  have ho : soneR_ops[26]? = some soneR_o26 := rfl
  simp only [Array.getD_eq_getD_getElem?] at u1 u2
  have q23 : x.tmps.getD 28 undef = .int .i64 ((bl H 256).length : Nat) := p23
  have q25 : x.tmps.getD 30 undef = .int .i64 ((bl H 256).length : Nat) := p25
  have q21 : x.tmps.getD 26 undef = .bool true := p21
  simp only [Array.getD_eq_getD_getElem?] at q23 q25 q21
  have e21 : (soneR_ops[21]?.bind fun x => x.dst) = some 26 := rfl
  have g21 := get_someT q21 (fun h => by cases h)
  refine wpOpIn_stepT hF ho (fun K hK => ?_)
  clear ho
  rw [Oper.semAt_plain Fc _ _ (by intro c h; cases h)]
  simp only [soneR_o26]
  go_simp
  exact hK _ _ ⟨_, act_putD x hdef _ _, rfl, Below.refl _ _⟩
set_option maxRecDepth 100000 in
set_option maxHeartbeats 2000000 in
theorem soneR_s27 {Fc : Fence} (hF : Wide Fc) {nC : Nat} (b b2 : Nat) (H : Nat → Bool) (Q : Exit → Act → World → Prop) (df : List Deferred) (w0 : World)
    (hS : SBox w0 b2 H) (hT : Tab w0) (hb8 : b < 256)
    (x : Act) (w : World) (hB : Below w0.heap.size w0 w) (hdef : x.defers = df) (u1 : x.tmps.getD 1 undef = .int .u8 (b : Nat)) (u2 : x.tmps.getD 2 undef = .pointer (some ⟨b2, 0, none⟩))
    (p21 : soneR_val b b2 H 21 (x.tmps.getD 26 undef) w)
    (p26 : soneR_val b b2 H 26 (x.tmps.getD 31 undef) w)
    : wpOpIn Fc nC Tryd.prog soneR_ops Q 27 (fun a' w' => ∃ v, a' = x.put (some 32) v ∧ (v = .bool true) ∧ Below w.heap.size w w') x w := by
  have ho : soneR_ops[27]? = some soneR_o27 := rfl
  simp only [Array.getD_eq_getD_getElem?] at u1 u2
  have q21 : x.tmps.getD 26 undef = .bool true := p21
  have q26 : x.tmps.getD 31 undef = .bool true := p26
  simp only [Array.getD_eq_getD_getElem?] at q21 q26
  refine wpOpIn_plain ho rfl (oper_inK hF.fn (fun K hK => ?_))
  clear ho
  rw [Oper.semAt_plain Fc _ _ (by intro c h; cases h)]
  simp only [soneR_o27]
  go_simp
  exact hK _ _ ⟨_, act_putD x hdef _ _, rfl, Below.refl _ _⟩
set_option maxRecDepth 100000 in
set_option maxHeartbeats 2000000 in
theorem soneR_s28 {Fc : Fence} (hF : Wide Fc) {nC : Nat} (b b2 : Nat) (H : Nat → Bool) (Q : Exit → Act → World → Prop) (df : List Deferred) (w0 : World)
    (hS : SBox w0 b2 H) (hT : Tab w0) (hb8 : b < 256)
    (x : Act) (w : World) (hB : Below w0.heap.size w0 w) (hdef : x.defers = df) (u1 : x.tmps.getD 1 undef = .int .u8 (b : Nat)) (u2 : x.tmps.getD 2 undef = .pointer (some ⟨b2, 0, none⟩))
    (p27 : soneR_val b b2 H 27 (x.tmps.getD 32 undef) w)
    : wpOpIn Fc nC Tryd.prog soneR_ops Q 28 (fun a' w' => ∃ v, a' = x.put (some 33) v ∧ (v = .bool true) ∧ Below w.heap.size w w') x w := by
  have ho : soneR_ops[28]? = some soneR_o28 := rfl
  simp only [Array.getD_eq_getD_getElem?] at u1 u2
  have q27 : x.tmps.getD 32 undef = .bool true := p27
  simp only [Array.getD_eq_getD_getElem?] at q27
  refine wpOpIn_plain ho rfl (oper_inK hF.fn (fun K hK => ?_))
  clear ho
  rw [Oper.semAt_plain Fc _ _ (by intro c h; cases h)]
  simp only [soneR_o28]
  go_simp
  exact hK _ _ ⟨_, act_putD x hdef _ _, rfl, Below.refl _ _⟩
set_option maxRecDepth 100000 in
set_option maxHeartbeats 2000000 in
theorem soneR_s29 {Fc : Fence} (hF : Wide Fc) {nC : Nat} (b b2 : Nat) (H : Nat → Bool) (Q : Exit → Act → World → Prop) (df : List Deferred) (w0 : World)
    (hS : SBox w0 b2 H) (hT : Tab w0) (hb8 : b < 256)
    (x : Act) (w : World) (hB : Below w0.heap.size w0 w) (hdef : x.defers = df) (u1 : x.tmps.getD 1 undef = .int .u8 (b : Nat)) (u2 : x.tmps.getD 2 undef = .pointer (some ⟨b2, 0, none⟩))
    (p28 : soneR_val b b2 H 28 (x.tmps.getD 33 undef) w)
    : wpOpIn Fc nC Tryd.prog soneR_ops Q 29 (fun a' w' => ∃ v, a' = x.put (some 34) v ∧ (v = sv H) ∧ Below w.heap.size w w') x w := by
  have ho : soneR_ops[29]? = some soneR_o29 := rfl
  simp only [Array.getD_eq_getD_getElem?] at u1 u2
  have q28 : x.tmps.getD 33 undef = .bool true := p28
  simp only [Array.getD_eq_getD_getElem?] at q28
  have e28 : (soneR_ops[28]?.bind fun x => x.dst) = some 33 := rfl
  have g28 := get_someT q28 (fun h => by cases h)
  have hsb := hS.below hB hS.lt
  have c0 := hsb.cell 0 (by omega)
  have c1 := hsb.cell 1 (by omega)
  have c2 := hsb.cell 2 (by omega)
  have c3 := hsb.cell 3 (by omega)
  refine wpOpIn_stepT hF ho (fun K hK => ?_)
  clear ho
  rw [Oper.semAt_plain Fc _ _ (by intro c h; cases h)]
  simp only [soneR_o29]
  go_simp
  exact hK _ _ ⟨_, act_putD x hdef _ _, rfl, Below.refl _ _⟩
set_option maxRecDepth 100000 in
set_option maxHeartbeats 2000000 in
theorem soneR_s30 {Fc : Fence} (hF : Wide Fc) {nC : Nat} (b b2 : Nat) (H : Nat → Bool) (Q : Exit → Act → World → Prop) (df : List Deferred) (w0 : World)
    (hS : SBox w0 b2 H) (hT : Tab w0) (hb8 : b < 256)
    (x : Act) (w : World) (hB : Below w0.heap.size w0 w) (hdef : x.defers = df) (u1 : x.tmps.getD 1 undef = .int .u8 (b : Nat)) (u2 : x.tmps.getD 2 undef = .pointer (some ⟨b2, 0, none⟩))
    (p29 : soneR_val b b2 H 29 (x.tmps.getD 34 undef) w)
    (p28 : soneR_val b b2 H 28 (x.tmps.getD 33 undef) w)
    : wpOpIn Fc nC Tryd.prog soneR_ops Q 30 (fun a' w' => ∃ v, a' = x.put (some 35) v ∧ (∃ A C, v = .slice A (bl H 256).length C ∧ w'.ownsRow 0 5 1 (.slice A (bl H 256).length C) (bl H 256).length (lc (bl H 256))) ∧ Below w.heap.size w w') x w := by
  have ho : soneR_ops[30]? = some soneR_o30 := rfl
  simp only [Array.getD_eq_getD_getElem?] at u1 u2
  have q29 : x.tmps.getD 34 undef = sv H := p29
  have q28 : x.tmps.getD 33 undef = .bool true := p28
  simp only [Array.getD_eq_getD_getElem?] at q29 q28
  have e28 : (soneR_ops[28]?.bind fun x => x.dst) = some 33 := rfl
  have g28 := get_someT q28 (fun h => by cases h)
  refine wpOpIn_stepT hF ho (fun K hK => ?_)
  clear ho
  rw [Oper.semAt_plain Fc _ _ (by intro c h; cases h)]
  simp only [soneR_o30]
  go_simp
  refine ⟨hF.deep, (hF.call (bytes_any H w (hT.below hB))).mono ?_⟩
  rintro e w' ⟨v, rfl, ho, hb⟩
  obtain ⟨A, C, rfl⟩ := owns_slice ho
  exact hK _ _ ⟨_, act_putD x hdef _ _, ⟨A, C, rfl, owns_lower ho (Nat.zero_le _)⟩, hb⟩
set_option maxRecDepth 100000 in
set_option maxHeartbeats 2000000 in
theorem soneR_s31 {Fc : Fence} (hF : Wide Fc) {nC : Nat} (b b2 : Nat) (H : Nat → Bool) (Q : Exit → Act → World → Prop) (df : List Deferred) (w0 : World)
    (hS : SBox w0 b2 H) (hT : Tab w0) (hb8 : b < 256)
    (x : Act) (w : World) (hB : Below w0.heap.size w0 w) (hdef : x.defers = df) (u1 : x.tmps.getD 1 undef = .int .u8 (b : Nat)) (u2 : x.tmps.getD 2 undef = .pointer (some ⟨b2, 0, none⟩))
    (p28 : soneR_val b b2 H 28 (x.tmps.getD 33 undef) w)
    : wpOpIn Fc nC Tryd.prog soneR_ops Q 31 (fun a' w' => ∃ v, a' = x.put (some 36) v ∧ (v = sv H) ∧ Below w.heap.size w w') x w := by
  have ho : soneR_ops[31]? = some soneR_o31 := rfl
  simp only [Array.getD_eq_getD_getElem?] at u1 u2
  have q28 : x.tmps.getD 33 undef = .bool true := p28
  simp only [Array.getD_eq_getD_getElem?] at q28
  have e28 : (soneR_ops[28]?.bind fun x => x.dst) = some 33 := rfl
  have g28 := get_someT q28 (fun h => by cases h)
  have hsb := hS.below hB hS.lt
  have c0 := hsb.cell 0 (by omega)
  have c1 := hsb.cell 1 (by omega)
  have c2 := hsb.cell 2 (by omega)
  have c3 := hsb.cell 3 (by omega)
  refine wpOpIn_stepT hF ho (fun K hK => ?_)
  clear ho
  rw [Oper.semAt_plain Fc _ _ (by intro c h; cases h)]
  simp only [soneR_o31]
  go_simp
  exact hK _ _ ⟨_, act_putD x hdef _ _, rfl, Below.refl _ _⟩
set_option maxRecDepth 100000 in
set_option maxHeartbeats 2000000 in
theorem soneR_s32 {Fc : Fence} (hF : Wide Fc) {nC : Nat} (b b2 : Nat) (H : Nat → Bool) (Q : Exit → Act → World → Prop) (df : List Deferred) (w0 : World)
    (hS : SBox w0 b2 H) (hT : Tab w0) (hb8 : b < 256)
    (x : Act) (w : World) (hB : Below w0.heap.size w0 w) (hdef : x.defers = df) (u1 : x.tmps.getD 1 undef = .int .u8 (b : Nat)) (u2 : x.tmps.getD 2 undef = .pointer (some ⟨b2, 0, none⟩))
    (p31 : soneR_val b b2 H 31 (x.tmps.getD 36 undef) w)
    (p28 : soneR_val b b2 H 28 (x.tmps.getD 33 undef) w)
    : wpOpIn Fc nC Tryd.prog soneR_ops Q 32 (fun a' w' => ∃ v, a' = x.put (some 37) v ∧ (∃ A C, v = .slice A (bl H 256).length C ∧ w'.ownsRow 0 5 1 (.slice A (bl H 256).length C) (bl H 256).length (lc (bl H 256))) ∧ Below w.heap.size w w') x w := by
  have ho : soneR_ops[32]? = some soneR_o32 := rfl
  simp only [Array.getD_eq_getD_getElem?] at u1 u2
  have q31 : x.tmps.getD 36 undef = sv H := p31
  have q28 : x.tmps.getD 33 undef = .bool true := p28
  simp only [Array.getD_eq_getD_getElem?] at q31 q28
  have e28 : (soneR_ops[28]?.bind fun x => x.dst) = some 33 := rfl
  have g28 := get_someT q28 (fun h => by cases h)
  refine wpOpIn_stepT hF ho (fun K hK => ?_)
  clear ho
  rw [Oper.semAt_plain Fc _ _ (by intro c h; cases h)]
  simp only [soneR_o32]
  go_simp
  refine ⟨hF.deep, (hF.call (refBytes_any H w)).mono ?_⟩
  rintro e w' ⟨v, rfl, ho, hb⟩
  obtain ⟨A, C, rfl⟩ := owns_slice ho
  exact hK _ _ ⟨_, act_putD x hdef _ _, ⟨A, C, rfl, owns_lower ho (Nat.zero_le _)⟩, hb⟩
set_option maxRecDepth 100000 in
set_option maxHeartbeats 2000000 in
theorem soneR_s33 {Fc : Fence} (hF : Wide Fc) {nC : Nat} (b b2 : Nat) (H : Nat → Bool) (Q : Exit → Act → World → Prop) (df : List Deferred) (w0 : World)
    (hS : SBox w0 b2 H) (hT : Tab w0) (hb8 : b < 256)
    (x : Act) (w : World) (hB : Below w0.heap.size w0 w) (hdef : x.defers = df) (u1 : x.tmps.getD 1 undef = .int .u8 (b : Nat)) (u2 : x.tmps.getD 2 undef = .pointer (some ⟨b2, 0, none⟩))
    (p30 : soneR_val b b2 H 30 (x.tmps.getD 35 undef) w)
    (p32 : soneR_val b b2 H 32 (x.tmps.getD 37 undef) w)
    (p28 : soneR_val b b2 H 28 (x.tmps.getD 33 undef) w)
    : wpOpIn Fc nC Tryd.prog soneR_ops Q 33 (fun a' w' => ∃ v, a' = x.put (some 38) v ∧ (v = .bool true) ∧ Below w.heap.size w w') x w := by
  have ho : soneR_ops[33]? = some soneR_o33 := rfl
  simp only [Array.getD_eq_getD_getElem?] at u1 u2
  obtain ⟨A30, C30, q30, p30⟩ := p30
  have q30 : x.tmps.getD 35 undef = .slice A30 (bl H 256).length C30 := q30
  obtain ⟨A32, C32, q32, p32⟩ := p32
  have q32 : x.tmps.getD 37 undef = .slice A32 (bl H 256).length C32 := q32
  have q28 : x.tmps.getD 33 undef = .bool true := p28
  simp only [Array.getD_eq_getD_getElem?] at q30 q32 q28
  have e28 : (soneR_ops[28]?.bind fun x => x.dst) = some 33 := rfl
  have g28 := get_someT q28 (fun h => by cases h)
  have hbl : (bl H 256).length ≤ 256 := bl_length_le H 256
  have hlt : ∀ b ∈ bl H 256, b < 256 := fun b hb => (mem_bl.1 hb).1
  obtain ⟨_, B30, D30, e30, _, _, _, _, bl30, _⟩ := owns_bl p30 hlt
  cases e30
  obtain ⟨_, B32, D32, e32, _, _, _, _, bl32, _⟩ := owns_bl p32 hlt
  cases e32
  refine wpOpIn_stepT hF ho (fun K hK => ?_)
  clear ho
  rw [Oper.semAt_plain Fc _ _ (by intro c h; cases h)]
  simp only [soneR_o33]
  go_simp
  refine ⟨hF.deep, (hF.call (sameBytes_any _ _ _ _ _ (bl H 256) w rfl (by omega) bl30 bl32)).mono ?_⟩
  rintro e w' ⟨rfl, hb⟩
  exact hK _ _ ⟨_, act_putD x hdef _ _, rfl, hb⟩
set_option maxRecDepth 100000 in
set_option maxHeartbeats 2000000 in
theorem soneR_s34 {Fc : Fence} (hF : Wide Fc) {nC : Nat} (b b2 : Nat) (H : Nat → Bool) (Q : Exit → Act → World → Prop) (df : List Deferred) (w0 : World)
    (hS : SBox w0 b2 H) (hT : Tab w0) (hb8 : b < 256)
    (x : Act) (w : World) (hB : Below w0.heap.size w0 w) (hdef : x.defers = df) (u1 : x.tmps.getD 1 undef = .int .u8 (b : Nat)) (u2 : x.tmps.getD 2 undef = .pointer (some ⟨b2, 0, none⟩))
    (p28 : soneR_val b b2 H 28 (x.tmps.getD 33 undef) w)
    (p33 : soneR_val b b2 H 33 (x.tmps.getD 38 undef) w)
    : wpOpIn Fc nC Tryd.prog soneR_ops Q 34 (fun a' w' => ∃ v, a' = x.put (some 39) v ∧ (v = .bool true) ∧ Below w.heap.size w w') x w := by
  have ho : soneR_ops[34]? = some soneR_o34 := rfl
  simp only [Array.getD_eq_getD_getElem?] at u1 u2
  have q28 : x.tmps.getD 33 undef = .bool true := p28
  have q33 : x.tmps.getD 38 undef = .bool true := p33
  simp only [Array.getD_eq_getD_getElem?] at q28 q33
  refine wpOpIn_plain ho rfl (oper_inK hF.fn (fun K hK => ?_))
  clear ho
  rw [Oper.semAt_plain Fc _ _ (by intro c h; cases h)]
  simp only [soneR_o34]
  go_simp
  exact hK _ _ ⟨_, act_putD x hdef _ _, rfl, Below.refl _ _⟩
set_option maxRecDepth 100000 in
set_option maxHeartbeats 2000000 in
theorem soneR_s35 {Fc : Fence} (hF : Wide Fc) {nC : Nat} (b b2 : Nat) (H : Nat → Bool) (Q : Exit → Act → World → Prop) (df : List Deferred) (w0 : World)
    (hS : SBox w0 b2 H) (hT : Tab w0) (hb8 : b < 256)
    (x : Act) (w : World) (hB : Below w0.heap.size w0 w) (hdef : x.defers = df) (u1 : x.tmps.getD 1 undef = .int .u8 (b : Nat)) (u2 : x.tmps.getD 2 undef = .pointer (some ⟨b2, 0, none⟩))
    (p34 : soneR_val b b2 H 34 (x.tmps.getD 39 undef) w)
    : wpOpIn Fc nC Tryd.prog soneR_ops Q 35 (fun a' w' => ∃ v, a' = x.put (some 40) v ∧ (v = .bool true) ∧ Below w.heap.size w w') x w := by
  have ho : soneR_ops[35]? = some soneR_o35 := rfl
  simp only [Array.getD_eq_getD_getElem?] at u1 u2
  have q34 : x.tmps.getD 39 undef = .bool true := p34
  simp only [Array.getD_eq_getD_getElem?] at q34
  refine wpOpIn_plain ho rfl (oper_inK hF.fn (fun K hK => ?_))
  clear ho
  rw [Oper.semAt_plain Fc _ _ (by intro c h; cases h)]
  simp only [soneR_o35]
  go_simp
  exact hK _ _ ⟨_, act_putD x hdef _ _, rfl, Below.refl _ _⟩
set_option maxRecDepth 100000 in
set_option maxHeartbeats 2000000 in
theorem soneR_s36 {Fc : Fence} (hF : Wide Fc) {nC : Nat} (b b2 : Nat) (H : Nat → Bool) (Q : Exit → Act → World → Prop) (df : List Deferred) (w0 : World)
    (hS : SBox w0 b2 H) (hT : Tab w0) (hb8 : b < 256)
    (x : Act) (w : World) (hB : Below w0.heap.size w0 w) (hdef : x.defers = df) (u1 : x.tmps.getD 1 undef = .int .u8 (b : Nat)) (u2 : x.tmps.getD 2 undef = .pointer (some ⟨b2, 0, none⟩))
    (p35 : soneR_val b b2 H 35 (x.tmps.getD 40 undef) w)
    : wpOpIn Fc nC Tryd.prog soneR_ops Q 36 (fun a' w' => ∃ v, a' = x.put (some 41) v ∧ (v = sv H) ∧ Below w.heap.size w w') x w := by
  have ho : soneR_ops[36]? = some soneR_o36 := rfl
  simp only [Array.getD_eq_getD_getElem?] at u1 u2
  have q35 : x.tmps.getD 40 undef = .bool true := p35
  simp only [Array.getD_eq_getD_getElem?] at q35
  have e35 : (soneR_ops[35]?.bind fun x => x.dst) = some 40 := rfl
  have g35 := get_someT q35 (fun h => by cases h)
  have hsb := hS.below hB hS.lt
  have c0 := hsb.cell 0 (by omega)
  have c1 := hsb.cell 1 (by omega)
  have c2 := hsb.cell 2 (by omega)
  have c3 := hsb.cell 3 (by omega)
  refine wpOpIn_stepT hF ho (fun K hK => ?_)
  clear ho
  rw [Oper.semAt_plain Fc _ _ (by intro c h; cases h)]
  simp only [soneR_o36]
  go_simp
  exact hK _ _ ⟨_, act_putD x hdef _ _, rfl, Below.refl _ _⟩
set_option maxRecDepth 100000 in
set_option maxHeartbeats 2000000 in
theorem soneR_s37 {Fc : Fence} (hF : Wide Fc) {nC : Nat} (b b2 : Nat) (H : Nat → Bool) (Q : Exit → Act → World → Prop) (df : List Deferred) (w0 : World)
    (hS : SBox w0 b2 H) (hT : Tab w0) (hb8 : b < 256)
    (x : Act) (w : World) (hB : Below w0.heap.size w0 w) (hdef : x.defers = df) (u1 : x.tmps.getD 1 undef = .int .u8 (b : Nat)) (u2 : x.tmps.getD 2 undef = .pointer (some ⟨b2, 0, none⟩))
    (p36 : soneR_val b b2 H 36 (x.tmps.getD 41 undef) w)
    (p35 : soneR_val b b2 H 35 (x.tmps.getD 40 undef) w)
    : wpOpIn Fc nC Tryd.prog soneR_ops Q 37 (fun a' w' => ∃ v, a' = x.put (some 42) v ∧ (∃ A C, v = .slice A (rl (bl H 256)).length C ∧ w'.ownsRow 0 45 2 (.slice A (rl (bl H 256)).length C) (rl (bl H 256)).length (rgc (rl (bl H 256)))) ∧ Below w.heap.size w w') x w := by
  have ho : soneR_ops[37]? = some soneR_o37 := rfl
  simp only [Array.getD_eq_getD_getElem?] at u1 u2
  have q36 : x.tmps.getD 41 undef = sv H := p36
  have q35 : x.tmps.getD 40 undef = .bool true := p35
  simp only [Array.getD_eq_getD_getElem?] at q36 q35
  have e35 : (soneR_ops[35]?.bind fun x => x.dst) = some 40 := rfl
  have g35 := get_someT q35 (fun h => by cases h)
  refine wpOpIn_stepT hF ho (fun K hK => ?_)
  clear ho
  rw [Oper.semAt_plain Fc _ _ (by intro c h; cases h)]
  simp only [soneR_o37]
  go_simp
  refine ⟨hF.deep, (hF.call (ranges_any H w (hT.below hB))).mono ?_⟩
  rintro e w' ⟨v, rfl, ho, hb⟩
  obtain ⟨A, C, rfl⟩ := owns_slice ho
  exact hK _ _ ⟨_, act_putD x hdef _ _, ⟨A, C, rfl, owns_lower ho (Nat.zero_le _)⟩, hb⟩
set_option maxRecDepth 100000 in
set_option maxHeartbeats 2000000 in
theorem soneR_s38 {Fc : Fence} (hF : Wide Fc) {nC : Nat} (b b2 : Nat) (H : Nat → Bool) (Q : Exit → Act → World → Prop) (df : List Deferred) (w0 : World)
    (hS : SBox w0 b2 H) (hT : Tab w0) (hb8 : b < 256)
    (x : Act) (w : World) (hB : Below w0.heap.size w0 w) (hdef : x.defers = df) (u1 : x.tmps.getD 1 undef = .int .u8 (b : Nat)) (u2 : x.tmps.getD 2 undef = .pointer (some ⟨b2, 0, none⟩))
    (p35 : soneR_val b b2 H 35 (x.tmps.getD 40 undef) w)
    : wpOpIn Fc nC Tryd.prog soneR_ops Q 38 (fun a' w' => ∃ v, a' = x.put (some 43) v ∧ (v = sv H) ∧ Below w.heap.size w w') x w := by
  have ho : soneR_ops[38]? = some soneR_o38 := rfl
  simp only [Array.getD_eq_getD_getElem?] at u1 u2
  have q35 : x.tmps.getD 40 undef = .bool true := p35
  simp only [Array.getD_eq_getD_getElem?] at q35
  have e35 : (soneR_ops[35]?.bind fun x => x.dst) = some 40 := rfl
  have g35 := get_someT q35 (fun h => by cases h)
  have hsb := hS.below hB hS.lt
  have c0 := hsb.cell 0 (by omega)
  have c1 := hsb.cell 1 (by omega)
  have c2 := hsb.cell 2 (by omega)
  have c3 := hsb.cell 3 (by omega)
  refine wpOpIn_stepT hF ho (fun K hK => ?_)
  clear ho
  rw [Oper.semAt_plain Fc _ _ (by intro c h; cases h)]
  simp only [soneR_o38]
  go_simp
  exact hK _ _ ⟨_, act_putD x hdef _ _, rfl, Below.refl _ _⟩
set_option maxRecDepth 100000 in
set_option maxHeartbeats 2000000 in
theorem soneR_s39 {Fc : Fence} (hF : Wide Fc) {nC : Nat} (b b2 : Nat) (H : Nat → Bool) (Q : Exit → Act → World → Prop) (df : List Deferred) (w0 : World)
    (hS : SBox w0 b2 H) (hT : Tab w0) (hb8 : b < 256)
    (x : Act) (w : World) (hB : Below w0.heap.size w0 w) (hdef : x.defers = df) (u1 : x.tmps.getD 1 undef = .int .u8 (b : Nat)) (u2 : x.tmps.getD 2 undef = .pointer (some ⟨b2, 0, none⟩))
    (p38 : soneR_val b b2 H 38 (x.tmps.getD 43 undef) w)
    (p35 : soneR_val b b2 H 35 (x.tmps.getD 40 undef) w)
    : wpOpIn Fc nC Tryd.prog soneR_ops Q 39 (fun a' w' => ∃ v, a' = x.put (some 44) v ∧ (∃ A C, v = .slice A (rl (bl H 256)).length C ∧ w'.ownsRow 0 45 2 (.slice A (rl (bl H 256)).length C) (rl (bl H 256)).length (rgc (rl (bl H 256)))) ∧ Below w.heap.size w w') x w := by
  have ho : soneR_ops[39]? = some soneR_o39 := rfl
  simp only [Array.getD_eq_getD_getElem?] at u1 u2
  have q38 : x.tmps.getD 43 undef = sv H := p38
  have q35 : x.tmps.getD 40 undef = .bool true := p35
  simp only [Array.getD_eq_getD_getElem?] at q38 q35
  have e35 : (soneR_ops[35]?.bind fun x => x.dst) = some 40 := rfl
  have g35 := get_someT q35 (fun h => by cases h)
  refine wpOpIn_stepT hF ho (fun K hK => ?_)
  clear ho
  rw [Oper.semAt_plain Fc _ _ (by intro c h; cases h)]
  simp only [soneR_o39]
  go_simp
  refine ⟨hF.deep, (hF.call (refRanges_any H w)).mono ?_⟩
  rintro e w' ⟨v, rfl, ho, hb⟩
  obtain ⟨A, C, rfl⟩ := owns_slice ho
  exact hK _ _ ⟨_, act_putD x hdef _ _, ⟨A, C, rfl, owns_lower ho (Nat.zero_le _)⟩, hb⟩
set_option maxRecDepth 100000 in
set_option maxHeartbeats 2000000 in
theorem soneR_s40 {Fc : Fence} (hF : Wide Fc) {nC : Nat} (b b2 : Nat) (H : Nat → Bool) (Q : Exit → Act → World → Prop) (df : List Deferred) (w0 : World)
    (hS : SBox w0 b2 H) (hT : Tab w0) (hb8 : b < 256)
    (x : Act) (w : World) (hB : Below w0.heap.size w0 w) (hdef : x.defers = df) (u1 : x.tmps.getD 1 undef = .int .u8 (b : Nat)) (u2 : x.tmps.getD 2 undef = .pointer (some ⟨b2, 0, none⟩))
    (p37 : soneR_val b b2 H 37 (x.tmps.getD 42 undef) w)
    (p39 : soneR_val b b2 H 39 (x.tmps.getD 44 undef) w)
    (p35 : soneR_val b b2 H 35 (x.tmps.getD 40 undef) w)
    : wpOpIn Fc nC Tryd.prog soneR_ops Q 40 (fun a' w' => ∃ v, a' = x.put (some 45) v ∧ (v = .bool true) ∧ Below w.heap.size w w') x w := by
  have ho : soneR_ops[40]? = some soneR_o40 := rfl
  simp only [Array.getD_eq_getD_getElem?] at u1 u2
  obtain ⟨A37, C37, q37, p37⟩ := p37
  have q37 : x.tmps.getD 42 undef = .slice A37 (rl (bl H 256)).length C37 := q37
  obtain ⟨A39, C39, q39, p39⟩ := p39
  have q39 : x.tmps.getD 44 undef = .slice A39 (rl (bl H 256)).length C39 := q39
  have q35 : x.tmps.getD 40 undef = .bool true := p35
  simp only [Array.getD_eq_getD_getElem?] at q37 q39 q35
  have e35 : (soneR_ops[35]?.bind fun x => x.dst) = some 40 := rfl
  have g35 := get_someT q35 (fun h => by cases h)
  have hbl : (bl H 256).length ≤ 256 := bl_length_le H 256
  have hlt : ∀ b ∈ bl H 256, b < 256 := fun b hb => (mem_bl.1 hb).1
  have hrl := rl_length (bl H 256)
  refine wpOpIn_stepT hF ho (fun K hK => ?_)
  clear ho
  rw [Oper.semAt_plain Fc _ _ (by intro c h; cases h)]
  simp only [soneR_o40]
  go_simp
  refine ⟨hF.deep, (hF.call (lawRanges_any _ _ _ _ _ 0 0 (rl (bl H 256)) w rfl (by omega) p37 p39)).mono ?_⟩
  rintro e w' ⟨rfl, hb⟩
  exact hK _ _ ⟨_, act_putD x hdef _ _, rfl, hb⟩
set_option maxRecDepth 100000 in
set_option maxHeartbeats 2000000 in
theorem soneR_s41 {Fc : Fence} (hF : Wide Fc) {nC : Nat} (b b2 : Nat) (H : Nat → Bool) (Q : Exit → Act → World → Prop) (df : List Deferred) (w0 : World)
    (hS : SBox w0 b2 H) (hT : Tab w0) (hb8 : b < 256)
    (x : Act) (w : World) (hB : Below w0.heap.size w0 w) (hdef : x.defers = df) (u1 : x.tmps.getD 1 undef = .int .u8 (b : Nat)) (u2 : x.tmps.getD 2 undef = .pointer (some ⟨b2, 0, none⟩))
    (p35 : soneR_val b b2 H 35 (x.tmps.getD 40 undef) w)
    (p40 : soneR_val b b2 H 40 (x.tmps.getD 45 undef) w)
    : wpOpIn Fc nC Tryd.prog soneR_ops Q 41 (fun a' w' => ∃ v, a' = x.put (some 46) v ∧ (v = .bool true) ∧ Below w.heap.size w w') x w := by
  have ho : soneR_ops[41]? = some soneR_o41 := rfl
  simp only [Array.getD_eq_getD_getElem?] at u1 u2
  have q35 : x.tmps.getD 40 undef = .bool true := p35
  have q40 : x.tmps.getD 45 undef = .bool true := p40
  simp only [Array.getD_eq_getD_getElem?] at q35 q40
  refine wpOpIn_plain ho rfl (oper_inK hF.fn (fun K hK => ?_))
  clear ho
  rw [Oper.semAt_plain Fc _ _ (by intro c h; cases h)]
  simp only [soneR_o41]
  go_simp
  exact hK _ _ ⟨_, act_putD x hdef _ _, rfl, Below.refl _ _⟩
set_option maxRecDepth 100000 in
set_option maxHeartbeats 2000000 in
theorem soneR_s42 {Fc : Fence} (hF : Wide Fc) {nC : Nat} (b b2 : Nat) (H : Nat → Bool) (Q : Exit → Act → World → Prop) (df : List Deferred) (w0 : World)
    (hS : SBox w0 b2 H) (hT : Tab w0) (hb8 : b < 256)
    (x : Act) (w : World) (hB : Below w0.heap.size w0 w) (hdef : x.defers = df) (u1 : x.tmps.getD 1 undef = .int .u8 (b : Nat)) (u2 : x.tmps.getD 2 undef = .pointer (some ⟨b2, 0, none⟩))
    (p41 : soneR_val b b2 H 41 (x.tmps.getD 46 undef) w)
    : wpOpIn Fc nC Tryd.prog soneR_ops Q 42 (fun a' w' => ∃ v, a' = x.put (some 4) v ∧ (v = .bool true) ∧ Below w.heap.size w w') x w := by
  have ho : soneR_ops[42]? = some soneR_o42 := rfl
  simp only [Array.getD_eq_getD_getElem?] at u1 u2
  have q41 : x.tmps.getD 46 undef = .bool true := p41
  simp only [Array.getD_eq_getD_getElem?] at q41
  refine wpOpIn_plain ho rfl (oper_inK hF.fn (fun K hK => ?_))
  clear ho
  rw [Oper.semAt_plain Fc _ _ (by intro c h; cases h)]
  simp only [soneR_o42]
  go_simp
  exact hK _ _ ⟨_, act_putD x hdef _ _, rfl, Below.refl _ _⟩

set_option maxRecDepth 100000 in
set_option maxHeartbeats 4000000 in
theorem soneR {Fc : Fence} (hF : Wide Fc) {nC : Nat} (b b2 : Nat) (H : Nat → Bool) (Q : Exit → Act → World → Prop) (t0 : Array Value) (df : List Deferred) (w0 : World) (ht : t0.size = 47)
    (hs1 : t0.getD 1 undef = .int .u8 (b : Nat)) (hs2 : t0.getD 2 undef = .pointer (some ⟨b2, 0, none⟩))
    (hS : SBox w0 b2 H) (hT : Tab w0) (hb8 : b < 256)
    (hQ : ∀ (vs : Nat → Value) (w : World), Below w0.heap.size w0 w → (vs 4 = .bool true) → Q .normal { tmps := [5, 6, 7, 8, 9, 10, 11, 12, 13, 14, 15, 16, 17, 18, 19, 20, 21, 22, 23, 24, 25, 26, 27, 28, 29, 30, 31, 32, 33, 34, 35, 36, 37, 38, 39, 40, 41, 42, 43, 44, 45, 46, 4].foldl (fun y d => y.setIfInBounds d (vs d)) t0, defers := df } w) :
    (Code.region 1 soneR_ops true).wpIn Fc nC Tryd.prog Q { tmps := t0, defers := df } w0 := by
  refine wpIn_region_tail 43 (by decide) (by kernel_rfl) (fun a b => Below a.heap.size a b) (soneR_val b b2 H) t0 df w0 (by rw [ht]; kernel_rfl) (by kernel_rfl) (by kernel_rfl) (by kernel_rfl) ((Below.refl _ _).drew) (fun _ _ _ h k => h.trans (k.mono h.size)) (soneR_below b b2 H) ?_ ?_
  · intro j o ho hj x w hB hdef hsz hs hdeps
    have hs' : ∀ s, ¬ soneR_mem s → x.tmps.getD s undef = t0.getD s undef := fun s hn => hs s (fun j hj e => hn (by rw [e]; exact soneR_slots j hj))
    have u1 := (hs' 1 (by decide)).trans hs1
    have u2 := (hs' 2 (by decide)).trans hs2
    match j, ho, hj with
    | 0, ho, _ =>
      have e : o = soneR_o0 := (Option.some.inj ho).symm
      subst e
      exact soneR_s0 hF b b2 H Q df w0 hS hT hb8 x w hB hdef u1 u2 
    | 1, ho, _ =>
      have e : o = soneR_o1 := (Option.some.inj ho).symm
      subst e
      exact soneR_s1 hF b b2 H Q df w0 hS hT hb8 x w hB hdef u1 u2 (hdeps { on := 0, ground := Ground.data } (by simp) rfl)
    | 2, ho, _ =>
      have e : o = soneR_o2 := (Option.some.inj ho).symm
      subst e
      exact soneR_s2 hF b b2 H Q df w0 hS hT hb8 x w hB hdef u1 u2 
    | 3, ho, _ =>
      have e : o = soneR_o3 := (Option.some.inj ho).symm
      subst e
      exact soneR_s3 hF b b2 H Q df w0 hS hT hb8 x w hB hdef u1 u2 (hdeps { on := 2, ground := Ground.data } (by simp) rfl)
    | 4, ho, _ =>
      have e : o = soneR_o4 := (Option.some.inj ho).symm
      subst e
      exact soneR_s4 hF b b2 H Q df w0 hS hT hb8 x w hB hdef u1 u2 (hdeps { on := 1, ground := Ground.data } (by simp) rfl) (hdeps { on := 3, ground := Ground.data } (by simp) rfl)
    | 5, ho, _ =>
      have e : o = soneR_o5 := (Option.some.inj ho).symm
      subst e
      exact soneR_s5 hF b b2 H Q df w0 hS hT hb8 x w hB hdef u1 u2 (hdeps { on := 4, ground := Ground.data } (by simp) rfl)
    | 6, ho, _ =>
      have e : o = soneR_o6 := (Option.some.inj ho).symm
      subst e
      exact soneR_s6 hF b b2 H Q df w0 hS hT hb8 x w hB hdef u1 u2 (hdeps { on := 5, ground := Ground.guard } (by simp) rfl)
    | 7, ho, _ =>
      have e : o = soneR_o7 := (Option.some.inj ho).symm
      subst e
      exact soneR_s7 hF b b2 H Q df w0 hS hT hb8 x w hB hdef u1 u2 (hdeps { on := 6, ground := Ground.data } (by simp) rfl) (hdeps { on := 5, ground := Ground.guard } (by simp) rfl)
    | 8, ho, _ =>
      have e : o = soneR_o8 := (Option.some.inj ho).symm
      subst e
      exact soneR_s8 hF b b2 H Q df w0 hS hT hb8 x w hB hdef u1 u2 (hdeps { on := 5, ground := Ground.guard } (by simp) rfl)
    | 9, ho, _ =>
      have e : o = soneR_o9 := (Option.some.inj ho).symm
      subst e
      exact soneR_s9 hF b b2 H Q df w0 hS hT hb8 x w hB hdef u1 u2 (hdeps { on := 8, ground := Ground.data } (by simp) rfl) (hdeps { on := 5, ground := Ground.guard } (by simp) rfl)
    | 10, ho, _ =>
      have e : o = soneR_o10 := (Option.some.inj ho).symm
      subst e
      exact soneR_s10 hF b b2 H Q df w0 hS hT hb8 x w hB hdef u1 u2 (hdeps { on := 7, ground := Ground.data } (by simp) rfl) (hdeps { on := 9, ground := Ground.data } (by simp) rfl) (hdeps { on := 5, ground := Ground.guard } (by simp) rfl)
    | 11, ho, _ =>
      have e : o = soneR_o11 := (Option.some.inj ho).symm
      subst e
      exact soneR_s11 hF b b2 H Q df w0 hS hT hb8 x w hB hdef u1 u2 (hdeps { on := 5, ground := Ground.data } (by simp) rfl) (hdeps { on := 10, ground := Ground.data } (by simp) rfl)
    | 12, ho, _ =>
      have e : o = soneR_o12 := (Option.some.inj ho).symm
      subst e
      exact soneR_s12 hF b b2 H Q df w0 hS hT hb8 x w hB hdef u1 u2 (hdeps { on := 11, ground := Ground.data } (by simp) rfl)
    | 13, ho, _ =>
      have e : o = soneR_o13 := (Option.some.inj ho).symm
      subst e
      exact soneR_s13 hF b b2 H Q df w0 hS hT hb8 x w hB hdef u1 u2 (hdeps { on := 12, ground := Ground.guard } (by simp) rfl)
    | 14, ho, _ =>
      have e : o = soneR_o14 := (Option.some.inj ho).symm
      subst e
      exact soneR_s14 hF b b2 H Q df w0 hS hT hb8 x w hB hdef u1 u2 (hdeps { on := 12, ground := Ground.guard } (by simp) rfl)
    | 15, ho, _ =>
      have e : o = soneR_o15 := (Option.some.inj ho).symm
      subst e
      exact soneR_s15 hF b b2 H Q df w0 hS hT hb8 x w hB hdef u1 u2 (hdeps { on := 13, ground := Ground.data } (by simp) rfl) (hdeps { on := 14, ground := Ground.data } (by simp) rfl) (hdeps { on := 12, ground := Ground.guard } (by simp) rfl)
    | 16, ho, _ =>
      have e : o = soneR_o16 := (Option.some.inj ho).symm
      subst e
      exact soneR_s16 hF b b2 H Q df w0 hS hT hb8 x w hB hdef u1 u2 (hdeps { on := 12, ground := Ground.guard } (by simp) rfl)
    | 17, ho, _ =>
      have e : o = soneR_o17 := (Option.some.inj ho).symm
      subst e
      exact soneR_s17 hF b b2 H Q df w0 hS hT hb8 x w hB hdef u1 u2 (hdeps { on := 12, ground := Ground.guard } (by simp) rfl)
    | 18, ho, _ =>
      have e : o = soneR_o18 := (Option.some.inj ho).symm
      subst e
      exact soneR_s18 hF b b2 H Q df w0 hS hT hb8 x w hB hdef u1 u2 (hdeps { on := 16, ground := Ground.data } (by simp) rfl) (hdeps { on := 17, ground := Ground.data } (by simp) rfl) (hdeps { on := 12, ground := Ground.guard } (by simp) rfl)
    | 19, ho, _ =>
      have e : o = soneR_o19 := (Option.some.inj ho).symm
      subst e
      exact soneR_s19 hF b b2 H Q df w0 hS hT hb8 x w hB hdef u1 u2 (hdeps { on := 15, ground := Ground.data } (by simp) rfl) (hdeps { on := 18, ground := Ground.data } (by simp) rfl) (hdeps { on := 12, ground := Ground.guard } (by simp) rfl)
    | 20, ho, _ =>
      have e : o = soneR_o20 := (Option.some.inj ho).symm
      subst e
      exact soneR_s20 hF b b2 H Q df w0 hS hT hb8 x w hB hdef u1 u2 (hdeps { on := 12, ground := Ground.data } (by simp) rfl) (hdeps { on := 19, ground := Ground.data } (by simp) rfl)
    | 21, ho, _ =>
      have e : o = soneR_o21 := (Option.some.inj ho).symm
      subst e
      exact soneR_s21 hF b b2 H Q df w0 hS hT hb8 x w hB hdef u1 u2 (hdeps { on := 20, ground := Ground.data } (by simp) rfl)
    | 22, ho, _ =>
      have e : o = soneR_o22 := (Option.some.inj ho).symm
      subst e
      exact soneR_s22 hF b b2 H Q df w0 hS hT hb8 x w hB hdef u1 u2 (hdeps { on := 21, ground := Ground.guard } (by simp) rfl)
    | 23, ho, _ =>
      have e : o = soneR_o23 := (Option.some.inj ho).symm
      subst e
      exact soneR_s23 hF b b2 H Q df w0 hS hT hb8 x w hB hdef u1 u2 (hdeps { on := 22, ground := Ground.data } (by simp) rfl) (hdeps { on := 21, ground := Ground.guard } (by simp) rfl)
    | 24, ho, _ =>
      have e : o = soneR_o24 := (Option.some.inj ho).symm
      subst e
      exact soneR_s24 hF b b2 H Q df w0 hS hT hb8 x w hB hdef u1 u2 (hdeps { on := 21, ground := Ground.guard } (by simp) rfl)
    | 25, ho, _ =>
      have e : o = soneR_o25 := (Option.some.inj ho).symm
      subst e
      exact soneR_s25 hF b b2 H Q df w0 hS hT hb8 x w hB hdef u1 u2 (hdeps { on := 24, ground := Ground.data } (by simp) rfl) (hdeps { on := 21, ground := Ground.guard } (by simp) rfl)
    | 26, ho, _ =>
      have e : o = soneR_o26 := (Option.some.inj ho).symm
      subst e
      exact soneR_s26 hF b b2 H Q df w0 hS hT hb8 x w hB hdef u1 u2 (hdeps { on := 23, ground := Ground.data } (by simp) rfl) (hdeps { on := 25, ground := Ground.data } (by simp) rfl) (hdeps { on := 21, ground := Ground.guard } (by simp) rfl)
    | 27, ho, _ =>
      have e : o = soneR_o27 := (Option.some.inj ho).symm
      subst e
      exact soneR_s27 hF b b2 H Q df w0 hS hT hb8 x w hB hdef u1 u2 (hdeps { on := 21, ground := Ground.data } (by simp) rfl) (hdeps { on := 26, ground := Ground.data } (by simp) rfl)
    | 28, ho, _ =>
      have e : o = soneR_o28 := (Option.some.inj ho).symm
      subst e
      exact soneR_s28 hF b b2 H Q df w0 hS hT hb8 x w hB hdef u1 u2 (hdeps { on := 27, ground := Ground.data } (by simp) rfl)
    | 29, ho, _ =>
      have e : o = soneR_o29 := (Option.some.inj ho).symm
      subst e
      exact soneR_s29 hF b b2 H Q df w0 hS hT hb8 x w hB hdef u1 u2 (hdeps { on := 28, ground := Ground.guard } (by simp) rfl)
    | 30, ho, _ =>
      have e : o = soneR_o30 := (Option.some.inj ho).symm
      subst e
      exact soneR_s30 hF b b2 H Q df w0 hS hT hb8 x w hB hdef u1 u2 (hdeps { on := 29, ground := Ground.data } (by simp) rfl) (hdeps { on := 28, ground := Ground.guard } (by simp) rfl)
    | 31, ho, _ =>
      have e : o = soneR_o31 := (Option.some.inj ho).symm
      subst e
      exact soneR_s31 hF b b2 H Q df w0 hS hT hb8 x w hB hdef u1 u2 (hdeps { on := 28, ground := Ground.guard } (by simp) rfl)
    | 32, ho, _ =>
      have e : o = soneR_o32 := (Option.some.inj ho).symm
      subst e
      exact soneR_s32 hF b b2 H Q df w0 hS hT hb8 x w hB hdef u1 u2 (hdeps { on := 31, ground := Ground.data } (by simp) rfl) (hdeps { on := 28, ground := Ground.guard } (by simp) rfl)
    | 33, ho, _ =>
      have e : o = soneR_o33 := (Option.some.inj ho).symm
      subst e
      exact soneR_s33 hF b b2 H Q df w0 hS hT hb8 x w hB hdef u1 u2 (hdeps { on := 30, ground := Ground.data } (by simp) rfl) (hdeps { on := 32, ground := Ground.data } (by simp) rfl) (hdeps { on := 28, ground := Ground.guard } (by simp) rfl)
    | 34, ho, _ =>
      have e : o = soneR_o34 := (Option.some.inj ho).symm
      subst e
      exact soneR_s34 hF b b2 H Q df w0 hS hT hb8 x w hB hdef u1 u2 (hdeps { on := 28, ground := Ground.data } (by simp) rfl) (hdeps { on := 33, ground := Ground.data } (by simp) rfl)
    | 35, ho, _ =>
      have e : o = soneR_o35 := (Option.some.inj ho).symm
      subst e
      exact soneR_s35 hF b b2 H Q df w0 hS hT hb8 x w hB hdef u1 u2 (hdeps { on := 34, ground := Ground.data } (by simp) rfl)
    | 36, ho, _ =>
      have e : o = soneR_o36 := (Option.some.inj ho).symm
      subst e
      exact soneR_s36 hF b b2 H Q df w0 hS hT hb8 x w hB hdef u1 u2 (hdeps { on := 35, ground := Ground.guard } (by simp) rfl)
    | 37, ho, _ =>
      have e : o = soneR_o37 := (Option.some.inj ho).symm
      subst e
      exact soneR_s37 hF b b2 H Q df w0 hS hT hb8 x w hB hdef u1 u2 (hdeps { on := 36, ground := Ground.data } (by simp) rfl) (hdeps { on := 35, ground := Ground.guard } (by simp) rfl)
    | 38, ho, _ =>
      have e : o = soneR_o38 := (Option.some.inj ho).symm
      subst e
      exact soneR_s38 hF b b2 H Q df w0 hS hT hb8 x w hB hdef u1 u2 (hdeps { on := 35, ground := Ground.guard } (by simp) rfl)
    | 39, ho, _ =>
      have e : o = soneR_o39 := (Option.some.inj ho).symm
      subst e
      exact soneR_s39 hF b b2 H Q df w0 hS hT hb8 x w hB hdef u1 u2 (hdeps { on := 38, ground := Ground.data } (by simp) rfl) (hdeps { on := 35, ground := Ground.guard } (by simp) rfl)
    | 40, ho, _ =>
      have e : o = soneR_o40 := (Option.some.inj ho).symm
      subst e
      exact soneR_s40 hF b b2 H Q df w0 hS hT hb8 x w hB hdef u1 u2 (hdeps { on := 37, ground := Ground.data } (by simp) rfl) (hdeps { on := 39, ground := Ground.data } (by simp) rfl) (hdeps { on := 35, ground := Ground.guard } (by simp) rfl)
    | 41, ho, _ =>
      have e : o = soneR_o41 := (Option.some.inj ho).symm
      subst e
      exact soneR_s41 hF b b2 H Q df w0 hS hT hb8 x w hB hdef u1 u2 (hdeps { on := 35, ground := Ground.data } (by simp) rfl) (hdeps { on := 40, ground := Ground.data } (by simp) rfl)
    | 42, ho, _ =>
      have e : o = soneR_o42 := (Option.some.inj ho).symm
      subst e
      exact soneR_s42 hF b b2 H Q df w0 hS hT hb8 x w hB hdef u1 u2 (hdeps { on := 41, ground := Ground.data } (by simp) rfl)
    | k + 43, _, hj => omega
  · intro x w hB hdef hsz hs hv
    have hx := frame_sets x.tmps t0 hsz [5, 6, 7, 8, 9, 10, 11, 12, 13, 14, 15, 16, 17, 18, 19, 20, 21, 22, 23, 24, 25, 26, 27, 28, 29, 30, 31, 32, 33, 34, 35, 36, 37, 38, 39, 40, 41, 42, 43, 44, 45, 46, 4] (fun s hn => hs s (fun j hj e => hn (by rw [e]; exact soneR_slots j hj)))
    have hq := hQ (fun d => x.tmps.getD d undef) w hB (hv 42 (by decide))
    obtain ⟨T, Df⟩ := x
    dsimp only at hx hdef hq
    subst hdef
    rw [← hx] at hq
    exact hq
end Go.Proofs.YtmnjicpgdhnimaaDoor
